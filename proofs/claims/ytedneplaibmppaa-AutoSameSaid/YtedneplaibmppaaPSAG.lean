/- Contracts of the functions that PSAG comes to. -/
import Derived.Test.YtedneplaibmppaaPSAF
set_option maxRecDepth 100000
set_option maxHeartbeats 2000000
set_option linter.unusedVariables false
set_option linter.unusedSectionVars false
set_option linter.unusedSimpArgs false
namespace Go.Proofs.Ytedneplaibmppaa
open Go.Rx Go.RowKit
theorem under64:Try.prog.underlying 64 = some (.array 2 3):=Try.underlying64
theorem pair_arg {ts:List Tr} (hy:TyT Try.prog 64 ts):∃ a b:Int,Rx.InR a∧Rx.InR b∧∀ h v,AbsT h v (.ag ts)→v = .agg ⟨[int a,int b]⟩:=by
 obtain ⟨hl,hx⟩:=ty_array under64 hy
 have hl:ts.length = 2:=hl.trans (by kernel_rfl)
 have f0:=hx 0 (by omega)
 have f1:=hx 1 (by omega)
 rw [cells3] at f0 f1
 match ts,hl with
 | [t0,t1],_ =>
 obtain ⟨a,e0,r0⟩:=ty_num under3 f0
 obtain ⟨b,e1,r1⟩:=ty_num under3 f1
 cases e0
 cases e1
 refine ⟨a,b,r0,r1,fun h v k=>?_⟩
 obtain ⟨vs,rfl,hvl,hk⟩:=ag_inv k
 match vs,hvl with
 | [v0,v1],_ =>
  have k0:=hk 0 v0 _ rfl rfl
  have k1:=hk 1 v1 _ rfl rfl
  cases k0
  cases k1
  rfl
theorem diff_at {a b:Mac} (ha:OkS a) (hb:OkS b) (hbb:a.base = b.base) {n:Int} {d:Bool} (k:DiffR a b (.tuple ⟨[int n,.bool d]⟩)):(d = false→n = 0∧Mac.Alike a b 0 0)∧(d = true→¬ Mac.Alike a b 0 0∧∃ w:Nat,n = w∧w < a.base ^ (a.out.length + b.out.length)∧a.at_ 0 w≠b.at_ 0 w):=by
 obtain ⟨n',d',e,h1,h2⟩:=k
 injection e with e
 injection e with e
 injection e with e1 e
 injection e with e2 e
 injection e1 with e11 e12
 injection e2 with e2
 subst e12
 subst e2
 refine ⟨h1,fun q=>?_⟩
 obtain ⟨w,hw,hl,hne,hv⟩:=h2 q
 have hn1:=ha.n12
 have hn2:=hb.n12
 refine ⟨fun k=>hne (k w hw),val a.base w,hv (by omega),?_,?_⟩
 ·have h3:=val_lt ha.ok.b1 hw
  have h4:a.base ^ w.length≤a.base ^ (a.out.length + b.out.length):=Nat.pow_le_pow_right ha.ok.b1 hl
  omega
 ·have h3:=Mac.at_val ha.ok ha.b2 ha.zer (s:=0) ha.n1 hw
  have h4:=Mac.at_val hb.ok hb.b2 hb.zer (s:=0) hb.n1 (hbb ▸ hw)
  rw [← hbb] at h4
  rw [← h3,← h4]
  exact hne
theorem pow24 {b k:Nat} (hb:b≤5) (hk:k≤24) (hb1:1≤b):b ^ k≤59604644775390625:=by
 have h1:b ^ k≤b ^ 24:=Nat.pow_le_pow_right hb1 hk
 have h2:b ^ 24≤5 ^ 24:=Nat.pow_le_pow_left hb 24
 have h3:5 ^ 24 = 59604644775390625:=by decide
 omega
theorem sameV_bool (b:Bool):sameV 4 (.bool b) (.bool b) = true:=by cases b <;> rfl
theorem over3 {l:List Value} (h:l.length = 3) (a b c:Value):over l 0 [a,b,c] = [a,b,c]:=by
 match l,h with
 | [_,_,_],_=>rfl
theorem drP_val {r:HRes} {v:Value} {h:Hp} {K:Value→Hp→Prop} (e:r = .val v h) (k:K v h):DrP E false r K:=by
 subst e
 exact k
attribute [local irreducible] E idxN cellAt cellsAt storeAt callable helems hmoved lookIn findKey keyOk hentries Hp.at Hp.set Hp.lay arBits hupdated setAt CallP YieldP BoolOf IsWrap Rnd LoopP AppP CutP Int.tmod Int.tdiv Int.fdiv
section
variable [Unknowns]
attribute [local irreducible] ResP DrP sameAt
theorem same_law (ts0:List Tr) (hy0:TyT Try.prog 25 ts0) (ts1:List Tr) (hy1:TyT Try.prog 25 ts1) (ts2:List Tr) (hy2:TyT Try.prog 64 ts2):∀ h vs,AllT h vs [.ag ts0,.ag ts1,.ag ts2]→CallP E 6 vs h (fun r _=>r = .bool true):=by
 intro h vs hvs
 match vs,hvs with
 | [v0,v1,v2],hvs =>
 obtain ⟨k0,k1,k2,-⟩:=hvs
 obtain ⟨M,hMb,hML,hM⟩:=mac_arg hy0
 obtain ⟨O,hOb,hOL,hO⟩:=mac_arg hy1
 obtain ⟨pa,pb,hpa,hpb,hP⟩:=pair_arg hy2
 have hM:=hM h v0 k0
 have hO:=hO h v1 k1
 have hP:=hP h v2 k2
 subst hP
 obtain ⟨bx,rfl,hbx⟩:=hM.box
 obtain ⟨by_,rfl,hby⟩:=hO.box
 refine enter6 (by simp) ?_
 conv=>whnf
 refine SeqP.cut (α:=Hp) (fun _=>[(3,ptr h.next 0),(4,ptr (h.next + 1) 0),(5,ptr (h.next + 2) 0)]) (fun s H=>s = H∧H.at h.next = some (.row 25 true bx)∧H.at (h.next + 1) = some (.row 25 true by_)∧H.at (h.next + 2) = some (.row 64 true [int pa,int pb])∧Grows h H∧H.next = h.next + 3) ?_ ?_
 ·conv=>whnf
  have n1:(h.lay (.row 25 true bx)).next = h.next + 1:=Hp.next_lay _ _
  have n2:((h.lay (.row 25 true bx)).lay (.row 25 true by_)).next = h.next + 2:=by rw [Hp.next_lay,n1]
  exact ⟨_,⟨rfl,congrArg (fun k=>ptr k 0) n1,congrArg (fun k=>ptr k 0) n2,trivial⟩,⟨rfl,Hp.at_lay_old _ (Hp.at_lay_old _ (Hp.at_lay_self _ _)),Hp.at_lay_old _ (at_nx2 n1 (Hp.at_lay_self _ _)),at_nx2 n2 (Hp.at_lay_self _ _),((Grows.lay _ _).then_lay _).then_lay _,by rw [Hp.next_lay,n2]⟩,rfl⟩
 rintro H0 φ0 _ ⟨rfl,aX,aY,aP,g0,n0⟩
 conv=>whnf
 refine SeqP.cut (α:=Nat×List Value×Mac×Nat×List Value×Mac×Hp) (fun s=>[(8,ptr s.2.2.2.1 0),(7,ptr s.1 0),(4,ptr (h.next + 1) 0)]) (fun s H=>s.2.2.2.2.2.2 = H∧(OkS s.2.2.1∧H.at s.1 = some (.row 26 true s.2.1)∧s.2.1.length = 3∧OwnM H0 H (.agg ⟨s.2.1⟩) s.2.2.1.i)∧(OkS s.2.2.2.2.2.1∧H.at s.2.2.2.1 = some (.row 26 true s.2.2.2.2.1)∧s.2.2.2.2.1.length = 3∧OwnM H0 H (.agg ⟨s.2.2.2.2.1⟩) s.2.2.2.2.2.1.i)∧Grows H0 H∧(∃ Hb,s.2.2.2.1 < Hb.next∧OwnM Hb H (.agg ⟨s.2.1⟩) s.2.2.1.i)∧s.1 < s.2.2.2.1∧H0.next≤s.1) ?_ ?_
 ·conv=>whnf
  have n1:(H0.lay (.row 26 true [int 0,nilS,nilS])).next = H0.next + 1:=Hp.next_lay _ _
  have gl1:Grows H0 ((H0.lay (.row 26 true [int 0,nilS,nilS])).lay (.row 26 true [int 0,nilS,nilS])):=(Grows.lay _ _).then_lay _
  have aL:((H0.lay (.row 26 true [int 0,nilS,nilS])).lay (.row 26 true [int 0,nilS,nilS])).at H0.next = some (.row 26 true [int 0,nilS,nilS]):=Hp.at_lay_old _ (Hp.at_lay_self _ _)
  have aL8:((H0.lay (.row 26 true [int 0,nilS,nilS])).lay (.row 26 true [int 0,nilS,nilS])).at (H0.next + 1) = some (.row 26 true [int 0,nilS,nilS]):=at_nx2 n1 (Hp.at_lay_self _ _)
  have nG0:((H0.lay (.row 26 true [int 0,nilS,nilS])).lay (.row 26 true [int 0,nilS,nilS])).next = H0.next + 2:=by rw [Hp.next_lay,n1]
  have cX:=all_cells (gl1.at_ _ _ aX) hbx.len
  have cY:=all_cells (gl1.at_ _ _ aY) hby.len
  have aP0:=gl1.at_ _ _ aP
  have cP0:=cellAt_row (o:=0) aP0 rfl
  have cP1:=cellAt_row (o:=1) aP0 rfl
  refine ⟨_,cX,?_⟩
  conv=>whnf
  refine ⟨⟨by omega,by omega⟩,?_⟩
  conv=>whnf
  refine ⟨_,cP0,?_⟩
  conv=>whnf
  refine CallP.mono (base_spec pa _) ?_
  rintro r _ ⟨⟨B,rfl,hB1,hB2⟩,rfl⟩
  conv=>whnf
  refine CallP.mono (tame_spec _ M B 12 _ (Bx.mv (hbx.ext (g0.trans gl1))) hML ⟨hB1,hB2⟩ (by omega)) ?_
  rintro r H1 ⟨⟨m,hm,hmb,hml,hw⟩,g1⟩
  have hw:OwnM ((H0.lay (.row 26 true [int 0,nilS,nilS])).lay (.row 26 true [int 0,nilS,nilS])) H1 r m.i:=hw
  have g1:Grows ((H0.lay (.row 26 true [int 0,nilS,nilS])).lay (.row 26 true [int 0,nilS,nilS])) H1:=g1
  have hk:=hw.known
  obtain ⟨p,q,rfl⟩:=hk
  have cX1:=g1.cells cX
  have cY1:=g1.cells cY
  have cP2:=g1.cell cP0
  have cP3:=g1.cell cP1
  conv=>whnf
  refine ⟨_,cY1,?_⟩
  conv=>whnf
  refine ⟨⟨by omega,by omega⟩,?_⟩
  conv=>whnf
  refine ⟨_,cP3,?_⟩
  conv=>whnf
  refine CallP.mono (base_spec pb _) ?_
  rintro r _ ⟨⟨B',rfl,hB1',hB2'⟩,eH⟩
  have eH:=eH.symm
  subst eH
  conv=>whnf
  refine CallP.mono (tame_spec _ O B' 12 _ (Bx.mv (hby.ext ((g0.trans gl1).trans g1))) hOL ⟨hB1',hB2'⟩ (by omega)) ?_
  rintro r H2 ⟨⟨m',hm',hmb',hml',hw'⟩,g2⟩
  have hk:=hw'.known
  obtain ⟨p',q',rfl⟩:=hk
  have aL2:=g2.at_ _ _ (g1.at_ _ _ aL)
  have aL82:=g2.at_ _ _ (g1.at_ _ _ aL8)
  have hlt:=Hp.lt_of_at aL2
  have hlt8:=Hp.lt_of_at aL82
  have cX2:=g2.cells cX1
  have cY2:=g2.cells cY1
  have cP4:=g2.cell cP2
  have cP5:=g2.cell cP3
  have n12:=g1.next
  have hltX:=Hp.lt_of_at aX
  have hltY:=Hp.lt_of_at aY
  have hltP:=Hp.lt_of_at aP
  have g02:=(gl1.trans g1).trans g2
  have hw2:=hw.ext g2
  conv=>whnf
  refine ⟨rfl,_,storeAt_full (vs:=[int m.i.base,.slice p m.i.out.length m.i.out.length,.slice q m.i.next.length m.i.next.length]) aL2 rfl rfl rfl,?_⟩
  have hexK:∃ v7,[int m.i.base,.slice p m.i.out.length m.i.out.length,.slice q m.i.next.length m.i.next.length] = v7:=⟨_,rfl⟩
  obtain ⟨v7,e7⟩:=hexK
  have hexK:∃ v8,[int m'.i.base,.slice p' m'.i.out.length m'.i.out.length,.slice q' m'.i.next.length m'.i.next.length] = v8:=⟨_,rfl⟩
  obtain ⟨v8,e8⟩:=hexK
  have l7:v7.length = 3:=by rw [← e7]; rfl
  have l8:v8.length = 3:=by rw [← e8]; rfl
  have hs7:=hw2.put (R:=H0.next) (by omega) (.row 26 true v7)
  have hs7':=hw'.put (R:=H0.next) (by omega) (.row 26 true v7)
  have aLs:(H2.set H0.next (.row 26 true v7)).at (H0.next + 1) = some (.row 26 true [int 0,nilS,nilS]):=by rw [Hp.at_set_ne _ (by omega)]; exact aL82
  have aLs7:(H2.set H0.next (.row 26 true v7)).at H0.next = some (.row 26 true v7):=Hp.at_set_self _ hlt
  have gs7:Grows H0 (H2.set H0.next (.row 26 true v7)):=g02.then_set _ (Nat.le_refl _)
  have cX3:=all_cells (gs7.at_ _ _ aX) hbx.len
  have cY3:=all_cells (gs7.at_ _ _ aY) hby.len
  have cP6:=gs7.cell (cellAt_row (o:=0) aP rfl)
  have cP7:=gs7.cell (cellAt_row (o:=1) aP rfl)
  rw [e7] at hs7
  rw [e8] at hs7'
  have gs8:Grows H0 ((H2.set H0.next (.row 26 true v7)).set (H0.next + 1) (.row 26 true v8)):=gs7.then_set _ (by omega)
  have cX4:=all_cells (gs8.at_ _ _ aX) hbx.len
  have cY4:=all_cells (gs8.at_ _ _ aY) hby.len
  have cP8:=gs8.cell (cellAt_row (o:=0) aP rfl)
  have cP9:=gs8.cell (cellAt_row (o:=1) aP rfl)
  have hs8:=hs7.put (R:=H0.next + 1) (by omega) (.row 26 true v8)
  have hs8':=hs7'.put (R:=H0.next + 1) (by omega) (.row 26 true v8)
  have aLz7:((H2.set H0.next (.row 26 true v7)).set (H0.next + 1) (.row 26 true v8)).at H0.next = some (.row 26 true v7):=by rw [Hp.at_set_ne _ (by omega)]; exact aLs7
  have aLz8:((H2.set H0.next (.row 26 true v7)).set (H0.next + 1) (.row 26 true v8)).at (H0.next + 1) = some (.row 26 true v8):=Hp.at_set_self _ (Hp.lt_of_at aLs)
  conv=>whnf
  subst e7
  subst e8
  refine ⟨rfl,_,storeAt_full (vs:=[int m'.i.base,.slice p' m'.i.out.length m'.i.out.length,.slice q' m'.i.next.length m'.i.next.length]) aLs rfl rfl rfl,?_⟩
  conv=>whnf
  refine ⟨?_,?_⟩
  ·repeat' (first | exact True.intro | (refine And.intro ?_ ?_ <;> (conv=>whnf)))
   all_goals first
    | exact sameAt_val (h2:=_) rfl (sameV_int _)
    | exact sameAt_val (h2:=_) rfl (sameV_ptr _ _)
    | exact sameAt_val (h2:=_) (congrArg (fun x=>hval _ (aggOf x)) cX) hbx.same
    | exact sameAt_val (h2:=_) (congrArg (fun x=>hval _ (aggOf x)) cY) hby.same
    | exact sameAt_val (h2:=_) (congrArg (fun x=>hval _ (aggOf x)) cX1) hbx.same
    | exact sameAt_val (h2:=_) (congrArg (fun x=>hval _ (aggOf x)) cY1) hby.same
    | exact sameAt_val (h2:=_) (congrArg (fun x=>hval _ (aggOf x)) cX2) hbx.same
    | exact sameAt_val (h2:=_) (congrArg (fun x=>hval _ (aggOf x)) cY2) hby.same
    | exact sameAt_val (h2:=_) (congrArg (fun x=>hval _ (aggOf x)) cX3) hbx.same
    | exact sameAt_val (h2:=_) (congrArg (fun x=>hval _ (aggOf x)) cY3) hby.same
    | exact sameAt_val (h2:=_) (congrArg (fun x=>hval _ (aggOf x)) cX4) hbx.same
    | exact sameAt_val (h2:=_) (congrArg (fun x=>hval _ (aggOf x)) cY4) hby.same
    | exact sameAt_val (h2:=_) (congrArg (hval _) cP0) (sameV_int _)
    | exact sameAt_val (h2:=_) (congrArg (hval _) cP1) (sameV_int _)
    | exact sameAt_val (h2:=_) (congrArg (hval _) cP2) (sameV_int _)
    | exact sameAt_val (h2:=_) (congrArg (hval _) cP3) (sameV_int _)
    | exact sameAt_val (h2:=_) (congrArg (hval _) cP4) (sameV_int _)
    | exact sameAt_val (h2:=_) (congrArg (hval _) cP5) (sameV_int _)
    | exact sameAt_val (h2:=_) (congrArg (hval _) cP6) (sameV_int _)
    | exact sameAt_val (h2:=_) (congrArg (hval _) cP7) (sameV_int _)
    | exact sameAt_val (h2:=_) (congrArg (hval _) cP8) (sameV_int _)
    | exact sameAt_val (h2:=_) (congrArg (hval _) cP9) (sameV_int _)
    | exact sameAt_val (h2:=_) (show hval _ (idxAV 2 1 (ptr (h.next + 2) 0) (int (0:Nat))) = _ from idxA_val' ⟨by omega,by omega⟩) (sameV_ptr _ _)
    | exact sameAt_val (h2:=_) (show hval _ (idxAV 2 1 (ptr (h.next + 2) 0) (int (1:Nat))) = _ from idxA_val' ⟨by omega,by omega⟩) (sameV_ptr _ _)
    | exact ⟨_,rfl,aL,rfl⟩
    | exact ⟨_,rfl,aL8,rfl⟩
    | exact ⟨_,rfl,g1.at_ _ _ aL,rfl⟩
    | exact ⟨_,rfl,g1.at_ _ _ aL8,rfl⟩
    | exact ⟨_,rfl,aL2,rfl⟩
    | exact ⟨_,rfl,aL82,rfl⟩
    | exact ⟨_,rfl,aLs,rfl⟩
    | exact ⟨_,rfl,aLs7,rfl⟩
    | exact ⟨_,rfl,aLz7,rfl⟩
    | exact ⟨_,rfl,aLz8,rfl⟩
    | trace_state
  exact ⟨(H0.next,_,m,H0.next + 1,_,m',_),⟨rfl,rfl,rfl,trivial⟩,⟨rfl,⟨hm,aLz7,rfl,(hs8.back gl1.next)⟩,⟨hm',aLz8,rfl,(hs8'.back (Nat.le_trans gl1.next n12))⟩,gs8,⟨_,by show H0.next + 1 < ((H0.lay (.row 26 true [int 0,nilS,nilS])).lay (.row 26 true [int 0,nilS,nilS])).next; omega,hs8⟩,by show H0.next < H0.next + 1; omega,Nat.le_refl _⟩,rfl⟩
 rintro ⟨N7,b7,m,N8,b8,m',H1⟩ φ1 _ ⟨rfl,⟨hm,a7,l7,o7⟩,⟨hm',a8,l8,o8⟩,g1,⟨Hb,hHb,o7b⟩,h78,hN7⟩
 dsimp only at hm a7 l7 o7 hm' a8 l8 o8 g1 hHb o7b h78 hN7 ⊢
 conv=>whnf
 refine SeqP.cut (α:=Int×Bool×Int×Hp) (fun q=>[(11,int q.2.2.1),(10,.bool q.2.1),(9,int q.1),(8,ptr N8 0),(7,ptr N7 0),(4,ptr (h.next + 1) 0)]) (fun q H=>q.2.2.2 = H∧Grows H1 H∧(m.base≠m'.base→q.2.2.1 = 1∧q.2.1 = false∧q.1 = 0)∧(m.base = m'.base→q.2.2.1 = 0∧∃ d,q.2.1 = !d∧DiffR m m' (.tuple ⟨[int q.1,.bool d]⟩))) ?_ ?_
 ·conv=>whnf
  refine ⟨_,all_cells a7 l7,?_⟩
  conv=>whnf
  refine CallP.mono (given_spec _ m.i _ o7.mv (lens_of hm)) ?_
  rintro r K1 ⟨hw,g2⟩
  rw [hm.cut] at hw
  have hk:=hw.known
  obtain ⟨p,q,rfl⟩:=hk
  have c8:=all_cells a8 l8
  have c8a:=g2.cells c8
  conv=>whnf
  refine ⟨_,c8a,?_⟩
  conv=>whnf
  refine CallP.mono (given_spec _ m'.i _ (o8.mv.ext g2) (lens_of hm')) ?_
  rintro r K2 ⟨hw',g3⟩
  rw [hm'.cut] at hw'
  have hk:=hw'.known
  obtain ⟨p',q',rfl⟩:=hk
  have c8b:=g3.cells c8a
  have y8:=(o8.mv).bx_same
  conv=>whnf
  by_cases hbb:m.base = m'.base
  ·refine CallP.mono (Same_ok _ _ m m' _ (hw.mv.ext g3) hw'.mv hm hm' hbb) ?_
   rintro r K3 ⟨⟨n,d,rfl,hd⟩,g4⟩
   have c8c:=g4.cells c8b
   conv=>whnf
   refine ⟨?_,?_⟩
   ·repeat' (first | exact True.intro | (refine And.intro ?_ ?_ <;> (conv=>whnf)))
    all_goals first
     | exact sameAt_val (h2:=_) rfl (sameV_int _)
     | exact sameAt_val (h2:=_) rfl (sameV_ptr _ _)
     | exact sameAt_val (h2:=_) rfl (sameV_bool _)
     | exact sameAt_val (h2:=_) (congrArg (fun x=>hval _ (aggOf x)) c8) y8
     | exact sameAt_val (h2:=_) (congrArg (fun x=>hval _ (aggOf x)) c8a) y8
     | exact sameAt_val (h2:=_) (congrArg (fun x=>hval _ (aggOf x)) c8b) y8
     | exact sameAt_val (h2:=_) (congrArg (fun x=>hval _ (aggOf x)) c8c) y8
     | trace_state
   exact ⟨(n,!d,0,K3),⟨rfl,rfl,rfl,rfl,rfl,rfl,trivial⟩,⟨rfl,(g2.trans g3).trans g4,fun q=>absurd hbb q,fun _=>⟨rfl,d,rfl,hd⟩⟩,rfl⟩
  ·refine CallP.mono (Same_err _ _ m.i m'.i _ (hw.mv.ext g3) hw'.mv hm.lens hm'.lens 1 (by omega) fun e he=>(he.2 hm.ck hm'.ck).1 (fun q=>hbb (Int.ofNat.inj q))) ?_
   rintro r K3 ⟨rfl,g4⟩
   have c8c:=g4.cells c8b
   conv=>whnf
   refine ⟨?_,?_⟩
   ·repeat' (first | exact True.intro | (refine And.intro ?_ ?_ <;> (conv=>whnf)))
    all_goals first
     | exact sameAt_val (h2:=_) rfl (sameV_int _)
     | exact sameAt_val (h2:=_) rfl (sameV_ptr _ _)
     | exact sameAt_val (h2:=_) rfl (sameV_bool _)
     | exact sameAt_val (h2:=_) (congrArg (fun x=>hval _ (aggOf x)) c8) y8
     | exact sameAt_val (h2:=_) (congrArg (fun x=>hval _ (aggOf x)) c8a) y8
     | exact sameAt_val (h2:=_) (congrArg (fun x=>hval _ (aggOf x)) c8b) y8
     | exact sameAt_val (h2:=_) (congrArg (fun x=>hval _ (aggOf x)) c8c) y8
     | trace_state
   exact ⟨(0,false,1,K3),⟨rfl,rfl,rfl,rfl,rfl,rfl,trivial⟩,⟨rfl,(g2.trans g3).trans g4,fun _=>⟨rfl,rfl,rfl⟩,fun q=>absurd q hbb⟩,rfl⟩
 rintro ⟨n,b,e,H2⟩ φ2 _ ⟨rfl,g2,hE1,hE2⟩
 dsimp only at g2 hE1 hE2 ⊢
 have a7:=g2.at_ _ _ a7
 have a8:=g2.at_ _ _ a8
 have o7:=o7.ext g2
 have o8:=o8.ext g2
 have o7b:=o7b.ext g2
 have aY2:=g2.at_ _ _ (g1.at_ _ _ aY)
 have gh2:=(g0.trans g1).trans g2
 have hb2:Hb.next≤Hb.next:=Nat.le_refl _
 clear g2 g1
 have hx7:=o7.bx.cx
 obtain ⟨xo,xn,xc,xd,hcx⟩:=hx7
 have hx8:=o8.bx.cx
 obtain ⟨yo,yn,yc,yd,hdx⟩:=hx8
 have c7:cellAt H2 N7 0 = some (int (m.base:Int)):=(hcx H2 N7 26 (.refl _) a7).c0
 have c8:cellAt H2 N8 0 = some (int (m'.base:Int)):=(hdx H2 N8 26 (.refl _) a8).c0
 conv=>whnf
 refine SeqP.cut (α:=Int×Bool×List Value×Mac×Hp) (fun q=>[(11,int 0),(10,.bool q.2.1),(9,int q.1),(8,ptr N8 0),(7,ptr N7 0)]) (fun q H=>q.2.2.2.2 = H∧OkS q.2.2.2.1∧m.base = q.2.2.2.1.base∧H.at N7 = some (.row 26 true b7)∧MV H (.agg ⟨b7⟩) m.i∧H.at N8 = some (.row 26 true q.2.2.1)∧q.2.2.1.length = 3∧MV H (.agg ⟨q.2.2.1⟩) q.2.2.2.1.i∧∃ d,q.2.1 = !d∧DiffR m q.2.2.2.1 (.tuple ⟨[int q.1,.bool d]⟩)) ?_ ?_
 ·by_cases hbb:m.base = m'.base
  ·have hE:=hE2 hbb
   obtain ⟨rfl,d,rfl,hd⟩:=hE
   conv=>whnf
   refine SeqP.go ?_
   conv=>whnf
   refine ⟨_,c7,?_⟩
   conv=>whnf
   refine ⟨_,c8,?_⟩
   conv=>whnf
   refine cmpF (by omega) ?_
   conv=>whnf
   repeat (refine SeqP.go ?_; conv=>whnf)
   exact ⟨(n,!d,b8,m',H2),⟨rfl,rfl,rfl,rfl,rfl,trivial⟩,⟨rfl,hm',hbb,a7,o7.mv,a8,l8,o8.mv,d,rfl,hd⟩,rfl⟩
  ·have hE:=hE1 hbb
   obtain ⟨rfl,rfl,rfl⟩:=hE
   conv=>whnf
   refine SeqP.go ?_
   conv=>whnf
   refine ⟨_,c7,?_⟩
   conv=>whnf
   refine ⟨_,c8,?_⟩
   conv=>whnf
   refine cmpT (by omega) ?_
   conv=>whnf
   refine SeqP.cut (α:=Unit) (fun q=>[(8,ptr N8 0),(7,ptr N7 0),(4,ptr (h.next + 1) 0)]) (fun q H=>H2 = H) ?_ ?_
   ·conv=>whnf
    refine SeqP.go ?_
    conv=>whnf
    refine cmpF (by omega) ?_
    conv=>whnf
    refine cmpF (by omega) ?_
    conv=>whnf
    exact ⟨(),⟨rfl,rfl,rfl,trivial⟩,rfl,rfl⟩
   rintro _ φ3 _ rfl
   have hltN8:=Hp.lt_of_at a8
   conv=>whnf
   refine SeqP.cut (α:=List Value×Mac×Hp) (fun q=>[(8,ptr N8 0),(7,ptr N7 0)]) (fun q H=>q.2.2 = H∧OkS q.2.1∧m.base = q.2.1.base∧H.at N7 = some (.row 26 true b7)∧MV H (.agg ⟨b7⟩) m.i∧H.at N8 = some (.row 26 true q.1)∧q.1.length = 3∧MV H (.agg ⟨q.1⟩) q.2.1.i) ?_ ?_
   ·conv=>whnf
    refine ⟨_,all_cells aY2 hby.len,?_⟩
    conv=>whnf
    refine ⟨_,c7,?_⟩
    conv=>whnf
    refine CallP.mono (tame_spec _ O m.base 12 _ (Bx.mv (hby.ext gh2)) hOL ⟨hm.b2,hm.b5⟩ (by omega)) ?_
    rintro r K1 ⟨⟨mm,hmm,hmmb,hmml,hw⟩,gk⟩
    have hk:=hw.known
    obtain ⟨p,q,rfl⟩:=hk
    have a8k:=gk.at_ _ _ a8
    conv=>whnf
    refine ⟨rfl,_,storeAt_full (vs:=[int mm.i.base,.slice p mm.i.out.length mm.i.out.length,.slice q mm.i.next.length mm.i.next.length]) a8k (by rw [l8]; rfl) rfl (over3 l8 _ _ _),?_⟩
    conv=>whnf
    exact ⟨(_,mm,K1.set N8 (.row 26 true [int mm.i.base,.slice p mm.i.out.length mm.i.out.length,.slice q mm.i.next.length mm.i.next.length])),⟨rfl,rfl,trivial⟩,⟨rfl,hmm,hmmb.symm,by rw [Hp.at_set_ne _ (by omega)]; exact gk.at_ _ _ a7,((o7b.ext gk).put hHb _).mv,Hp.at_set_self _ (Hp.lt_of_at a8k),rfl,(hw.put hltN8 _).mv⟩,rfl⟩
   rintro ⟨b8,mm,H3⟩ φ4 _ ⟨rfl,hmm,hmb,a7,v7,a8,l8,v8⟩
   dsimp only at hmm hmb a7 v7 a8 l8 v8 ⊢
   conv=>whnf
   refine ⟨_,all_cells a7 l7,?_⟩
   conv=>whnf
   refine CallP.mono (given_spec _ m.i _ v7 (lens_of hm)) ?_
   rintro r K1 ⟨hw,g2⟩
   rw [hm.cut] at hw
   have hk:=hw.known
   obtain ⟨p,q,rfl⟩:=hk
   have c8:=all_cells a8 l8
   have c8a:=g2.cells c8
   conv=>whnf
   refine ⟨_,c8a,?_⟩
   conv=>whnf
   refine CallP.mono (given_spec _ mm.i _ (v8.ext g2) (lens_of hmm)) ?_
   rintro r K2 ⟨hw',g3⟩
   rw [hmm.cut] at hw'
   have hk:=hw'.known
   obtain ⟨p',q',rfl⟩:=hk
   have c8b:=g3.cells c8a
   have y8:=(v8).bx_same
   conv=>whnf
   refine CallP.mono (Same_ok _ _ m mm _ (hw.mv.ext g3) hw'.mv hm hmm hmb) ?_
   rintro r K3 ⟨⟨n,d,rfl,hd⟩,g4⟩
   have c8c:=g4.cells c8b
   have g24:=(g2.trans g3).trans g4
   conv=>whnf
   refine ⟨?_,?_⟩
   ·repeat' (first | exact True.intro | (refine And.intro ?_ ?_ <;> (conv=>whnf)))
    all_goals first
     | exact sameAt_val (h2:=_) rfl (sameV_int _)
     | exact sameAt_val (h2:=_) rfl (sameV_ptr _ _)
     | exact sameAt_val (h2:=_) rfl (sameV_bool _)
     | exact sameAt_val (h2:=_) (congrArg (fun x=>hval _ (aggOf x)) c8) y8
     | exact sameAt_val (h2:=_) (congrArg (fun x=>hval _ (aggOf x)) c8a) y8
     | exact sameAt_val (h2:=_) (congrArg (fun x=>hval _ (aggOf x)) c8b) y8
     | exact sameAt_val (h2:=_) (congrArg (fun x=>hval _ (aggOf x)) c8c) y8
     | trace_state
   exact ⟨(n,!d,b8,mm,K3),⟨rfl,rfl,rfl,rfl,rfl,trivial⟩,⟨rfl,hmm,hmb,g24.at_ _ _ a7,v7.ext g24,g24.at_ _ _ a8,l8,v8.ext g24,d,rfl,hd⟩,rfl⟩
 clear hcx hdx c7 c8 a7 a8 o7 o8 o7b hE1 hE2
 rintro ⟨n,bb,b8,mm,H3⟩ φ3 _ ⟨rfl,hmm,hmb,a7,v7,a8,l8,v8,d,rfl,hd⟩
 dsimp only at hmm hmb a7 v7 a8 l8 v8 hd ⊢
 have hda:=diff_at hm hmm hmb hd
 have hn12:=hm.n12
 have hk12:=hmm.n12
 have hb5:=hm.b5
 have hb1:=hm.ok.b1
 have hx7:=v7.bx.cx
 obtain ⟨xo,xn,xc,xd,hcx⟩:=hx7
 have hx8:=v8.bx.cx
 obtain ⟨yo,yn,yc,yd,hdx⟩:=hx8
 have c70:cellAt H3 N7 0 = some (int (m.base:Int)):=(hcx H3 N7 26 (.refl _) a7).c0
 have c71:cellAt H3 N7 1 = some (.slice xo m.out.length xc):=(hcx H3 N7 26 (.refl _) a7).c1
 have c81:cellAt H3 N8 1 = some (.slice yo mm.out.length yc):=(hdx H3 N8 26 (.refl _) a8).c1
 conv=>whnf
 refine SeqP.cut (α:=Unit) (fun q=>[(12,int 1),(11,int 0),(10,.bool (!d)),(9,int n),(8,ptr N8 0),(7,ptr N7 0)]) (fun q H=>H3 = H) ?_ ?_
 ·conv=>whnf
  exact ⟨(),⟨rfl,rfl,rfl,rfl,rfl,rfl,trivial⟩,rfl,rfl⟩
 rintro _ φ4 _ rfl
 have hexL:∃ L,m.base ^ (m.out.length + mm.out.length) = L:=⟨_,rfl⟩
 obtain ⟨L,eL⟩:=hexL
 have hL:L≤59604644775390625:=by rw [← eL]; exact pow24 hb5 (by omega) hb1
 conv=>whnf
 refine SeqP.cut (α:=Unit) (fun q=>[(12,int L),(11,int 0),(10,.bool (!d)),(9,int n),(8,ptr N8 0),(7,ptr N7 0)]) (fun q H=>H3 = H) ?_ ?_
 ·conv=>whnf
  repeat (refine SeqP.go ?_; conv=>whnf)
  refine loop_inv (α:=Nat) (fun q=>[(13,int q),(12,int (m.base ^ q:Nat)),(11,int 0),(10,.bool (!d)),(9,int n),(8,ptr N8 0),(7,ptr N7 0)]) (fun q=>H3) (fun q=>q≤m.out.length + mm.out.length) (fun q=>m.out.length + mm.out.length - q) 0 (Nat.zero_le _) ⟨rfl,rfl,rfl,rfl,rfl,rfl,rfl,trivial⟩ (Hp.Le.refl _) ?_
  rintro i φ5 hi
  conv=>whnf
  repeat (refine SeqP.go ?_; conv=>whnf)
  refine ⟨_,c71,?_⟩
  conv=>whnf
  refine ⟨_,c81,?_⟩
  conv=>whnf
  refine ⟨((m.out.length + mm.out.length:Nat):Int),wie (by omega) (by omega),?_⟩
  conv=>whnf
  refine cmpB (fun q1=>?_) (fun q1=>?_)
  rotate_left
  ·have:i = m.out.length + mm.out.length:=by omega
   subst this
   rw [eL]
   conv=>whnf
   repeat (refine SeqP.go ?_; conv=>whnf)
   exact ⟨(),⟨rfl,rfl,rfl,rfl,rfl,rfl,trivial⟩,rfl,rfl⟩
  have hp:=pow24 (b:=m.base) (k:=i + 1) hb5 (by omega) hb1
  have e2:(((m.base ^ i:Nat):Int)) * (m.base:Int) = ((m.base ^ (i + 1):Nat):Int):=by rw [Nat.pow_succ,Int.natCast_mul]
  have hexV:∃ V,m.base ^ (i + 1) = V:=⟨_,rfl⟩
  obtain ⟨V,eV⟩:=hexV
  rw [eV] at e2 hp
  conv=>whnf
  repeat (refine SeqP.go ?_; conv=>whnf)
  refine ⟨_,c70,?_⟩
  conv=>whnf
  refine ⟨(V:Int),wie e2 (by omega),?_⟩
  conv=>whnf
  repeat (refine SeqP.go ?_; conv=>whnf)
  refine ⟨((i + 1:Nat):Int),wie (by omega) (by omega),?_⟩
  conv=>whnf
  exact Rnd.mk (i + 1) (by omega) (by omega) ⟨rfl,by rw [eV]; rfl,rfl,rfl,rfl,rfl,rfl,trivial⟩ (Hp.Le.refl _) rfl
 rintro _ φ5 _ rfl
 have d7:=all_cells a7 v7.bx.len
 have d8:=all_cells a8 l8
 have y8:=v8.bx_same
 have hlab:m.out.length * mm.out.length≤12 * 12:=Nat.mul_le_mul hn12 hk12
 conv=>whnf
 refine SeqP.cut (α:=Hp) (fun q=>[(7,ptr N7 0)]) (fun q H=>q = H∧Grows H3 H) ?_ ?_
 ·conv=>whnf
  refine SeqP.go ?_
  conv=>whnf
  refine cmpF (by omega) ?_
  conv=>whnf
  refine ⟨_,d7,?_⟩
  conv=>whnf
  refine ⟨_,d8,?_⟩
  conv=>whnf
  refine CallP.mono (RSame_spec _ _ m mm _ v7 v8 hm.ok hmm.ok hmb (by omega) hm.outs hmm.outs (by omega) (by omega) (by omega)) ?_
  rintro r L1 ⟨⟨x,rfl,hx⟩,gk⟩
  have d7a:=gk.cells d7
  have d8a:=gk.cells d8
  cases d with
  | false =>
   have hq:=hda.1 rfl
   obtain ⟨rfl,halk⟩:=hq
   cases x with
   | false=>exact absurd halk hx.f
   | true =>
    conv=>whnf
    refine (drP_val (v:=.bool false) (h:=L1) ?_ ?_:DrP E false _ _)
    ·show hval _ (aBin E .neq 4 _ _ (.bool true) (.bool true)) = _
     rw [bool_ne]
     rfl
    conv=>whnf
    refine cmpF (by omega) ?_
    conv=>whnf
    refine ⟨?_,?_⟩
    ·repeat' (first | exact True.intro | (refine And.intro ?_ ?_ <;> (conv=>whnf)))
     all_goals first
      | exact sameAt_val (h2:=_) rfl (sameV_int _)
      | exact sameAt_val (h2:=_) rfl (sameV_ptr _ _)
      | exact sameAt_val (h2:=_) rfl (sameV_bool _)
      | exact sameAt_val (h2:=_) (congrArg (fun x=>hval _ (aggOf x)) d8) y8
      | exact sameAt_val (h2:=_) (congrArg (fun x=>hval _ (aggOf x)) d8a) y8
      | trace_state
    conv=>whnf
    repeat (refine SeqP.go ?_; conv=>whnf)
    exact ⟨L1,⟨rfl,trivial⟩,⟨rfl,gk⟩,rfl⟩
  | true =>
   have hq:=hda.2 rfl
   obtain ⟨hna,w,rfl,hwL,hne⟩:=hq
   rw [eL] at hwL
   cases x with
   | true=>exact absurd hx.t hna
   | false =>
    conv=>whnf
    refine (drP_val (v:=.bool false) (h:=L1) ?_ ?_:DrP E false _ _)
    ·show hval _ (aBin E .neq 4 _ _ (.bool false) (.bool false)) = _
     rw [bool_ne]
     rfl
    conv=>whnf
    refine cmpF (by omega) ?_
    conv=>whnf
    refine cmpF (by omega) ?_
    conv=>whnf
    refine ⟨_,d7a,?_⟩
    conv=>whnf
    refine CallP.mono (RAt_spec _ m 0 w _ (v7.ext gk) hm.ok ⟨hm.b2,by omega⟩ hm.n1 (by omega) (by omega)) ?_
    rintro r L2 ⟨rfl,gk2⟩
    have d8b:=gk2.cells d8a
    conv=>whnf
    refine ⟨_,d8b,?_⟩
    conv=>whnf
    refine CallP.mono (RAt_spec _ mm 0 w _ ((v8.ext gk).ext gk2) hmm.ok ⟨hmm.b2,by have:=hmm.b5; omega⟩ hmm.n1 (by omega) (by omega)) ?_
    rintro r L3 ⟨rfl,gk3⟩
    have d8c:=gk3.cells d8b
    conv=>whnf
    refine cmpF hne ?_
    conv=>whnf
    refine ⟨?_,?_⟩
    ·repeat' (first | exact True.intro | (refine And.intro ?_ ?_ <;> (conv=>whnf)))
     all_goals first
      | exact sameAt_val (h2:=_) rfl (sameV_int _)
      | exact sameAt_val (h2:=_) rfl (sameV_ptr _ _)
      | exact sameAt_val (h2:=_) rfl (sameV_bool _)
      | exact sameAt_val (h2:=_) (congrArg (fun x=>hval _ (aggOf x)) d8) y8
      | exact sameAt_val (h2:=_) (congrArg (fun x=>hval _ (aggOf x)) d8a) y8
      | exact sameAt_val (h2:=_) (congrArg (fun x=>hval _ (aggOf x)) d8b) y8
      | exact sameAt_val (h2:=_) (congrArg (fun x=>hval _ (aggOf x)) d8c) y8
      | trace_state
    conv=>whnf
    repeat (refine SeqP.go ?_; conv=>whnf)
    exact ⟨L3,⟨rfl,trivial⟩,⟨rfl,(gk.trans gk2).trans gk3⟩,rfl⟩
 rintro H4 φ6 _ ⟨rfl,g4⟩
 have a7:=g4.at_ _ _ a7
 have v7:=v7.ext g4
 have hlen:=Mac.form_len hm.ok
 have hFs:OkS m.form:=Mac.form_s hm.ok hm.zer hm.b2 hm.b5 hm.outs (by omega)
 have hal:Mac.Alike m m.form 0 0:=(Mac.form_alike hm.ok).symm (Mac.form_base m)
 have hexF:∃ F,m.form = F:=⟨_,rfl⟩
 obtain ⟨F,eF⟩:=hexF
 have hFb:F.base = m.base:=by rw [← eF]; rfl
 rw [eF] at hFs hal
 conv=>whnf
 refine SeqP.cut (α:=Int×Hp) (fun q=>[(14,int q.1),(15,.bool true),(16,int 0)]) (fun q H=>q.2 = H) ?_ ?_
 ·have d7:=all_cells a7 v7.bx.len
  have y7:=v7.bx_same
  conv=>whnf
  refine ⟨_,d7,?_⟩
  conv=>whnf
  refine CallP.mono (given_spec _ m.i _ v7 (lens_of hm)) ?_
  rintro r K1 ⟨hw,g2⟩
  rw [hm.cut] at hw
  have hk:=hw.known
  obtain ⟨p,q,rfl⟩:=hk
  have d7a:=g2.cells d7
  conv=>whnf
  refine ⟨_,d7a,?_⟩
  conv=>whnf
  refine CallP.mono (RForm_spec _ m _ (v7.ext g2) hm.big) ?_
  rintro r K2 ⟨hw2,g3⟩
  rw [eF] at hw2
  have hk:=hw2.known
  obtain ⟨p2,q2,rfl⟩:=hk
  have d7b:=g3.cells d7a
  conv=>whnf
  refine CallP.mono (given_spec _ F.i _ hw2.mv (lens_of hFs)) ?_
  rintro r K3 ⟨hw3,g4⟩
  rw [hFs.cut] at hw3
  have hk:=hw3.known
  obtain ⟨p3,q3,rfl⟩:=hk
  have d7c:=g4.cells d7b
  conv=>whnf
  refine CallP.mono (Same_ok _ _ m F _ ((hw.mv.ext g3).ext g4) hw3.mv hm hFs hFb.symm) ?_
  rintro r K4 ⟨⟨n,d,rfl,hd⟩,g5⟩
  have d7d:=g5.cells d7c
  have hda:=diff_at hm hFs hFb.symm hd
  cases d with
  | true=>exact absurd hal (hda.2 rfl).1
  | false =>
   conv=>whnf
   refine ⟨?_,?_⟩
   ·repeat' (first | exact True.intro | (refine And.intro ?_ ?_ <;> (conv=>whnf)))
    all_goals first
     | exact sameAt_val (h2:=_) rfl (sameV_int _)
     | exact sameAt_val (h2:=_) rfl (sameV_ptr _ _)
     | exact sameAt_val (h2:=_) rfl (sameV_bool _)
     | exact sameAt_val (h2:=_) (congrArg (fun x=>hval _ (aggOf x)) d7) y7
     | exact sameAt_val (h2:=_) (congrArg (fun x=>hval _ (aggOf x)) d7a) y7
     | exact sameAt_val (h2:=_) (congrArg (fun x=>hval _ (aggOf x)) d7b) y7
     | exact sameAt_val (h2:=_) (congrArg (fun x=>hval _ (aggOf x)) d7c) y7
     | exact sameAt_val (h2:=_) (congrArg (fun x=>hval _ (aggOf x)) d7d) y7
     | trace_state
   exact ⟨(n,K4),⟨rfl,rfl,rfl,trivial⟩,rfl,rfl⟩
 rintro ⟨n',H5⟩ φ7 _ rfl
 dsimp only
 conv=>whnf
 repeat (refine SeqP.go ?_; conv=>whnf)
 refine cmpT rfl ?_
 conv=>whnf
 refine CallP.mono (awake_spec _) ?_
 rintro r G3 ⟨rfl,g3⟩
 conv=>whnf
 repeat (refine SeqP.go ?_; conv=>whnf)
 rfl
end
end Go.Proofs.Ytedneplaibmppaa
