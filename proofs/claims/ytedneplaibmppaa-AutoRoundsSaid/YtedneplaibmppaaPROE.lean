/- Contracts of the functions that PROF comes to. -/
import Derived.Test.YtedneplaibmppaaPROD
import Derived.Test.YtedneplaibmppaaAAwake
import Derived.Test.YtedneplaibmppaaWx19
import Derived.Test.YtedneplaibmppaaWx22
import Derived.Test.YtedneplaibmppaaWx23
set_option maxRecDepth 100000
set_option maxHeartbeats 2000000
set_option linter.unusedVariables false
set_option linter.unusedSectionVars false
set_option linter.unusedSimpArgs false
namespace Go.Proofs.Ytedneplaibmppaa
open Go.Rx Go.RowKit
theorem mac_eq {A B:MacI} (hb:A.base = B.base) (ho:A.out.length = B.out.length) (hn:A.next.length = B.next.length) (hno:A.next.length = A.out.length) (h:∀ k,k < A.out.length→gl A.out k = gl B.out k∧rw_ A.next k = rw_ B.next k):A = B:=by
 obtain ⟨b1,o1,n1⟩:=A
 obtain ⟨b2,o2,n2⟩:=B
 dsimp only at *
 have e1:o1 = o2:=list_gl ho fun j hj=>(h j hj).1
 have e2:n1 = n2:=List.ext_getElem hn fun i h1 h2=>by
  have:=(h i (by omega)).2
  rwa [rw_at h1,rw_at h2] at this
 rw [hb,e1,e2]
attribute [local irreducible] E idxN cellAt cellsAt storeAt callable helems hmoved lookIn findKey keyOk hentries Hp.at Hp.set Hp.lay arBits hupdated setAt CallP YieldP BoolOf IsWrap Rnd LoopP AppP CutP Int.tmod Int.tdiv Int.fdiv
section
variable [Unknowns]
attribute [local irreducible] sameAt
theorem ints_spec (va vb:Value) (a b:List Int) (h:Hp) (ha:View h va a) (hb:View h vb b) (hla:a.length≤1000000):CallP E 61 [va,vb] h (fun r h'=>(∃ x,r = .bool x∧BoolOf x (a = b))∧h' = h):=by
 obtain ⟨aa,ca,rfl⟩:=ha.known
 obtain ⟨ab,cb,rfl⟩:=hb.known
 refine enter61 (by simp) ?_
 conv=>whnf
 repeat (refine SeqP.go ?_; conv=>whnf)
 refine cmpB (fun hne=>?_) (fun heq=>?_)
 ·conv=>whnf
  repeat (refine SeqP.go ?_; conv=>whnf)
  exact ⟨⟨false,rfl,bo_no fun e=>hne (by rw [e])⟩,rfl⟩
 have hlen:a.length = b.length:=by omega
 conv=>whnf
 repeat (refine SeqP.go ?_; conv=>whnf)
 refine loop_inv (α:=Nat) (fun i=>[(5,int i),(0,.slice aa a.length ca),(1,.slice ab b.length cb)]) (fun _=>h) (fun i=>i≤a.length∧∀ j,j < i→gl a j = gl b j) (fun i=>a.length - i) 0 ⟨Nat.zero_le _,fun j hj=>absurd hj (Nat.not_lt_zero _)⟩ ⟨rfl,rfl,rfl,trivial⟩ (Hp.Le.refl _) ?_
 rintro i φ1 ⟨hi,hsame⟩
 conv=>whnf
 repeat (refine SeqP.go ?_; conv=>whnf)
 refine cmpB (fun hlt=>?_) (fun hlt=>?_)
 rotate_left
 ·conv=>whnf
  repeat (refine SeqP.go ?_; conv=>whnf)
  have:i = a.length:=by omega
  subst this
  exact ⟨⟨true,rfl,bo_yes (list_gl hlen hsame)⟩,rfl⟩
 have hi':i < a.length:=by omega
 have hca:=View.cellg ha hi'
 have hcb:=View.cellg hb (i:=i) (by omega)
 obtain ⟨r1,o1,sp1,ea,hsp1,-,hc1⟩:=hca
 obtain ⟨r2,o2,sp2,eb,hsp2,-,hc2⟩:=hcb
 subst ea
 subst eb
 conv=>whnf
 repeat (refine SeqP.go ?_; conv=>whnf)
 refine ⟨hsp1,⟨by omega,by omega⟩,?_⟩
 conv=>whnf
 refine ⟨_,hc1,?_⟩
 conv=>whnf
 refine ⟨hsp2,⟨by omega,by omega⟩,?_⟩
 conv=>whnf
 refine ⟨_,hc2,?_⟩
 conv=>whnf
 refine cmpB (fun hne=>?_) (fun he=>?_)
 ·conv=>whnf
  repeat (refine SeqP.go ?_; conv=>whnf)
  exact ⟨⟨false,rfl,bo_no fun e=>hne (by rw [e])⟩,rfl⟩
 conv=>whnf
 repeat (refine SeqP.go ?_; conv=>whnf)
 refine ⟨_,wid (by omega),?_⟩
 conv=>whnf
 exact Rnd.mk (i + 1) ⟨by omega,fun j hj=>by
  by_cases e:j = i
  ·subst e; omega
  ·exact hsame j (by omega)⟩ (by show a.length - (i + 1) < a.length - i; omega) ⟨rfl,rfl,rfl,trivial⟩ (Hp.Le.refl _) rfl
theorem REqual_spec (va vb:Value) (A B:MacI) (h:Hp) (ha:MV h va A) (hb:MV h vb B) (hn:A.next.length = A.out.length) (hl:A.out.length≤1000000) (hr:∀ s,(rw_ A.next s).length≤1000000):CallP E 41 [va,vb] h (fun r h'=>(∃ x,r = .bool x∧BoolOf x (A = B))∧Grows h h'):=by
 obtain ⟨bxa,rfl,hxa⟩:=ha.box
 obtain ⟨bxb,rfl,hxb⟩:=hb.box
 obtain ⟨aoa,ana,coa,cna,hcxa⟩:=hxa.cx
 obtain ⟨aob,anb,cob,cnb,hcxb⟩:=hxb.cx
 refine enter41 (by simp) ?_
 conv=>whnf
 refine SeqP.cut (α:=Hp) (fun _=>[(4,.bool false),(3,ptr (h.next + 1) 0),(2,ptr h.next 0)]) (fun x H=>x = H∧Grows h H∧H.at h.next = some (.row 26 true bxa)∧H.at (h.next + 1) = some (.row 26 true bxb)) ?_ ?_
 ·conv=>whnf
  have n1:(h.lay (.row 26 true bxa)).next = h.next + 1:=Hp.next_lay _ _
  exact ⟨_,⟨rfl,congrArg (fun k=>ptr k 0) n1,rfl,trivial⟩,⟨rfl,(Grows.lay _ _).then_lay _,Hp.at_lay_old _ (Hp.at_lay_self _ _),at_nx2 n1 (Hp.at_lay_self _ _)⟩,rfl⟩
 rintro H φ1 _ ⟨rfl,gH,aX,aY⟩
 have kx:=hcxa H h.next 26 gH aX
 have ky:=hcxb H (h.next + 1) 26 gH aY
 have x0:=kx.c0
 have x1:=kx.c1
 have x2:=kx.c2
 have y0:=ky.c0
 have y1:=ky.c1
 have y2:=ky.c2
 have no:¬ A = B→∀ v:Value,v = .bool false→(∃ x,v = .bool x∧BoolOf x (A = B))∧Grows h H:=fun k v e=>⟨⟨false,e,bo_no k⟩,gH⟩
 conv=>whnf
 repeat (refine SeqP.go ?_; conv=>whnf)
 refine ⟨_,x0,?_⟩
 conv=>whnf
 refine ⟨_,y0,?_⟩
 conv=>whnf
 refine cmpB (fun hne=>?_) (fun heq=>?_)
 ·conv=>whnf
  repeat (refine SeqP.go ?_; conv=>whnf)
  exact no (fun e=>hne (by rw [e])) _ rfl
 conv=>whnf
 refine ⟨_,x1,?_⟩
 conv=>whnf
 refine ⟨_,y1,?_⟩
 conv=>whnf
 refine cmpB (fun hne=>?_) (fun heq1=>?_)
 ·conv=>whnf
  repeat (refine SeqP.go ?_; conv=>whnf)
  exact no (fun e=>hne (by rw [e])) _ rfl
 conv=>whnf
 refine ⟨_,x2,?_⟩
 conv=>whnf
 refine ⟨_,y2,?_⟩
 conv=>whnf
 refine cmpB (fun hne=>?_) (fun heq2=>?_)
 ·conv=>whnf
  repeat (refine SeqP.go ?_; conv=>whnf)
  exact no (fun e=>hne (by rw [e])) _ rfl
 have heq0:A.base = B.base:=by omega
 have hol:A.out.length = B.out.length:=by omega
 have hnl:A.next.length = B.next.length:=by omega
 conv=>whnf
 repeat (refine SeqP.go ?_; conv=>whnf)
 refine loop_inv (α:=Nat) (fun i=>[(5,int i),(4,.bool false),(3,ptr (h.next + 1) 0),(2,ptr h.next 0)]) (fun _=>H) (fun i=>i≤A.out.length∧∀ j,j < i→gl A.out j = gl B.out j∧rw_ A.next j = rw_ B.next j) (fun i=>A.out.length - i) 0 ⟨Nat.zero_le _,fun j hj=>absurd hj (Nat.not_lt_zero _)⟩ ⟨rfl,rfl,rfl,rfl,trivial⟩ (Hp.Le.refl _) ?_
 rintro i φ2 ⟨hi,hsame⟩
 conv=>whnf
 repeat (refine SeqP.go ?_; conv=>whnf)
 refine ⟨_,x1,?_⟩
 conv=>whnf
 refine cmpB (fun hlt=>?_) (fun hlt=>?_)
 rotate_left
 ·conv=>whnf
  repeat (refine SeqP.go ?_; conv=>whnf)
  have:i = A.out.length:=by omega
  subst this
  exact ⟨⟨true,rfl,bo_yes (mac_eq heq0 hol hnl hn hsame)⟩,gH⟩
 have hi':i < A.out.length:=by omega
 have hca:=kx.outAt hi'
 have hcb:=ky.outAt (i:=i) (by omega)
 have hra:=kx.rowAt (i:=i) (by omega)
 have hrb:=ky.rowAt (i:=i) (by omega)
 obtain ⟨r1,o1,sp1,ea,hsp1,hc1⟩:=hca
 obtain ⟨r2,o2,sp2,eb,hsp2,hc2⟩:=hcb
 obtain ⟨r3,o3,sp3,a3,c3,e3,hsp3,hc3,hv3⟩:=hra
 obtain ⟨r4,o4,sp4,a4,c4,e4,hsp4,hc4,hv4⟩:=hrb
 subst ea
 subst eb
 subst e3
 subst e4
 conv=>whnf
 repeat (refine SeqP.go ?_; conv=>whnf)
 refine ⟨_,x1,?_⟩
 conv=>whnf
 refine ⟨hsp1,⟨by omega,by omega⟩,?_⟩
 conv=>whnf
 refine ⟨_,hc1,?_⟩
 conv=>whnf
 refine ⟨_,y1,?_⟩
 conv=>whnf
 refine ⟨hsp2,⟨by omega,by omega⟩,?_⟩
 conv=>whnf
 refine ⟨_,hc2,?_⟩
 conv=>whnf
 refine cmpB (fun hne=>?_) (fun he1=>?_)
 ·conv=>whnf
  repeat (refine SeqP.go ?_; conv=>whnf)
  exact no (fun e=>hne (by rw [e])) _ rfl
 conv=>whnf
 refine ⟨_,x2,?_⟩
 conv=>whnf
 refine ⟨hsp3,⟨by omega,by omega⟩,?_⟩
 conv=>whnf
 refine ⟨_,hc3,?_⟩
 conv=>whnf
 refine ⟨_,y2,?_⟩
 conv=>whnf
 refine ⟨hsp4,⟨by omega,by omega⟩,?_⟩
 conv=>whnf
 refine ⟨_,hc4,?_⟩
 conv=>whnf
 refine cmpB (fun hne=>?_) (fun he2=>?_)
 ·conv=>whnf
  repeat (refine SeqP.go ?_; conv=>whnf)
  exact no (fun e=>hne (by rw [e])) _ rfl
 have hrl:(rw_ A.next i).length = (rw_ B.next i).length:=by omega
 have hrA:=hr i
 conv=>whnf
 repeat (refine SeqP.go ?_; conv=>whnf)
 refine loop_inv (α:=Nat) (fun j=>[(6,int j),(5,int i),(4,.bool false),(3,ptr (h.next + 1) 0),(2,ptr h.next 0)]) (fun _=>H) (fun j=>j≤(rw_ A.next i).length∧∀ k,k < j→gl (rw_ A.next i) k = gl (rw_ B.next i) k) (fun j=>(rw_ A.next i).length - j) 0 ⟨Nat.zero_le _,fun j hj=>absurd hj (Nat.not_lt_zero _)⟩ ⟨rfl,rfl,rfl,rfl,rfl,trivial⟩ (Hp.Le.refl _) ?_
 rintro j φ3 ⟨hj,hsame2⟩
 conv=>whnf
 repeat (refine SeqP.go ?_; conv=>whnf)
 refine ⟨_,x2,?_⟩
 conv=>whnf
 refine ⟨hsp3,⟨by omega,by omega⟩,?_⟩
 conv=>whnf
 refine ⟨_,hc3,?_⟩
 conv=>whnf
 refine cmpB (fun hlt2=>?_) (fun hlt2=>?_)
 rotate_left
 ·conv=>whnf
  repeat (refine SeqP.go ?_; conv=>whnf)
  refine ⟨_,wid (by omega),?_⟩
  conv=>whnf
  have:j = (rw_ A.next i).length:=by omega
  subst this
  exact Rnd.mk (i + 1) ⟨by omega,fun k hk=>by
   by_cases e:k = i
   ·subst e; exact ⟨by omega,list_gl hrl hsame2⟩
   ·exact hsame k (by omega)⟩ (by show A.out.length - (i + 1) < A.out.length - i; omega) ⟨rfl,rfl,rfl,rfl,trivial⟩ (Hp.Le.refl _) rfl
 have hj':j < (rw_ A.next i).length:=by omega
 have hj3:=View.cellg hv3 hj'
 have hj4:=View.cellg hv4 (i:=j) (by omega)
 obtain ⟨r5,o5,sp5,e5,hsp5,-,hc5⟩:=hj3
 obtain ⟨r6,o6,sp6,e6,hsp6,-,hc6⟩:=hj4
 subst e5
 subst e6
 conv=>whnf
 repeat (refine SeqP.go ?_; conv=>whnf)
 refine ⟨_,x2,?_⟩
 conv=>whnf
 refine ⟨hsp3,⟨by omega,by omega⟩,?_⟩
 conv=>whnf
 refine ⟨_,hc3,?_⟩
 conv=>whnf
 refine ⟨hsp5,⟨by omega,by omega⟩,?_⟩
 conv=>whnf
 refine ⟨_,hc5,?_⟩
 conv=>whnf
 refine ⟨_,y2,?_⟩
 conv=>whnf
 refine ⟨hsp4,⟨by omega,by omega⟩,?_⟩
 conv=>whnf
 refine ⟨_,hc4,?_⟩
 conv=>whnf
 refine ⟨hsp6,⟨by omega,by omega⟩,?_⟩
 conv=>whnf
 refine ⟨_,hc6,?_⟩
 conv=>whnf
 refine cmpB (fun hne=>?_) (fun he3=>?_)
 ·conv=>whnf
  repeat (refine SeqP.go ?_; conv=>whnf)
  exact no (fun e=>hne (by rw [e])) _ rfl
 conv=>whnf
 repeat (refine SeqP.go ?_; conv=>whnf)
 refine ⟨_,wid (by omega),?_⟩
 conv=>whnf
 exact Rnd.mk (j + 1) ⟨by omega,fun k hk=>by
  by_cases e:k = j
  ·subst e; omega
  ·exact hsame2 k (by omega)⟩ (by show (rw_ A.next i).length - (j + 1) < (rw_ A.next i).length - j; omega) ⟨rfl,rfl,rfl,rfl,rfl,trivial⟩ (Hp.Le.refl _) rfl
end
end Go.Proofs.Ytedneplaibmppaa
namespace Go.Proofs.Ytedneplaibmppaa
open Go.Rx Go.RowKit
def EverR (m:Mac) (out:Int) (r:Value):Prop:=(¬ (0≤out∧out≤9)→r = .tuple ⟨[int 0,.bool false,int 1]⟩)∧(0≤out∧out≤9→∃ b,r = .tuple ⟨[int (max (gl (m.evK out m.out.length) 0) 0),.bool b,int 0]⟩∧BoolOf b (0≤gl (m.evK out m.out.length) 0))
attribute [local irreducible] E idxN cellAt cellsAt storeAt callable helems hmoved lookIn findKey keyOk hentries Hp.at Hp.set Hp.lay arBits hupdated setAt CallP YieldP BoolOf IsWrap Rnd LoopP AppP CutP Int.tmod Int.tdiv Int.fdiv
section
variable [Unknowns]
attribute [local irreducible] sameAt
theorem Ever_spec (v:Value) (m:Mac) (out:Int) (h:Hp) (hv:MV h v m.i) (hm:OkS m):CallP E 35 [v,int out] h (fun r h'=>EverR m out r∧Grows h h'):=by
 obtain ⟨bx,rfl,hbx⟩:=hv.box
 have hL:=hm.lens
 refine enter35 (by simp) ?_
 conv=>whnf
 refine SeqP.cut (α:=Hp) (fun _=>[(2,ptr h.next 0),(1,int out)]) (fun x H=>x = H∧Grows h H∧H.at h.next = some (.row 25 true bx)) ?_ ?_
 ·conv=>whnf
  exact ⟨_,⟨rfl,rfl,trivial⟩,⟨rfl,Grows.lay _ _,Hp.at_lay_self _ _⟩,rfl⟩
 rintro H φ1 _ ⟨rfl,gH,aX⟩
 conv=>whnf
 repeat (refine SeqP.go ?_; conv=>whnf)
 refine ⟨_,all_cells aX hbx.len,?_⟩
 conv=>whnf
 refine CallP.mono (Check_spec _ m.i _ (Bx.mv (hbx.ext gH)) hL.1 hL.2.1 hL.2.2) ?_
 rintro r H2 ⟨⟨e,rfl,he,-⟩,g2⟩
 have he:=he hm.ck
 subst he
 have aX2:=g2.at_ _ _ aX
 have gh2:=gH.trans g2
 conv=>whnf
 repeat (refine SeqP.go ?_; conv=>whnf)
 refine cmpF (by omega) ?_
 conv=>whnf
 repeat (refine SeqP.go ?_; conv=>whnf)
 refine CallP.mono (isOut_spec out _) ?_
 rintro r _ ⟨⟨b,rfl,hb⟩,rfl⟩
 cases b with
 | false =>
  have hb:=hb.f
  conv=>whnf
  repeat (refine SeqP.go ?_; conv=>whnf)
  exact ⟨⟨fun _=>rfl,fun k=>absurd k hb⟩,gh2⟩
 | true =>
  have hb:=hb.t
  conv=>whnf
  repeat (refine SeqP.go ?_; conv=>whnf)
  refine ⟨_,all_cells aX2 hbx.len,?_⟩
  conv=>whnf
  refine CallP.mono (ever_spec _ m out _ (Bx.mv (hbx.ext gh2)) hm) ?_
  rintro r H3 ⟨⟨b,rfl,hb2⟩,g3⟩
  conv=>whnf
  repeat (refine SeqP.go ?_; conv=>whnf)
  exact ⟨⟨fun k=>absurd hb k,fun _=>⟨b,rfl,hb2⟩⟩,gh2.trans g3⟩
end
end Go.Proofs.Ytedneplaibmppaa
namespace Go.Proofs.Ytedneplaibmppaa
open Go.Rx Go.RowKit
def tm:Mac:=⟨2,[0,1],[[0,1],[1,0]]⟩
def rd:Mac:=⟨2,[0,0,1],[[1,2],[1,1],[2,2]]⟩
theorem tm_s:OkS tm where
 ok:=⟨by decide,by decide,rfl,by decide,fun s d hs hd=>(show ∀ s < 2,∀ d < 2,tm.nx s d < 2 by decide) s hs d hd⟩
 zer:=by unfold Mac.Zer; decide
 ck:=⟨by decide,by decide,by decide,by decide,by decide,rfl,fun s hs=>by
  have:s = 0∨s = 1:=by have:s < 2:=hs; omega
  rcases this with rfl | rfl
  ·exact ⟨by decide,by decide,rfl⟩
  ·exact ⟨by decide,by decide,rfl⟩⟩
theorem rd_s:OkS rd where
 ok:=⟨by decide,by decide,rfl,by decide,fun s d hs hd=>(show ∀ s < 3,∀ d < 2,rd.nx s d < 3 by decide) s hs d hd⟩
 zer:=by unfold Mac.Zer; decide
 ck:=⟨by decide,by decide,by decide,by decide,by decide,rfl,fun s hs=>by
  have:s = 0∨s = 1∨s = 2:=by have:s < 3:=hs; omega
  rcases this with rfl | rfl | rfl
  ·exact ⟨by decide,by decide,rfl⟩
  ·exact ⟨by decide,by decide,rfl⟩
  ·exact ⟨by decide,by decide,rfl⟩⟩
theorem tm_form:tm.form = tm:=by
 unfold Mac.form built
 rw [show tm.cl 0 = 0 from rfl,bfs_eq (L:=[0,1]) (.step (s:=0) rfl (.step (s:=1) rfl (.done (Nat.le_refl 2))))]
 rfl
theorem rd_form:rd.form = rd:=by
 unfold Mac.form built
 rw [show rd.cl 0 = 0 from rfl,bfs_eq (L:=[0,1,2]) (.step (s:=0) rfl (.step (s:=1) rfl (.step (s:=2) rfl (.done (Nat.le_refl 3)))))]
 rfl
theorem tm_every:(tm.every 2 0).form = tm:=by
 have h1:=Mac.every_ok tm_s.ok 2 0
 rw [Mac.form_uniq h1.1 tm_s.ok rfl ?_,tm_form]
 rw [Mac.alike_at h1.1 tm_s.ok (by decide) rfl (Mac.every_zer tm_s.ok tm_s.b2 tm_s.zer 2 0) tm_s.zer h1.1.n1 tm_s.ok.n1]
 intro n
 rw [Mac.every_at tm_s.ok tm_s.b2 tm_s.zer]
 have:=Mac.at_step tm_s.ok tm_s.b2 tm_s.zer (s:=0) (d:=0) (n:=n) (by decide) (by decide)
 rw [Nat.zero_add] at this
 exact this
theorem ring_rd:ringM 2 [0,1] 0 = rd:=by
 unfold ringM built
 rw [show ((((foldN [(0:Int),1].length 0 1:Nat):Int)),(0:Int)) = ((1:Int),(0:Int)) from rfl,bfs_eq (L:=[((1:Int),(0:Int)),(0,0),(0,1)]) (.step (s:=((1:Int),(0:Int))) rfl (.step (s:=((0:Int),(0:Int))) rfl (.step (s:=((0:Int),(1:Int))) rfl (.done (Nat.le_refl 3)))))]
 rfl
theorem tm_seq:seqL tm 8 = [0,1,1,0,1,0,0,1]:=by kernel_rfl
theorem tm_ever:gl (tm.evK 1 tm.out.length) 0 = 1:=by kernel_rfl
theorem rd_sink:∀ w s,(s = 1∨s = 2)→Mac.Wd 2 w→rd.run s w = s
 | [],s,_,_=>rfl
 | d :: w,s,hs,hw=>by
  have hd:d < 2:=hw d (by simp)
  have hw':Mac.Wd 2 w:=fun x hx=>hw x (by simp [hx])
  have e:rd.nx s d = s:=by
   have hd':d = 0∨d = 1:=by omega
   rcases hs with rfl | rfl <;> rcases hd' with rfl | rfl <;> rfl
  show rd.run (rd.nx s d) w = s
  rw [e]
  exact rd_sink w s hs hw'
theorem rd_at (n:Nat):rd.at_ 0 n = ((n % 2:Nat):Int):=by
 by_cases h:n = 0
 ·subst h; rfl
 ·show rd.o (rd.run 0 (dg 2 n)) = _
  rw [dg_pos (Nat.le_refl 2) h]
  show rd.o (rd.run (rd.nx 0 (n % 2)) (dg 2 (n / 2))) = _
  have hm:n % 2 = 0∨n % 2 = 1:=by omega
  rcases hm with e | e
  ·rw [e,show rd.nx 0 0 = 1 from rfl,rd_sink _ _ (.inl rfl) (dg_wd (Nat.le_refl 2) _)]; rfl
  ·rw [e,show rd.nx 0 1 = 2 from rfl,rd_sink _ _ (.inr rfl) (dg_wd (Nat.le_refl 2) _)]; rfl
theorem rd_find {r:Value} (h:FindR rd r):r = .tuple ⟨[int 0,int 2,.bool true,int 0]⟩:=by
 have h2:RoundP rd 60 2:=fun n=>by rw [rd_at,rd_at,show (n + 60) % 2 = (n + 60 + 2) % 2 by omega]
 have h1:¬ RoundP rd 60 1:=fun k=>by
  have:=k 0
  rw [rd_at,rd_at] at this
  revert this
  decide
 rcases h with ⟨p,hp1,hp30,hp,hmin,e⟩ | ⟨hno,_⟩
 ·have:p = 2:=by
   by_cases h3:p = 2
   ·exact h3
   ·by_cases h4:p = 1
    ·subst h4; exact absurd hp h1
    ·exact absurd h2 (hmin 2 (by omega) (by omega))
  subst this
  rw [e,show startF rd 2 60 = 0 from by kernel_rfl]
  rfl
 ·exact absurd h2 (hno 2 (by omega) (by omega))
end Go.Proofs.Ytedneplaibmppaa
namespace Go.Proofs.Ytedneplaibmppaa
open Go.Rx Go.RowKit
theorem lens_of {m:Mac} (h:OkS m):Lens m.i:=by
 have:=h.lens
 exact ⟨by omega,by omega,fun s=>by have:=this.2.2 s; omega⟩
theorem cut_tm:cutI tm.i = tm.i:=rfl
theorem cut_rd:cutI rd.i = rd.i:=rfl
theorem MV.bx {h:Hp} {cs:List Value} {M:MacI} (k:MV h (.agg ⟨cs⟩) M):Bx h cs M:=by
 obtain ⟨bx,e,hb⟩:=k.box
 injection e with e
 injection e with e
 subst e
 exact hb
theorem rd_mv {H:Hp} {r1 r2 r3 r4 r5:Nat} (h1:H.at r1 = some (.row 3 true [int 0,int 0,int 1])) (h2:H.at r2 = some (.row 3 true [int 1,int 2])) (h3:H.at r3 = some (.row 3 true [int 1,int 1])) (h4:H.at r4 = some (.row 3 true [int 2,int 2])) (h5:H.at r5 = some (.row 22 true [slc r2 0 2 2,slc r3 0 2 2,slc r4 0 2 2])):MV H (.agg ⟨[int 2,slc r1 0 3 3,slc r5 0 3 3]⟩) rd.i:=by
 refine OwnM.mv (h0:=⟨0,H.raw⟩) ⟨_,_,[slc r2 0 2 2,slc r3 0 2 2,slc r4 0 2 2],rfl,⟨rfl,.inr ⟨_,rfl,Nat.zero_le _,true,h1⟩⟩,⟨rfl,.inr ⟨_,rfl,Nat.zero_le _,true,h5⟩⟩,rfl,fun k u l e1 e2=>?_⟩
 match k,e1,e2 with
 | 0,e1,e2=>cases e1; cases e2; exact .inr ⟨_,rfl,Nat.zero_le _,true,h2⟩
 | 1,e1,e2=>cases e1; cases e2; exact .inr ⟨_,rfl,Nat.zero_le _,true,h3⟩
 | 2,e1,e2=>cases e1; cases e2; exact .inr ⟨_,rfl,Nat.zero_le _,true,h4⟩
 | k + 3,e1,e2=>simp at e1
attribute [local irreducible] E idxN cellAt cellsAt storeAt callable helems hmoved lookIn findKey keyOk hentries Hp.at Hp.set Hp.lay arBits hupdated setAt CallP YieldP BoolOf IsWrap Rnd LoopP AppP CutP Int.tmod Int.tdiv Int.fdiv
section
variable [Unknowns]
attribute [local irreducible] sameAt
theorem awake_spec (h:Hp):CallP E 21 [] h (fun r h'=>r = .bool true∧Grows h h'):=by
 refine enter21 (by simp) ?_
 conv=>whnf
 refine SeqP.go ?_
 conv=>whnf
 refine SeqP.cut (α:=Nat×List Value×Hp) (fun s=>[(1,ptr s.1 0)]) (fun s H=>s.2.2 = H∧Grows h H∧H.at s.1 = some (.row 25 true s.2.1)∧Bx H s.2.1 tm.i) ?_ ?_
 ·conv=>whnf
  refine CallP.mono (Morse_spec _) ?_
  rintro w H ⟨hw,g⟩
  have hk:=hw.known
  obtain ⟨a,b,rfl⟩:=hk
  conv=>whnf
  refine ⟨rfl,_,storeAt_all (vs:=[int 2,.slice a _ _,.slice b _ _]) rfl rfl rfl,?_⟩
  conv=>whnf
  refine ⟨(H.next,_,_),⟨rfl,trivial⟩,⟨rfl,g.then_lay _,Hp.at_lay_self _ _,?_⟩,rfl⟩
  exact (hw.mv.ext (Grows.lay _ _)).bx
 rintro ⟨N1,bx,H1⟩ φ1 _ ⟨rfl,g1,a1,b1⟩
 dsimp only at g1 a1 b1 ⊢
 conv=>whnf
 refine SeqP.cut (α:=Nat×Option Addr×Hp) (fun s=>[(1,ptr N1 0),(2,.slice s.2.1 8 8),(3,int 0)]) (fun s H=>s.2.2 = H∧Grows H1 H∧View H (.slice s.2.1 8 8) [0,1,1,0,1,0,0,1]) ?_ ?_
 ·conv=>whnf
  refine ⟨_,all_cells a1 b1.len,?_⟩
  conv=>whnf
  refine CallP.mono (First_spec _ tm 8 _ (Bx.mv b1) tm_s) ?_
  rintro r H2 ⟨⟨-,hw0⟩,g2⟩
  have hw0:=hw0 (by omega) (by omega)
  obtain ⟨w,rfl,hw⟩:=hw0
  have e8:seqL tm (8:Int).toNat = [0,1,1,0,1,0,0,1]:=tm_seq
  rw [e8] at hw
  have hws:=hw.c.slice
  obtain ⟨aw,rfl,-⟩:=hws
  conv=>whnf
  exact ⟨(0,aw,_),⟨rfl,rfl,rfl,trivial⟩,⟨rfl,g2,hw.view⟩,rfl⟩
 rintro ⟨x2,aw,H2⟩ φ2 _ ⟨rfl,g2,v2⟩
 dsimp only at g2 v2 ⊢
 conv=>whnf
 refine SeqP.cut (α:=Nat×List Value×Hp) (fun s=>[(1,ptr N1 0),(2,.slice aw 8 8),(3,int 0),(4,ptr s.1 0),(5,int 0)]) (fun s H=>s.2.2 = H∧Grows H2 H∧H.at s.1 = some (.row 25 true s.2.1)∧Bx H s.2.1 rd.i) ?_ ?_
 ·conv=>whnf
  have gl1:Grows H2 (H2.lay (.row 3 true [int 0,int 1])):=Grows.lay _ _
  have vb:View (H2.lay (.row 3 true [int 0,int 1])) (slc H2.next 0 2 2) [0,1]:=row_view (ls:=[0,1]) (Hp.at_lay_self _ _) rfl
  have vn:View (H2.lay (.row 3 true [int 0,int 1])) nilS []:=Built.view (h0:=H2) (e:=3) (.inl ⟨rfl,rfl⟩)
  refine CallP.mono (Round_spec 2 _ _ [] [0,1] _ vn vb (by simp) (by simp)) ?_
  rintro r H3 ⟨⟨-,hr⟩,g3⟩
  have hnb:¬ BadR 2 ([]:List Int) [0,1]:=by unfold BadR; simp
  have hr:=hr hnb
  obtain ⟨u,e,rfl,hu,-⟩:=hr
  have er:ringM (2:Int).toNat ([] ++ [0,1]) ([]:List Int).length = rd:=ring_rd
  rw [er,rd_form] at hu
  have hu2:=hu (by decide)
  obtain ⟨rfl,hu3⟩:=hu2
  have hk:=hu3.known
  obtain ⟨a,b,rfl⟩:=hk
  conv=>whnf
  refine ⟨rfl,_,storeAt_all (vs:=[int 2,.slice a _ _,.slice b _ _]) rfl rfl rfl,?_⟩
  conv=>whnf
  exact ⟨(H3.next,_,_),⟨rfl,rfl,rfl,rfl,rfl,trivial⟩,⟨rfl,(gl1.trans g3).then_lay _,Hp.at_lay_self _ _,(hu3.mv.ext (Grows.lay _ _)).bx⟩,rfl⟩
 rintro ⟨N4,by4,H3⟩ φ3 _ ⟨rfl,g3,a4,b4⟩
 dsimp only at g3 a4 b4 ⊢
 have g13:=g2.trans g3
 have a1:=g13.at_ _ _ a1
 have b1:=b1.ext g13
 have v2:=v2.ext g3
 have g1:=g1.trans g13
 clear g2 g3 g13
 conv=>whnf
 refine SeqP.cut (α:=Nat×List Value×Hp) (fun s=>[(1,ptr N1 0),(2,.slice aw 8 8),(3,int 0),(4,ptr N4 0),(5,int 0),(6,ptr s.1 0),(7,int 0)]) (fun s H=>s.2.2 = H∧Grows H3 H∧H.at s.1 = some (.row 25 true s.2.1)∧Bx H s.2.1 tm.i) ?_ ?_
 ·conv=>whnf
  refine ⟨_,all_cells a1 b1.len,?_⟩
  conv=>whnf
  refine CallP.mono (Every_spec _ tm 2 0 _ (Bx.mv b1) tm_s) ?_
  rintro r H4 ⟨⟨-,hr⟩,g4⟩
  have hnb:¬ BadE 2 0:=by unfold BadE; omega
  have hr:=hr hnb
  obtain ⟨u,e,rfl,hu,-⟩:=hr
  have er:(tm.every (2:Int).toNat (0:Int).toNat).form = tm:=tm_every
  rw [er] at hu
  have hu2:=hu (by decide)
  obtain ⟨rfl,hu3⟩:=hu2
  have hk:=hu3.known
  obtain ⟨a,b,rfl⟩:=hk
  conv=>whnf
  refine ⟨rfl,_,storeAt_all (vs:=[int 2,.slice a _ _,.slice b _ _]) rfl rfl rfl,?_⟩
  conv=>whnf
  exact ⟨(H4.next,_,_),⟨rfl,rfl,rfl,rfl,rfl,rfl,rfl,trivial⟩,⟨rfl,g4.then_lay _,Hp.at_lay_self _ _,(hu3.mv.ext (Grows.lay _ _)).bx⟩,rfl⟩
 rintro ⟨N6,by6,H4⟩ φ4 _ ⟨rfl,g4,a6,b6⟩
 dsimp only at g4 a6 b6 ⊢
 have a1:=g4.at_ _ _ a1
 have b1:=b1.ext g4
 have a4:=g4.at_ _ _ a4
 have b4:=b4.ext g4
 have v2:=v2.ext g4
 have g1:=g1.trans g4
 clear g4
 conv=>whnf
 refine SeqP.cut (α:=Hp) (fun s=>[(1,ptr N1 0),(2,.slice aw 8 8),(3,int 0),(4,ptr N4 0),(5,int 0),(6,ptr N6 0),(7,int 0),(8,int 1),(9,.bool true),(10,int 0)]) (fun s H=>s = H∧Grows H4 H) ?_ ?_
 ·conv=>whnf
  refine ⟨_,all_cells a1 b1.len,?_⟩
  conv=>whnf
  refine CallP.mono (Ever_spec _ tm 1 _ (Bx.mv b1) tm_s) ?_
  rintro r H5 ⟨⟨-,hr⟩,g5⟩
  have hr:=hr (by omega)
  rw [tm_ever] at hr
  obtain ⟨b,rfl,hb⟩:=hr
  cases b with
  | false=>exact absurd (by omega) hb.f
  | true =>
   conv=>whnf
   exact ⟨_,⟨rfl,rfl,rfl,rfl,rfl,rfl,rfl,rfl,rfl,rfl,trivial⟩,⟨rfl,g5⟩,rfl⟩
 rintro H5 φ5 _ ⟨rfl,g5⟩
 have a1:=g5.at_ _ _ a1
 have b1:=b1.ext g5
 have a4:=g5.at_ _ _ a4
 have b4:=b4.ext g5
 have a6:=g5.at_ _ _ a6
 have b6:=b6.ext g5
 have v2:=v2.ext g5
 have g1:=g1.trans g5
 clear g5
 conv=>whnf
 refine SeqP.cut (α:=Hp) (fun s=>[(1,ptr N1 0),(2,.slice aw 8 8),(3,int 0),(4,ptr N4 0),(5,int 0),(6,ptr N6 0),(7,int 0),(8,int 1),(9,.bool true),(10,int 0),(11,int 0),(12,int 2),(13,.bool true),(14,int 0)]) (fun s H=>s = H∧Grows H5 H) ?_ ?_
 ·conv=>whnf
  refine ⟨_,all_cells a4 b4.len,?_⟩
  conv=>whnf
  refine CallP.mono (FindRound_spec _ rd _ (Bx.mv b4) rd_s) ?_
  rintro r H6 ⟨hr,g6⟩
  have hr:=rd_find hr
  subst hr
  conv=>whnf
  exact ⟨_,⟨rfl,rfl,rfl,rfl,rfl,rfl,rfl,rfl,rfl,rfl,rfl,rfl,rfl,rfl,trivial⟩,⟨rfl,g6⟩,rfl⟩
 rintro H6 φ6 _ ⟨rfl,g6⟩
 have a1:=g6.at_ _ _ a1
 have b1:=b1.ext g6
 have a4:=g6.at_ _ _ a4
 have b4:=b4.ext g6
 have a6:=g6.at_ _ _ a6
 have b6:=b6.ext g6
 have v2:=v2.ext g6
 have g1:=g1.trans g6
 clear g6
 conv=>whnf
 repeat (refine SeqP.go ?_; conv=>whnf)
 refine ⟨_,all_cells a1 b1.len,?_⟩
 conv=>whnf
 refine CallP.mono (own_spec _ tm.i _ (Bx.mv b1) (lens_of tm_s)) ?_
 rintro r H7 ⟨hw,g7⟩
 rw [cut_tm] at hw
 have hk:=hw.known
 obtain ⟨p1,q1,rfl⟩:=hk
 conv=>whnf
 refine CallP.mono (RMorse_spec _) ?_
 rintro r H8 ⟨hw2,g8⟩
 have hk:=hw2.known
 obtain ⟨p2,q2,rfl⟩:=hk
 conv=>whnf
 refine CallP.mono (REqual_spec _ _ tm.i tm.i _ (hw.mv.ext g8) hw2.mv rfl (by decide) tm_s.lens.2.2) ?_
 rintro _ H9 ⟨⟨x,rfl,hx⟩,g9⟩
 cases x with
 | false=>exact absurd rfl hx.f
 | true =>
  have g69:=(g7.trans g8).trans g9
  have a1:=g69.at_ _ _ a1
  have b1:=b1.ext g69
  have a4:=g69.at_ _ _ a4
  have b4:=b4.ext g69
  have a6:=g69.at_ _ _ a6
  have b6:=b6.ext g69
  have v2:=v2.ext g69
  have g1:=g1.trans g69
  clear g69 g7 g8 g9 hw hw2 hx
  conv=>whnf
  refine cmpT rfl ?_
  conv=>whnf
  have gl1:Grows H9 (H9.lay (.row 3 true [int 0,int 1,int 1,int 0,int 1,int 0,int 0,int 1])):=Grows.lay _ _
  have vb:View (H9.lay (.row 3 true [int 0,int 1,int 1,int 0,int 1,int 0,int 0,int 1])) (slc H9.next 0 8 8) [0,1,1,0,1,0,0,1]:=row_view (ls:=[0,1,1,0,1,0,0,1]) (Hp.at_lay_self _ _) rfl
  refine CallP.mono (ints_spec _ _ [0,1,1,0,1,0,0,1] [0,1,1,0,1,0,0,1] _ (v2.ext gl1) vb (by simp)) ?_
  rintro _ _ ⟨⟨x,rfl,hx⟩,rfl⟩
  cases x with
  | false=>exact absurd rfl hx.f
  | true =>
   conv=>whnf
   refine cmpT rfl ?_
   conv=>whnf
   have a4:=gl1.at_ _ _ a4
   have b4:=b4.ext gl1
   have a6:=gl1.at_ _ _ a6
   have b6:=b6.ext gl1
   have g1:=g1.trans gl1
   clear vb v2 hx gl1 a1 b1
   refine ⟨_,all_cells a4 b4.len,?_⟩
   conv=>whnf
   refine CallP.mono (own_spec _ rd.i _ (Bx.mv b4) (lens_of rd_s)) ?_
   rintro r H11 ⟨hw,g11⟩
   rw [cut_rd] at hw
   have hk:=hw.known
   obtain ⟨p1,q1,rfl⟩:=hk
   conv=>whnf
   have h1:=Hp.at_lay_self H11 (.row 3 true [int 0,int 0,int 1])
   have m1:(H11.lay (.row 3 true [int 0,int 0,int 1])).next = H11.next + 1:=Hp.next_lay _ _
   have hexA:∃ A,H11.lay (.row 3 true [int 0,int 0,int 1]) = A:=⟨_,rfl⟩
   have gA:∀ o1 o2 o3 o4 o5,Grows H11 (((((H11.lay o1).lay o2).lay o3).lay o4).lay o5):=fun _ _ _ _ _=>((((Grows.lay _ _).then_lay _).then_lay _).then_lay _).then_lay _
   refine CallP.mono (REqual_spec _ _ rd.i rd.i _ ?_ ?_ rfl (by decide) rd_s.lens.2.2) ?_
   ·exact hw.mv.ext (gA _ _ _ _ _)
   ·exact rd_mv (Hp.at_lay_old _ (Hp.at_lay_old _ (Hp.at_lay_old _ (Hp.at_lay_old _ (Hp.at_lay_self _ _))))) (Hp.at_lay_old _ (Hp.at_lay_old _ (Hp.at_lay_old _ (Hp.at_lay_self _ _)))) (Hp.at_lay_old _ (Hp.at_lay_old _ (Hp.at_lay_self _ _))) (Hp.at_lay_old _ (Hp.at_lay_self _ _)) (Hp.at_lay_self _ _)
   rintro _ H12 ⟨⟨x,rfl,hx⟩,g12⟩
   cases x with
   | false=>exact absurd rfl hx.f
   | true =>
    have g69:=(g11.trans (gA _ _ _ _ _)).trans g12
    have a6:=g69.at_ _ _ a6
    have b6:=b6.ext g69
    have g1:=g1.trans g69
    clear g69 g11 gA g12 hx hw hexA h1 m1
    conv=>whnf
    refine cmpT rfl ?_
    conv=>whnf
    refine ⟨_,all_cells a6 b6.len,?_⟩
    conv=>whnf
    refine CallP.mono (own_spec _ tm.i _ (Bx.mv b6) (lens_of tm_s)) ?_
    rintro r H13 ⟨hw,g13⟩
    rw [cut_tm] at hw
    have hk:=hw.known
    obtain ⟨p3,q3,rfl⟩:=hk
    conv=>whnf
    refine CallP.mono (RMorse_spec _) ?_
    rintro r H14 ⟨hw2,g14⟩
    have hk:=hw2.known
    obtain ⟨p4,q4,rfl⟩:=hk
    conv=>whnf
    refine CallP.mono (REqual_spec _ _ tm.i tm.i _ (hw.mv.ext g14) hw2.mv rfl (by decide) tm_s.lens.2.2) ?_
    rintro _ H15 ⟨⟨x,rfl,hx⟩,g15⟩
    cases x with
    | false=>exact absurd rfl hx.f
    | true =>
     have g1:=((g1.trans g13).trans g14).trans g15
     conv=>whnf
     refine cmpT rfl ?_
     conv=>whnf
     refine cmpT rfl ?_
     conv=>whnf
     refine cmpT rfl ?_
     conv=>whnf
     refine cmpT rfl ?_
     conv=>whnf
     refine cmpT rfl ?_
     conv=>whnf
     have me:MV H15 (.agg ⟨[int 0,nilS,nilS]⟩) ⟨0,[],[]⟩:=⟨nilS,nilS,rfl,Built.view (h0:=H15) (e:=3) (.inl ⟨rfl,rfl⟩),Mat.nil _⟩
     refine CallP.mono (Check_spec _ _ _ me (by simp) (by simp) (by simp [rw_])) ?_
     rintro _ H16 ⟨⟨e,rfl,-,he⟩,g16⟩
     have he:=he (fun k=>by have:=k.b2; dsimp only at this; omega)
     subst he
     conv=>whnf
     refine cmpT rfl ?_
     conv=>whnf
     repeat (refine SeqP.go ?_; conv=>whnf)
     exact ⟨rfl,g1.trans g16⟩
end
end Go.Proofs.Ytedneplaibmppaa
namespace Go.Proofs.Ytedneplaibmppaa
open Go.Rx Go.RowKit
abbrev InR (n:Int):Prop:=-9223372036854775808≤n∧n < 9223372036854775808
end Go.Proofs.Ytedneplaibmppaa
namespace Go.Proofs.Ytedneplaibmppaa
open Go.Rx Go.RowKit
theorem under3:Try.prog.underlying 3 = some (.int .i64):=Try.underlying3
theorem under22:Try.prog.underlying 22 = some (.slice 3):=Try.underlying22
def fieldTy (i:Nat) (t:TypeId):Option TypeDesc→Option (TypeId×Nat)
 | some (.struct fs)=>(fs[i]?).map fun f=>(f.type,f.offset)
 | _=>none
theorem field_of {t ft off i:Nat} (h:fieldTy i t (Try.prog.underlying t) = some (ft,off)) {ts:List Tr} (hy:TyT Try.prog t ts):ts.length = Try.prog.cellsOf t∧TyT Try.prog ft ((ts.drop off).take (Try.prog.cellsOf ft)):=by
 cases hu:Try.prog.underlying t with
 | none=>rw [hu] at h; cases h
 | some d =>
  rw [hu] at h
  cases d with
  | struct fs =>
   have hf:=ty_field hu hy
   unfold fieldTy at h
   dsimp only at h
   cases hg:fs[i]? with
   | none=>rw [hg] at h; cases h
   | some f =>
    rw [hg] at h
    cases h
    exact ⟨hf.1,hf.2 i f hg⟩
  | _=>cases h
theorem cells3:Try.prog.cellsOf 3 = 1:=by kernel_rfl
theorem cells22:Try.prog.cellsOf 22 = 1:=by kernel_rfl
theorem one_of {ts:List Tr} {o:Nat} (h:o < ts.length):(ts.drop o).take 1 = [ts[o]]:=by
 rw [List.drop_eq_getElem_cons h]; rfl
theorem ag_inv {h:Hp} {v:Value} {ts:List Tr} (k:AbsT h v (.ag ts)):∃ vs:List Value,v = .agg ⟨vs⟩∧vs.length = ts.length∧∀ (k:Nat) v t,vs[k]? = some v→ts[k]? = some t→AbsT h v t:=by
 cases k with
 | ag vs cs hl ht=>exact ⟨vs,rfl,hl,ht⟩
theorem num_inv {h:Hp} {v:Value} {n:Int} (k:AbsT h v (.num n)):v = int n:=by cases k; rfl
end Go.Proofs.Ytedneplaibmppaa
namespace Go.Proofs.Ytedneplaibmppaa
open Go.Rx Go.RowKit
theorem OkS.cut {m:Mac} (h:OkS m):cutI m.i = m.i:=by
 have h1:=h.n12
 have h2:=h.ok.ilen
 have h5:=h.b5
 refine cutI_id (by show m.out.length≤13; omega) (by omega) fun l hl=>?_
 obtain ⟨i,hi,rfl⟩:=List.getElem_of_mem hl
 have:=h.ok.irow (s:=i) (by omega)
 rw [rw_at hi] at this
 omega
theorem OwnM.bx {h0 h:Hp} {cs:List Value} {M:MacI} (k:OwnM h0 h (.agg ⟨cs⟩) M):Bx h cs M:=k.mv.bx
end Go.Proofs.Ytedneplaibmppaa
namespace Go.Proofs.Ytedneplaibmppaa
open Go.Rx Go.RowKit
namespace Mac
theorem Ok.ck {m:Mac} (h:m.Ok) (z:m.Zer) (b2:2≤m.base) (b5:m.base≤5) (n12:m.out.length≤12) (outs:∀ x ∈ m.out,0≤x∧x≤9):OkS m where
 ok:=h
 zer:=z
 ck:=by
  have hil:=h.ilen
  refine ⟨by show (2:Int)≤m.base; omega,by show (m.base:Int)≤5; omega,h.n1,n12,outs,hil,fun s hs=>?_⟩
  have hs:s < m.out.length:=hs
  have hr:=h.irow hs
  have g0:=m.i_nx s
  refine ⟨by show ((rw_ m.i.next s).length:Int) = (m.base:Int); omega,fun x hx=>?_,?_⟩
  ·obtain ⟨d,hd,rfl⟩:=List.getElem_of_mem hx
   rw [← gl_at hd,g0]
   have:=h.lt s d hs (by omega)
   show (0:Int)≤(m.nx s d:Int)∧(m.nx s d:Int) < (m.out.length:Int)
   omega
  ·rw [g0,Int.toNat_natCast]
   exact z s hs
theorem form_zer {m:Mac} (h:m.Ok) (z:m.Zer):m.form.Zer:=built_zer (form_fin h) (List.mem_of_getElem? (cl_get h h.n1)) h.b1 fun c hc=>by
 obtain ⟨i,hi,rfl⟩:=List.getElem_of_mem hc
 rw [cls_len h] at hi
 have e:=cl_get h hi
 rw [List.getElem?_eq_getElem (by rw [cls_len h]; exact hi)] at e
 injection e with e
 rw [e,nextC_cl h hi h.b1,outC_cl h hi,outC_cl h (h.lt i 0 hi h.b1)]
 exact z i hi
theorem form_outs {m:Mac} (h:m.Ok) {P:Int→Prop} (q:∀ x ∈ m.out,P x):∀ x ∈ m.form.out,P x:=built_outs (form_fin h) (List.mem_of_getElem? (cl_get h h.n1)) fun c hc=>by
 obtain ⟨i,hi,rfl⟩:=List.getElem_of_mem hc
 rw [cls_len h] at hi
 have e:=cl_get h hi
 rw [List.getElem?_eq_getElem (by rw [cls_len h]; exact hi)] at e
 injection e with e
 rw [e,outC_cl h hi]
 have e2:m.o i = m.out[i]:=gl_at hi
 rw [e2]
 exact q _ (List.getElem_mem hi)
theorem form_s {m:Mac} (h:m.Ok) (z:m.Zer) (b2:2≤m.base) (b5:m.base≤5) (outs:∀ x ∈ m.out,0≤x∧x≤9) (n12:m.form.out.length≤12):OkS m.form:=(form_ok h).ck (form_zer h z) b2 b5 n12 (form_outs h outs)
end Mac
end Go.Proofs.Ytedneplaibmppaa
namespace Go.Proofs.Ytedneplaibmppaa
open Go.Rx Go.RowKit
def LenC (M:MacI):Prop:=M.out.length≤1000000∧M.next.length≤1000000∧∀ s,(rw_ M.next s).length≤1000000
abbrev no0:MacI:=⟨0,[],[]⟩
theorem noM_mv (h:Hp):MV h noM no0:=⟨nilS,nilS,rfl,Built.view (h0:=h) (e:=3) (.inl ⟨rfl,rfl⟩),Mat.nil _⟩
end Go.Proofs.Ytedneplaibmppaa
namespace Go.Proofs.Ytedneplaibmppaa
open Go.Rx Go.RowKit
def Slot (H:Hp) (N:Nat) (e:Int) (F:Mac):Prop:=∃ bx:List Value,bx.length = 3∧H.at N = some (.row 25 true bx)∧(e = 0∧F.out.length≤12∧Bx H bx F.i∨e≠0∧bx = [int 0,nilS,nilS])
theorem Slot.ext {H H':Hp} {N:Nat} {e:Int} {F:Mac} (g:Grows H H') (k:Slot H N e F):Slot H' N e F:=by
 obtain ⟨bx,h1,h2,h3⟩:=k
 refine ⟨bx,h1,g.at_ _ _ h2,?_⟩
 rcases h3 with ⟨h3,h4,h5⟩ | h3
 ·exact .inl ⟨h3,h4,h5.ext g⟩
 ·exact .inr h3
theorem Slot.mv {H:Hp} {N:Nat} {e:Int} {F:Mac} (k:Slot H N e F):∃ bx:List Value,bx.length = 3∧H.at N = some (.row 25 true bx)∧sameV 4 (.agg ⟨bx⟩) (.agg ⟨bx⟩) = true∧(e = 0→F.out.length≤12∧MV H (.agg ⟨bx⟩) F.i)∧(e≠0→MV H (.agg ⟨bx⟩) no0):=by
 obtain ⟨bx,h1,h2,h3⟩:=k
 rcases h3 with ⟨h3,h4,h5⟩ | ⟨h3,rfl⟩
 ·exact ⟨bx,h1,h2,h5.same,fun _=>⟨h4,Bx.mv h5⟩,fun q=>absurd h3 q⟩
 ·exact ⟨_,h1,h2,sameV_mac _ _ _ _ _ _ _,fun q=>absurd q h3,fun _=>noM_mv H⟩
end Go.Proofs.Ytedneplaibmppaa
namespace Go.Proofs.Ytedneplaibmppaa
open Go.Rx Go.RowKit
attribute [local irreducible] E idxN cellAt cellsAt storeAt callable helems hmoved lookIn findKey keyOk hentries Hp.at Hp.set Hp.lay arBits hupdated setAt CallP YieldP BoolOf IsWrap Rnd LoopP AppP CutP Int.tmod Int.tdiv Int.fdiv
section
variable [Unknowns]
attribute [local irreducible] sameAt
theorem empty_spec (v:Value) (M:MacI) (h:Hp) (hv:MV h v M):CallP E 36 [v] h (fun r h'=>(∃ x,r = .bool x∧BoolOf x (M = no0))∧Grows h h'):=by
 obtain ⟨bx,rfl,hbx⟩:=hv.box
 obtain ⟨ao,an,co,cn,hcx⟩:=hbx.cx
 refine enter36 (by simp) ?_
 conv=>whnf
 refine SeqP.cut (α:=Hp) (fun _=>[(1,ptr h.next 0)]) (fun x H=>x = H∧Grows h H∧H.at h.next = some (.row 25 true bx)) ?_ ?_
 ·conv=>whnf
  exact ⟨_,⟨rfl,trivial⟩,⟨rfl,Grows.lay _ _,Hp.at_lay_self _ _⟩,rfl⟩
 rintro H φ1 _ ⟨rfl,gH,aX⟩
 have kx:=hcx H h.next 25 gH aX
 have x0:=kx.c0
 have x1:=kx.c1
 have x2:=kx.c2
 conv=>whnf
 repeat (refine SeqP.go ?_; conv=>whnf)
 refine ⟨_,x0,?_⟩
 conv=>whnf
 refine cmpB (fun q1=>?_) (fun q1=>?_)
 rotate_left
 ·conv=>whnf
  repeat (refine SeqP.go ?_; conv=>whnf)
  exact ⟨⟨false,rfl,bo_no fun e=>q1 (by rw [e])⟩,gH⟩
 conv=>whnf
 refine ⟨_,x1,?_⟩
 conv=>whnf
 refine cmpB (fun q2=>?_) (fun q2=>?_)
 rotate_left
 ·conv=>whnf
  repeat (refine SeqP.go ?_; conv=>whnf)
  exact ⟨⟨false,rfl,bo_no fun e=>q2 (by rw [e]; rfl)⟩,gH⟩
 conv=>whnf
 refine ⟨_,x2,?_⟩
 conv=>whnf
 refine cmpB (fun q3=>?_) (fun q3=>?_)
 rotate_left
 ·conv=>whnf
  repeat (refine SeqP.go ?_; conv=>whnf)
  exact ⟨⟨false,rfl,bo_no fun e=>q3 (by rw [e]; rfl)⟩,gH⟩
 conv=>whnf
 repeat (refine SeqP.go ?_; conv=>whnf)
 refine ⟨⟨true,rfl,bo_yes ?_⟩,gH⟩
 obtain ⟨a,b,c⟩:=M
 dsimp only at q1 q2 q3
 have e2:b = []:=List.eq_nil_of_length_eq_zero (by omega)
 have e3:c = []:=List.eq_nil_of_length_eq_zero (by omega)
 rw [q1,e2,e3]
end
end Go.Proofs.Ytedneplaibmppaa
namespace Go.Proofs.Ytedneplaibmppaa
open Go.Rx Go.RowKit
theorem LenC.lens {M:MacI} (h:LenC M):Lens M:=⟨by have:=h.1; omega,by have:=h.2.1; omega,fun s=>by have:=h.2.2 s; omega⟩
end Go.Proofs.Ytedneplaibmppaa
namespace Go.Proofs.Ytedneplaibmppaa
open Go.Rx Go.RowKit
abbrev gb (l:List Bool) (i:Nat):Bool:=l.getD i false
theorem gb_set (l:List Bool) (i j:Nat) (h:gb l j = true):gb (l.set i true) j = true:=by
 unfold gb at *
 rw [List.getD_eq_getElem?_getD] at *
 by_cases e:i = j
 ·subst e
  by_cases hi:i < l.length
  ·rw [List.getElem?_set_self hi]; rfl
  ·rw [List.getElem?_eq_none (by omega)] at h; cases h
 ·rw [List.getElem?_set_ne e]; exact h
theorem gb_self (l:List Bool) (i:Nat) (h:i < l.length):gb (l.set i true) i = true:=by
 unfold gb
 rw [List.getD_eq_getElem?_getD,List.getElem?_set_self h]; rfl
structure Rk (F:Mac) (k:Nat) (ms:List Bool):Prop where
 len:ms.length = F.out.length
 all:∀ w,Mac.Wd F.base w→w.length≤k→gb ms (F.run 0 w) = true
def Nk (F:Mac) (k u:Nat):Prop:=∃ w,Mac.Wd F.base w∧w.length≤k∧F.run 0 w = u
theorem Rk.set {F:Mac} {k:Nat} {ms:List Bool} (h:Rk F k ms) (i:Nat):Rk F k (ms.set i true):=⟨by rw [List.length_set]; exact h.len,fun w hw hk=>gb_set _ _ _ (h.all w hw hk)⟩
theorem Rk.start {F:Mac} (hn:1≤F.out.length):Rk F 0 ((List.replicate F.out.length false).set 0 true):=⟨by simp,fun w hw hk=>by
 have:w = []:=List.eq_nil_of_length_eq_zero (by omega)
 subst this
 exact gb_self _ 0 (by simp; omega)⟩
theorem Rk.step {F:Mac} (hm:F.Ok) {k:Nat} {ms:List Bool} (h:Rk F k ms) (hall:∀ u,u < F.out.length→Nk F k u→∀ d,d < F.base→gb ms (F.nx u d) = true):Rk F (k + 1) ms:=⟨h.len,fun w hw hk=>by
 rcases List.eq_nil_or_concat w with rfl | ⟨v,d,rfl⟩
 ·exact h.all [] hw (Nat.zero_le _)
 ·have hv:Mac.Wd F.base v:=fun x hx=>hw x (by simp [hx])
  rw [List.concat_eq_append,List.length_append,List.length_singleton] at hk
  rw [List.concat_eq_append,run_snoc]
  exact hall _ (hm.run hm.n1 hv) ⟨v,hv,by omega,rfl⟩ d (hw d (by simp))⟩
structure SM (h:Hp) (r:Nat) (ms:List Bool) (H:Hp):Prop where
 at_:H.at r = some (.row 4 true (ms.map .bool))
 gr:Grows h H
 hr:h.next≤r
theorem SM.put {h:Hp} {r:Nat} {ms:List Bool} {H:Hp} (k:SM h r ms H) (ms':List Bool):SM h r ms' (H.set r (.row 4 true (ms'.map .bool))):=⟨Hp.at_set_self _ (Hp.lt_of_at k.at_),k.gr.then_set _ k.hr,k.hr⟩
end Go.Proofs.Ytedneplaibmppaa
namespace Go.Proofs.Ytedneplaibmppaa
open Go.Rx Go.RowKit
theorem u8_id {n:Int} (h:0≤n∧n < 256):IsWrap .u8 n n:=by
 unfold IsWrap wrapI IntKind.wrap
 simp [IntKind.signed,IntKind.bits]
 omega
def tx (n:Nat):List UInt8:=[UInt8.ofNat (n % 256),UInt8.ofNat (n / 256),44]
theorem conv_text (h:Hp) (a b:Nat) (ha:a < 256) (hb:b < 256) (r:Nat) (hr:h.at r = some (.row 5 true [.int .u8 a,.int .u8 b,.int .u8 44])):hconvert E h 155 9 (slc r 0 3 3) = .val (.string ⟨⟨[UInt8.ofNat a,UInt8.ofNat b,44]⟩⟩) h:=by
 have hd:isData 1 (slc r 0 3 3) = false:=rfl
 have hb_:(isBytes E 155 && isStr E 9) = true:=by kernel_rfl
 have he:helems h 1 3 (slc r 0 3 3) = some [.int .u8 a,.int .u8 b,.int .u8 44]:=all_cells hr rfl
 unfold hconvert
 rw [hd]
 show hconvSlice E h 155 9 (slc r 0 3 3) = _
 unfold hconvSlice
 show (match isBytes E 155 && isStr E 9 with | true=>(match bytesIn (helems h 1 3 (slc r 0 3 3)) with | some bs=>HRes.val (.string ⟨⟨bs⟩⟩) h | none=>.fail) | false=>.fail) = _
 rw [hb_,he]
 rfl
attribute [local irreducible] E idxN cellAt cellsAt storeAt callable helems hmoved lookIn findKey keyOk hentries Hp.at Hp.set Hp.lay arBits hupdated setAt CallP YieldP BoolOf IsWrap Rnd LoopP AppP CutP Int.tmod Int.tdiv Int.fdiv
section
variable [Unknowns]
attribute [local irreducible] sameAt
theorem count_spec (v:Value) (l:List Int) (h:Hp) (hv:View h v l) (hl:l.length≤1000000) (hb:∀ x ∈ l,0≤x∧x≤1000000):CallP E 82 [v] h (fun r h'=>r = int (l.foldl max 0 + 1)∧h' = h):=by
 obtain ⟨aa,ca,rfl⟩:=hv.known
 refine enter82 (by simp) ?_
 conv=>whnf
 repeat (refine SeqP.go ?_; conv=>whnf)
 refine loop_inv (α:=Nat) (fun i=>[(4,int i),(3,int ((l.take i).foldl max 0)),(0,.slice aa l.length ca)]) (fun _=>h) (fun i=>i≤l.length∧0≤(l.take i).foldl max 0∧(l.take i).foldl max 0≤1000000) (fun i=>l.length - i) 0 ⟨Nat.zero_le _,by simp,by simp⟩ ⟨rfl,rfl,rfl,trivial⟩ (Hp.Le.refl _) ?_
 rintro i φ1 ⟨hi,h0,h1⟩
 conv=>whnf
 repeat (refine SeqP.go ?_; conv=>whnf)
 refine cmpB (fun hlt=>?_) (fun hlt=>?_)
 rotate_left
 ·have:i = l.length:=by omega
  subst this
  rw [List.take_length] at *
  conv=>whnf
  repeat (refine SeqP.go ?_; conv=>whnf)
  refine ⟨(l.foldl max 0 + 1),wie (by omega) (by omega),?_⟩
  conv=>whnf
  repeat (refine SeqP.go ?_; conv=>whnf)
  exact ⟨rfl,rfl⟩
 have hi':i < l.length:=by omega
 have hc:=View.cellg hv hi'
 obtain ⟨r1,o1,sp1,ea,hsp1,-,hc1⟩:=hc
 subst ea
 have hx:=hb _ (List.getElem_mem hi')
 have e:(l.take (i + 1)).foldl max 0 = max ((l.take i).foldl max 0) (gl l i):=by
  rw [List.take_succ_eq_append_getElem hi',List.foldl_append,gl_at hi']; rfl
 rw [← gl_at hi'] at hx
 conv=>whnf
 repeat (refine SeqP.go ?_; conv=>whnf)
 refine ⟨hsp1,⟨by omega,by omega⟩,?_⟩
 conv=>whnf
 refine ⟨_,hc1,?_⟩
 conv=>whnf
 repeat (refine SeqP.go ?_; conv=>whnf)
 refine ⟨((i + 1:Nat):Int),wie (by omega) (by omega),?_⟩
 conv=>whnf
 refine Rnd.mk (i + 1) ⟨by omega,by rw [e]; omega,by rw [e]; omega⟩ (by show l.length - (i + 1) < l.length - i; omega) ⟨rfl,(max_eq3 _ _).trans (congrArg int e.symm),rfl,trivial⟩ (Hp.Le.refl _) rfl
end
section
variable [Unknowns]
attribute [local irreducible] ResP sameAt
theorem text_spec (n:Nat) (h:Hp) (hn:n < 65536):CallP E 99 [int n] h (fun r h'=>r = .string ⟨⟨tx n⟩⟩∧Grows h h'):=by
 have em:=tmod_nat n 256
 have ed:=tdiv_nat n 256
 refine enter99 (by simp) ?_
 conv=>whnf
 repeat (refine SeqP.go ?_; conv=>whnf)
 refine ⟨by omega,?_⟩
 conv=>whnf
 refine ⟨((n % 256:Nat):Int),by rw [show ((n:Int).tmod 256) = ((n % 256:Nat):Int) from em]; exact u8_id (by omega),?_⟩
 conv=>whnf
 refine ⟨by omega,((n / 256:Nat):Int),wie ed (by omega),?_⟩
 conv=>whnf
 refine ⟨((n / 256:Nat):Int),u8_id (by omega),?_⟩
 conv=>whnf
 refine resP_val (v:=.string ⟨⟨tx n⟩⟩) (h:=h.lay (.row 5 true [.int .u8 (n % 256:Nat),.int .u8 (n / 256:Nat),.int .u8 44])) ?_ ?_
 ·exact conv_text _ _ _ (by omega) (by omega) _ (Hp.at_lay_self _ _)
 conv=>whnf
 repeat (refine SeqP.go ?_; conv=>whnf)
 exact ⟨rfl,Grows.lay _ _⟩
end
end Go.Proofs.Ytedneplaibmppaa
namespace Go.Proofs.Ytedneplaibmppaa
open Go.Rx Go.RowKit
structure OkB (m:Mac):Prop where
 ok:m.Ok
 outs:∀ x ∈ m.out,0≤x∧x≤9
 b:m.base≤100
 n:m.out.length≤10000
theorem OkB.o {m:Mac} (h:OkB m) {s:Nat} (hs:s < m.out.length):0≤m.o s∧m.o s≤9:=gl_forall (P:=fun x=>0≤x∧x≤9) h.outs hs
theorem tx_inj {a b:Nat} (ha:a < 65536) (hb:b < 65536) (h:tx a = tx b):a = b:=by
 unfold tx at h
 simp only [List.cons.injEq,and_true] at h
 have h1:=congrArg UInt8.toNat h.1
 have h2:=congrArg UInt8.toNat h.2
 rw [UInt8.toNat_ofNat',UInt8.toNat_ofNat'] at h1 h2
 omega
def kbN (m:Mac) (c:List Int) (i d:Nat):List UInt8:=tx (m.o i).toNat ++ tx (gl c i).toNat ++ ((List.range d).map fun e=>tx (gl c (m.nx i e)).toNat).flatten
def splitK (m:Mac) (c:List Int):List (List UInt8):=(List.range m.out.length).map fun i=>kbN m c i m.base
theorem splitK_len (m:Mac) (c:List Int):(splitK m c).length = m.out.length:=by unfold splitK; rw [List.length_map,List.length_range]
theorem splitK_get {m:Mac} {c:List Int} {i:Nat} (h:i < m.out.length):(splitK m c)[i]? = some (kbN m c i m.base):=by
 unfold splitK; rw [List.getElem?_map,List.getElem?_range h]; rfl
theorem kbN_succ (m:Mac) (c:List Int) (i d:Nat):kbN m c i (d + 1) = kbN m c i d ++ tx (gl c (m.nx i d)).toNat:=by
 unfold kbN
 rw [List.range_succ,List.map_append,List.flatten_append,List.append_assoc,List.append_assoc,List.append_assoc]
 simp
theorem kbN_len (m:Mac) (c:List Int) (i:Nat):∀ d,(kbN m c i d).length = 6 + 3 * d
 | 0=>rfl
 | d + 1=>by rw [kbN_succ,List.length_append,kbN_len m c i d]; show 6 + 3 * d + 3 = _; omega
theorem str_app (a b:List UInt8):((⟨⟨a⟩⟩:ByteArray) ++ ⟨⟨b⟩⟩) = ⟨⟨a ++ b⟩⟩:=by
 apply ByteArray.ext
 simp
theorem app_eq {a b:Nat} {u v:List UInt8} (hl:u.length = v.length) (ha:a < 65536) (hb:b < 65536):u ++ tx a = v ++ tx b↔u = v∧a = b:=by
 constructor
 ·intro h
  have:=List.append_inj h hl
  exact ⟨this.1,tx_inj ha hb this.2⟩
 ·rintro ⟨rfl,rfl⟩; rfl
theorem toNat_eq {x y:Int} (hx:0≤x) (hy:0≤y):x.toNat = y.toNat↔x = y:=by omega
theorem kbN_eq {m:Mac} {c:List Int} (hm:OkB m) (hc:c.length = m.out.length) (hcb:∀ x ∈ c,0≤x∧x < 65536) {s t:Nat} (hs:s < m.out.length) (ht:t < m.out.length):∀ d,d≤m.base→(kbN m c s d = kbN m c t d↔m.o s = m.o t∧gl c s = gl c t∧∀ e,e < d→gl c (m.nx s e) = gl c (m.nx t e))
 | 0,_=>by
  have h1:=hm.o hs
  have h2:=hm.o ht
  have h3:=gl_forall (P:=fun x=>0≤x∧x < 65536) hcb (j:=s) (by omega)
  have h4:=gl_forall (P:=fun x=>0≤x∧x < 65536) hcb (j:=t) (by omega)
  have e:∀ i,kbN m c i 0 = tx (m.o i).toNat ++ tx (gl c i).toNat:=fun i=>by unfold kbN; simp
  rw [e,e,app_eq (u:=tx (m.o s).toNat) (v:=tx (m.o t).toNat) rfl (by omega) (by omega),toNat_eq h3.1 h4.1]
  constructor
  ·rintro ⟨a,b⟩
   have:=tx_inj (by omega) (by omega) a
   exact ⟨by omega,b,fun e he=>absurd he (Nat.not_lt_zero _)⟩
  ·rintro ⟨a,b,_⟩
   rw [a]; exact ⟨rfl,b⟩
 | d + 1,hd=>by
  have h1:=hm.ok.lt s d hs (by omega)
  have h2:=hm.ok.lt t d ht (by omega)
  have h3:=gl_forall (P:=fun x=>0≤x∧x < 65536) hcb (j:=m.nx s d) (by omega)
  have h4:=gl_forall (P:=fun x=>0≤x∧x < 65536) hcb (j:=m.nx t d) (by omega)
  rw [kbN_succ,kbN_succ,app_eq (by rw [kbN_len,kbN_len]) (by omega) (by omega),kbN_eq hm hc hcb hs ht d (by omega),toNat_eq h3.1 h4.1]
  constructor
  ·rintro ⟨⟨a,b,q⟩,e⟩
   refine ⟨a,b,fun x hx=>?_⟩
   by_cases hxd:x = d
   ·rw [hxd]; exact e
   ·exact q x (by omega)
  ·rintro ⟨a,b,q⟩
   exact ⟨⟨a,b,fun x hx=>q x (by omega)⟩,q d (by omega)⟩
theorem split_ref {m:Mac} {c:List Int} (hm:OkB m) (hc:c.length = m.out.length) (hcb:∀ x ∈ c,0≤x∧x < 65536) (href:∀ s t,s < m.out.length→t < m.out.length→gl c s = gl c t→m.o s = m.o t):num (splitK m c) = m.ref c∧many (splitK m c) = m.cnt c:=by
 have h:=num_pairs (zs:=(List.range m.out.length).map fun s=>(kbN m c s m.base,m.key c s)) (fun x hx y hy=>by
  obtain ⟨s,hs,rfl⟩:=List.mem_map.1 hx
  obtain ⟨t,ht,rfl⟩:=List.mem_map.1 hy
  have hs:=List.mem_range.1 hs
  have ht:=List.mem_range.1 ht
  dsimp only
  rw [kbN_eq hm hc hcb hs ht m.base (Nat.le_refl _),Mac.key_eq]
  constructor
  ·rintro ⟨_,b,q⟩
   exact ⟨b,q⟩
  ·rintro ⟨b,q⟩
   exact ⟨href s t hs ht b,b,q⟩)
 rw [List.map_map,List.map_map] at h
 exact h
theorem foldl_max:∀ (l:List Int) (a:Int),a≤l.foldl max a∧(∀ x ∈ l,x≤l.foldl max a)∧∀ B,a≤B→(∀ x ∈ l,x≤B)→l.foldl max a≤B
 | [],a=>⟨Int.le_refl _,by simp,fun B h _=>h⟩
 | y :: l,a=>by
  have ih:=foldl_max l (max a y)
  refine ⟨by show a≤l.foldl max (max a y); omega,fun x hx=>?_,fun B h1 h2=>?_⟩
  ·show x≤l.foldl max (max a y)
   rcases List.mem_cons.1 hx with rfl | hx
   ·omega
   ·exact ih.2.1 x hx
  ·show l.foldl max (max a y)≤B
   exact ih.2.2 B (by have:=h2 y (by simp); omega) fun x hx=>h2 x (by simp [hx])
theorem num_max {κ:Type} [DecidableEq κ] {ks:List κ} (h:ks≠[]):(num ks).foldl max 0 + 1 = (many ks:Nat):=by
 have hp:=many_pos h
 have hall:∀ x ∈ num ks,x≤(many ks:Int) - 1:=fun x hx=>by
  unfold num at hx
  obtain ⟨k,hk,rfl⟩:=List.mem_map.1 hx
  have:(notes [] ks).idxOf k < (notes [] ks).length:=List.idxOf_lt_length_of_mem (notes_mem hk)
  unfold many
  omega
 have hlast:∃ x ∈ num ks,x = (many ks:Int) - 1:=by
  have hl:many ks - 1 < (notes [] ks).length:=by unfold many at hp ⊢; omega
  have hg:=List.getElem?_eq_getElem hl
  have hin:(notes [] ks)[many ks - 1] ∈ ks:=by
   rcases notes_inv (List.getElem_mem hl) with h | h
   ·simp at h
   ·exact h
  refine ⟨_,List.mem_map.2 ⟨_,hin,rfl⟩,?_⟩
  rw [idxOf_get (notes_nodup List.nodup_nil) hg]
  omega
 obtain ⟨x,hx,ex⟩:=hlast
 have h3:=foldl_max (num ks) 0
 have h4:=h3.2.1 x hx
 have h5:=h3.2.2 ((many ks:Int) - 1) (by omega) hall
 omega
theorem num_bd {κ:Type} [DecidableEq κ] (ks:List κ):∀ x ∈ num ks,0≤x∧x < (many ks:Nat):=fun x hx=>by
 unfold num at hx
 obtain ⟨k,hk,rfl⟩:=List.mem_map.1 hx
 have:(notes [] ks).idxOf k < (notes [] ks).length:=List.idxOf_lt_length_of_mem (notes_mem hk)
 unfold many
 omega
theorem ref_bd {m:Mac} (c:List Int) (hn:m.out.length≤10000):∀ x ∈ m.ref c,0≤x∧x < 65536:=fun x hx=>by
 have h1:=num_bd (m.keys c) x hx
 have h2:many (m.keys c)≤m.out.length:=Mac.cnt_le m c
 omega
end Go.Proofs.Ytedneplaibmppaa
namespace Go.Proofs.Ytedneplaibmppaa
open Go.Rx Go.RowKit
theorem strV_add (a b:List UInt8) (h:a.length + b.length≤1000):strV .add (.string ⟨⟨a⟩⟩) (.string ⟨⟨b⟩⟩) = some (.string ⟨⟨a ++ b⟩⟩):=by
 unfold strV
 dsimp only
 rw [if_pos (by show a.length + b.length≤_; omega),str_app]
theorem tx_len (n:Nat):(tx n).length = 3:=rfl
attribute [local irreducible] E idxN cellAt cellsAt storeAt callable helems hmoved lookIn findKey keyOk hentries Hp.at Hp.set Hp.lay arBits hupdated setAt CallP YieldP BoolOf IsWrap Rnd LoopP AppP CutP Int.tmod Int.tdiv Int.fdiv
section
variable [Unknowns]
attribute [local irreducible] ResP sameAt
theorem split_spec (v w:Value) (m:Mac) (c:List Int) (h:Hp) (hv:MV h v m.i) (hw:View h w c) (hm:OkB m) (hc:c.length = m.out.length) (hcb:∀ x ∈ c,0≤x∧x < 65536):CallP E 81 [v,w] h (fun r h'=>Built h h' 3 r (num (splitK m c))∧Grows h h'):=by
 obtain ⟨bx,rfl,hbx⟩:=hv.box
 obtain ⟨ao,an,co,cn,hcx⟩:=hbx.cx
 obtain ⟨aw,cw,rfl⟩:=hw.known
 obtain ⟨i3,t3,-,z3⟩:=ty3
 obtain ⟨i144,t144,d144⟩:=ty144
 have hn12:=hm.n
 have hb5:=hm.b
 have hil:=hm.ok.ilen
 have hks:=splitK_len m c
 refine enter81 (by simp) ?_
 conv=>whnf
 refine SeqP.cut (α:=Hp) (fun _=>[(2,ptr h.next 0),(1,.slice aw c.length cw)]) (fun x H=>x = H∧Grows h H∧H.at h.next = some (.row 26 true bx)) ?_ ?_
 ·conv=>whnf
  exact ⟨_,⟨rfl,rfl,trivial⟩,⟨rfl,Grows.lay _ _,Hp.at_lay_self _ _⟩,rfl⟩
 rintro H φ1 _ ⟨rfl,gH,aX⟩
 conv=>whnf
 refine SeqP.cut (α:=Hp) (fun _=>[(5,mapAt H.next),(2,ptr h.next 0),(1,.slice aw c.length cw)]) (fun x H2=>x = H2∧Grows h H2∧H2.at h.next = some (.row 26 true bx)∧Nums H2 H.next encS ([]:List (List UInt8))∧H2.next = H.next + 1) ?_ ?_
 ·conv=>whnf
  exact ⟨_,⟨rfl,rfl,rfl,trivial⟩,⟨rfl,gH.then_lay _,Hp.at_lay_old _ aX,Nums.nil _,Hp.next_lay _ _⟩,rfl⟩
 rintro H2 φ2 _ ⟨rfl,g2,aX2,hM2,nM⟩
 have hMge:=gH.next
 have hltX:=Hp.lt_of_at aX
 have hexM:∃ M,H.next = M:=⟨_,rfl⟩
 obtain ⟨M,eM⟩:=hexM
 rw [eM] at hM2 nM hMge hltX ⊢
 have hexK:∃ ks,splitK m c = ks:=⟨_,rfl⟩
 obtain ⟨ks,eks⟩:=hexK
 rw [eks] at hks ⊢
 have hnl:(num ks).length = m.out.length:=by rw [num_len,hks]
 conv=>whnf
 refine SeqP.go ?_
 conv=>whnf
 refine SeqP.cut (α:=Value×Hp) (fun q=>[(6,q.1)]) (fun q H3=>q.2 = H3∧Grows h q.2∧Built (bareN (M + 1)) q.2 3 q.1 (num ks)) ?_ ?_
 rotate_left
 ·rintro ⟨u,H3⟩ φ3 _ ⟨rfl,g3,hu⟩
  dsimp only at g3 hu ⊢
  have hus:=hu.c.slice
  obtain ⟨au,rfl,-⟩:=hus
  conv=>whnf
  repeat (refine SeqP.go ?_; conv=>whnf)
  exact ⟨hu.back (by show h.next≤M + 1; omega),g3⟩
 conv=>whnf
 repeat (refine SeqP.go ?_; conv=>whnf)
 refine loop_inv (α:=Nat×Value×Hp) (fun q=>[(7,int q.1),(6,q.2.1),(5,mapAt M),(2,ptr h.next 0),(1,.slice aw c.length cw)]) (fun q=>q.2.2) (fun q=>q.1≤m.out.length∧Grows h q.2.2∧q.2.2.at h.next = some (.row 26 true bx)∧Nums q.2.2 M encS (notes [] (ks.take q.1))∧Built (bareN (M + 1)) q.2.2 3 q.2.1 ((num ks).take q.1)∧M + 1≤q.2.2.next) (fun q=>m.out.length - q.1) (0,nilS,H2) ⟨Nat.zero_le _,g2,aX2,hM2,.inl ⟨rfl,rfl⟩,by show M + 1≤H2.next; omega⟩ ⟨rfl,rfl,rfl,rfl,rfl,trivial⟩ (Hp.Le.refl _) ?_
 rintro ⟨i,u,H3⟩ φ3 ⟨hi,g3,aX3,hM3,hu3,hMn⟩
 dsimp only at hi g3 aX3 hM3 hu3 hMn ⊢
 have k3:=hcx H3 h.next 26 g3 aX3
 have e1:cellAt H3 h.next 1 = some (.slice ao m.out.length co):=k3.c1
 conv=>whnf
 repeat (refine SeqP.go ?_; conv=>whnf)
 refine ⟨_,e1,?_⟩
 conv=>whnf
 refine cmpB (fun q1=>?_) (fun q1=>?_)
 rotate_left
 ·have:i = m.out.length:=by omega
  subst this
  conv=>whnf
  repeat (refine SeqP.go ?_; conv=>whnf)
  refine ⟨(u,H3),⟨rfl,trivial⟩,⟨rfl,g3,?_⟩,rfl⟩
  rw [List.take_of_length_le (by omega)] at hu3
  exact hu3
 have hi':i < m.out.length:=by omega
 have hso:=hm.o hi'
 have hexz:∃ z:Nat,m.o i = z:=⟨(m.o i).toNat,by omega⟩
 obtain ⟨z,ez⟩:=hexz
 have ho:=k3.outM hi'
 rw [ez] at ho hso
 obtain ⟨r1,o1,sp1,ea,hsp1,hc1⟩:=ho
 subst ea
 have hcl:=View.cellg (hw.ext g3) (i:=i) (by omega)
 obtain ⟨r2,o2,sp2,ea,hsp2,-,hc2⟩:=hcl
 subst ea
 have hci:=gl_forall (P:=fun x=>0≤x∧x < 65536) hcb (j:=i) (by omega)
 have hexy:∃ y:Nat,gl c i = y:=⟨(gl c i).toNat,by omega⟩
 obtain ⟨y,ey⟩:=hexy
 rw [ey] at hc2 hci
 have ek0:kbN m c i 0 = tx z ++ tx y:=by
  unfold kbN
  rw [ez,ey,Int.toNat_natCast,Int.toNat_natCast]
  simp
 conv=>whnf
 refine SeqP.go ?_
 conv=>whnf
 refine SeqP.cut (α:=Hp) (fun q=>[(8,.string ⟨⟨kbN m c i 0⟩⟩),(7,int i),(6,u),(5,mapAt M),(2,ptr h.next 0),(1,.slice (some ⟨r2,o2,sp2⟩) c.length cw)]) (fun q H4=>q = H4∧Grows H3 H4) ?_ ?_
 ·conv=>whnf
  refine ⟨_,e1,?_⟩
  conv=>whnf
  refine ⟨hsp1,⟨by omega,by omega⟩,?_⟩
  conv=>whnf
  refine ⟨_,hc1,?_⟩
  conv=>whnf
  refine CallP.mono (text_spec z _ (by omega)) ?_
  rintro r H4 ⟨rfl,g4⟩
  have e1a:=g4.cell e1
  have hc1a:=g4.cell hc1
  have hc2a:=g4.cell hc2
  conv=>whnf
  refine ⟨hsp2,⟨by omega,by omega⟩,?_⟩
  conv=>whnf
  refine ⟨_,hc2a,?_⟩
  conv=>whnf
  refine CallP.mono (text_spec y _ (by omega)) ?_
  rintro r H5 ⟨rfl,g5⟩
  have e1b:=g5.cell e1a
  have hc1b:=g5.cell hc1a
  have hc2b:=g5.cell hc2a
  conv=>whnf
  refine ⟨_,strV_add (tx z) (tx y) (by rw [tx_len,tx_len]; omega),?_⟩
  conv=>whnf
  refine ⟨?_,?_⟩
  ·repeat' (first | exact True.intro | (refine And.intro ?_ ?_ <;> (conv=>whnf)))
   all_goals first
    | exact sameAt_val (h2:=_) rfl (sameV_int _)
    | exact sameAt_val (h2:=_) rfl (sameV_ptr _ _)
    | exact sameAt_val (h2:=_) rfl (sameV_slice _ _ _)
    | exact sameAt_val (h2:=_) rfl (sameV_agg2 _ _)
    | exact sameAt_val (h2:=_) (congrArg (hval _) e1) (sameV_int _)
    | exact sameAt_val (h2:=_) (congrArg (hval _) e1) (sameV_slice _ _ _)
    | exact sameAt_val (h2:=_) (congrArg (hval _) e1a) (sameV_int _)
    | exact sameAt_val (h2:=_) (congrArg (hval _) e1a) (sameV_slice _ _ _)
    | exact sameAt_val (h2:=_) (congrArg (hval _) e1b) (sameV_int _)
    | exact sameAt_val (h2:=_) (congrArg (hval _) e1b) (sameV_slice _ _ _)
    | exact sameAt_val (h2:=_) (congrArg (hval _) hc1) (sameV_int _)
    | exact sameAt_val (h2:=_) (congrArg (hval _) hc1) (sameV_slice _ _ _)
    | exact sameAt_val (h2:=_) (congrArg (hval _) hc1a) (sameV_int _)
    | exact sameAt_val (h2:=_) (congrArg (hval _) hc1a) (sameV_slice _ _ _)
    | exact sameAt_val (h2:=_) (congrArg (hval _) hc1b) (sameV_int _)
    | exact sameAt_val (h2:=_) (congrArg (hval _) hc1b) (sameV_slice _ _ _)
    | exact sameAt_val (h2:=_) (congrArg (hval _) hc2) (sameV_int _)
    | exact sameAt_val (h2:=_) (congrArg (hval _) hc2) (sameV_slice _ _ _)
    | exact sameAt_val (h2:=_) (congrArg (hval _) hc2a) (sameV_int _)
    | exact sameAt_val (h2:=_) (congrArg (hval _) hc2a) (sameV_slice _ _ _)
    | exact sameAt_val (h2:=_) (congrArg (hval _) hc2b) (sameV_int _)
    | exact sameAt_val (h2:=_) (congrArg (hval _) hc2b) (sameV_slice _ _ _)
    | exact sameAt_val (h2:=_) (show hval _ (idxSV 1 (.slice (some ⟨_,_,_⟩) _ _) (int _)) = _ from idxS_val' hsp1 ⟨by omega,by omega⟩) (sameV_ptr _ _)
    | exact sameAt_val (h2:=_) (show hval _ (idxSV 1 (.slice (some ⟨_,_,_⟩) _ _) (int _)) = _ from idxS_val' hsp2 ⟨by omega,by omega⟩) (sameV_ptr _ _)
    | exact ⟨_,rfl,Hp.at_lay_self _ _,rfl⟩
  rw [ek0]
  exact ⟨H5,⟨rfl,rfl,rfl,rfl,rfl,rfl,trivial⟩,⟨rfl,g4.trans g5⟩,rfl⟩
 rintro H4 φ4 _ ⟨rfl,g4⟩
 have g3:=g3.trans g4
 have aX4:=g4.at_ _ _ aX3
 have hM4:=hM3.ext g4
 have hu4:=hu3.ext g4
 have hMn4:=g4.next
 clear aX3 hM3 hu3 g4
 conv=>whnf
 refine SeqP.cut (α:=Hp) (fun q=>[(8,.string ⟨⟨kbN m c i m.base⟩⟩),(7,int i),(6,u),(5,mapAt M),(2,ptr h.next 0),(1,.slice (some ⟨r2,o2,sp2⟩) c.length cw)]) (fun q H5=>q = H5∧Grows H4 H5) ?_ ?_
 ·conv=>whnf
  repeat (refine SeqP.go ?_; conv=>whnf)
  refine loop_inv (α:=Nat×Hp) (fun q=>[(9,int q.1),(8,.string ⟨⟨kbN m c i q.1⟩⟩),(7,int i),(6,u),(5,mapAt M),(2,ptr h.next 0),(1,.slice (some ⟨r2,o2,sp2⟩) c.length cw)]) (fun q=>q.2) (fun q=>q.1≤m.base∧Grows H4 q.2) (fun q=>m.base - q.1) (0,H4) ⟨Nat.zero_le _,.refl _⟩ ⟨rfl,rfl,rfl,rfl,rfl,rfl,rfl,trivial⟩ (Hp.Le.refl _) ?_
  rintro ⟨d,G⟩ φ5 ⟨hd,gG⟩
  dsimp only at hd gG ⊢
  have kG:=hcx G h.next 26 (g3.trans gG) (gG.at_ _ _ aX4)
  have f0:cellAt G h.next 0 = some (int (m.base:Int)):=kG.c0
  have f2:=kG.c2
  conv=>whnf
  repeat (refine SeqP.go ?_; conv=>whnf)
  refine ⟨_,f0,?_⟩
  conv=>whnf
  refine cmpB (fun q2=>?_) (fun q2=>?_)
  rotate_left
  ·have:d = m.base:=by omega
   subst this
   conv=>whnf
   repeat (refine SeqP.go ?_; conv=>whnf)
   exact ⟨G,⟨rfl,rfl,rfl,rfl,rfl,rfl,trivial⟩,⟨rfl,gG⟩,rfl⟩
  have hd':d < m.base:=by omega
  have hnx:=kG.nextAt hm.ok hi' hd'
  obtain ⟨r5,o5,sp5,r6,o6,sp6,c6',ea,hsp5,hc5,hsp6,hc6⟩:=hnx
  subst ea
  have hnl2:=hm.ok.lt i d hi' hd'
  have hcl:=View.cellg (hw.ext (g3.trans gG)) (i:=m.nx i d) (by omega)
  obtain ⟨r7,o7,sp7,ea,hsp7,-,hc7⟩:=hcl
  injection ea with ea
  injection ea with ea1 ea2 ea3
  subst ea1
  subst ea2
  subst ea3
  have hcj:=gl_forall (P:=fun x=>0≤x∧x < 65536) hcb (j:=m.nx i d) (by omega)
  have hexx:∃ x:Nat,gl c (m.nx i d) = x:=⟨(gl c (m.nx i d)).toNat,by omega⟩
  obtain ⟨x,ex⟩:=hexx
  rw [ex] at hc7 hcj
  have hkl:=kbN_len m c i d
  have esucc:kbN m c i (d + 1) = kbN m c i d ++ tx x:=by rw [kbN_succ,ex,Int.toNat_natCast]
  conv=>whnf
  repeat (refine SeqP.go ?_; conv=>whnf)
  refine ⟨_,f2,?_⟩
  conv=>whnf
  refine ⟨hsp5,⟨by omega,by omega⟩,?_⟩
  conv=>whnf
  refine ⟨_,hc5,?_⟩
  conv=>whnf
  refine ⟨hsp6,⟨by omega,by omega⟩,?_⟩
  conv=>whnf
  refine ⟨_,hc6,?_⟩
  conv=>whnf
  refine ⟨hsp2,⟨by omega,by omega⟩,?_⟩
  conv=>whnf
  refine ⟨_,hc7,?_⟩
  conv=>whnf
  refine CallP.mono (text_spec x _ (by omega)) ?_
  rintro r G2 ⟨rfl,g2'⟩
  conv=>whnf
  refine ⟨_,strV_add (kbN m c i d) (tx x) (by rw [tx_len]; omega),?_⟩
  conv=>whnf
  repeat (refine SeqP.go ?_; conv=>whnf)
  refine ⟨((d + 1:Nat):Int),wie (by omega) (by omega),?_⟩
  conv=>whnf
  exact Rnd.mk (d + 1,G2) ⟨by show d + 1≤m.base; omega,gG.trans g2'⟩ (by show m.base - (d + 1) < m.base - d; omega) ⟨rfl,congrArg (fun l=>Value.string ⟨⟨l⟩⟩) esucc.symm,rfl,rfl,rfl,rfl,rfl,trivial⟩ (Hp.Le.refl _) rfl
 rintro H5 φ5 _ ⟨rfl,g5⟩
 have g3:=g3.trans g5
 have aX5:=g5.at_ _ _ aX4
 have hM5:=hM4.ext g5
 have hu5:=hu4.ext g5
 have hMn5:=g5.next
 clear aX4 hM4 hu4 g5
 have hkk:ks[i]? = some (kbN m c i m.base):=by rw [← eks]; exact splitK_get hi'
 have hexk:∃ kk,kbN m c i m.base = kk:=⟨_,rfl⟩
 obtain ⟨kk,ekk⟩:=hexk
 rw [ekk] at hkk ⊢
 have htk:notes [] (ks.take (i + 1)) = note (notes [] (ks.take i)) kk:=by rw [take_snoc hkk,notes_snoc]
 have hgn:=num_ix hkk
 have hexL:∃ L,notes [] (ks.take i) = L:=⟨_,rfl⟩
 obtain ⟨L,eL⟩:=hexL
 rw [eL] at hM5 htk
 have hMu:∀ (H':Hp),Keeps M H5 H'→Built (bareN (M + 1)) H' 3 u ((num ks).take i):=fun H' y=>built_stay hu5 fun r o hr ho=>y.at_ _ _ (by have:=(hu5.ad_lt r hr).1; show r≠M; have:M + 1≤r:=this; omega) ho
 conv=>whnf
 refine SeqP.cut (α:=Hp) (fun q=>[(8,.string ⟨⟨kk⟩⟩),(7,int i),(6,u),(5,mapAt M),(2,ptr h.next 0),(1,.slice (some ⟨r2,o2,sp2⟩) c.length cw)]) (fun q H6=>q = H6∧Grows h H6∧H6.at h.next = some (.row 26 true bx)∧Nums H6 M encS (note L kk)∧Built (bareN (M + 1)) H6 3 u ((num ks).take i)∧M + 1≤H6.next) ?_ ?_
 ·by_cases hin:kk ∈ L
  ·have hnote:note L kk = L:=by unfold note; rw [if_pos hin]
   rw [hnote]
   conv=>whnf
   refine SeqP.go ?_
   conv=>whnf
   refine raw_look2_some t144 d144 t3 z3 key9 (k:=kk) rfl rfl hM5 (fN_some hin) ?_
   conv=>whnf
   repeat (refine SeqP.go ?_; conv=>whnf)
   exact ⟨H5,⟨rfl,rfl,rfl,rfl,rfl,rfl,trivial⟩,⟨rfl,g3,aX5,hM5,hu5,by omega⟩,rfl⟩
  ·have hnote:note L kk = L ++ [kk]:=by unfold note; rw [if_neg hin]
   rw [hnote]
   conv=>whnf
   refine SeqP.go ?_
   conv=>whnf
   refine raw_look2_none t144 d144 t3 z3 key9 (k:=kk) rfl rfl hM5 (fN_none hin) ?_
   conv=>whnf
   repeat (refine SeqP.go ?_; conv=>whnf)
   refine raw_lenmap t144 d144 rfl hM5 ?_
   conv=>whnf
   refine raw_update t144 d144 key9 (k:=kk) (v:=int L.length) rfl rfl rfl hM5 ?_
   intro H7 hM7 y7
   conv=>whnf
   exact ⟨H7,⟨rfl,rfl,rfl,rfl,rfl,rfl,trivial⟩,⟨rfl,y7.grows g3 hMge,y7.at_ _ _ (by omega) aX5,Nums.add hin hM7,hMu H7 y7,by have:=y7.next; omega⟩,rfl⟩
 rintro H6 φ6 _ ⟨rfl,g6,aX6,hM6,hu6,hMn6⟩
 clear hMu hu5 hM5 aX5 hMn5
 have hkin:kk ∈ note L kk:=note_mem L kk
 have hus:=hu6.c.slice
 obtain ⟨au,eu,-⟩:=hus
 subst eu
 have htl:((num ks).take i).length = i:=by rw [List.length_take]; omega
 have esn:(num ks).take i ++ [gl (num ks) i] = (num ks).take (i + 1):=by
  rw [List.take_succ_eq_append_getElem (by omega),gl_at (by omega)]
 have ev:fN (note L kk) kk = some (int (gl (num ks) i)):=by
  rw [fN_some hkin,hgn,htk]; rfl
 conv=>whnf
 refine raw_look1_some t144 d144 t3 z3 key9 (k:=kk) rfl rfl hM6 ev ?_
 conv=>whnf
 have gl6:Grows H6 (H6.lay (.row 3 true [int (gl (num ks) i)])):=Grows.lay _ _
 have vz:View (H6.lay (.row 3 true [int (gl (num ks) i)])) (slc H6.next 0 1 1) [gl (num ks) i]:=row_view (ls:=[gl (num ks) i]) (Hp.at_lay_self _ _) rfl
 refine AppP.ints (hu6.ext gl6) (bareN_grows (Nat.le_trans hMn6 gl6.next)) vz.elems (by rw [htl]; simp; omega) ?_
 intro u' H7 hb' hg' keep
 rw [esn] at hb'
 have hne:∀ r,r≤M→∀ n' c',Value.slice au ((num ks).take i).length ((num ks).take i).length≠slc r 0 n' c':=fun r hr n' c' e=>by
  have h1:=hu6.ad_lt r (by rw [e]; rfl)
  have h2:M + 1≤r:=h1.1
  omega
 have hM7:Nums H7 M encS (note L kk):=MapAt.of_at (fun ob hob=>keep _ _ (gl6.at_ _ _ hob) (hne M (Nat.le_refl _))) hM6
 have aX7:=keep _ _ (gl6.at_ _ _ aX6) (hne h.next (by omega))
 have hn7:M + 1≤H7.next:=hg'.next
 have g7:Grows h H7:=⟨by omega,fun r o e=>keep _ _ (gl6.at_ _ _ (g6.at_ _ _ e)) (hne r (by have:=Hp.lt_of_at e; omega))⟩
 have hus':=hb'.c.slice
 obtain ⟨au',eu',-⟩:=hus'
 subst eu'
 conv=>whnf
 repeat (refine SeqP.go ?_; conv=>whnf)
 refine ⟨((i + 1:Nat):Int),wie (by omega) (by omega),?_⟩
 conv=>whnf
 exact Rnd.mk (i + 1,_,H7) ⟨by show i + 1≤m.out.length; omega,g7,aX7,by show Nums H7 M encS (notes [] (ks.take (i + 1))); rw [htk]; exact hM7,hb',hn7⟩ (by show m.out.length - (i + 1) < m.out.length - i; omega) ⟨rfl,rfl,rfl,rfl,rfl,trivial⟩ (Hp.Le.refl _) rfl
end
end Go.Proofs.Ytedneplaibmppaa
namespace Go.Proofs.Ytedneplaibmppaa
open Go.Rx Go.RowKit
def clsOf (m:Mac) (S:List Nat):List Int:=S.map m.cl
structure Rq (m:Mac) (S:List Nat) (a:Nat):Prop where
 lt:∀ s ∈ S,s < m.out.length
 bq:Bq m.nextC m.base (m.cl 0) m.cls (clsOf m S) a
def rrow (m:Mac) (S:List Nat) (s:Nat):List Int:=(List.range m.base).map fun d=>((ixOf (clsOf m S) (m.cl (m.nx s d)):Nat):Int)
theorem Rq.start {m:Mac} (hm:m.Ok):Rq m [0] 0:=⟨fun s hs=>by rw [List.mem_singleton.1 hs]; exact hm.n1,Bq.start (Mac.form_fin hm) (List.mem_of_getElem? (Mac.cl_get hm hm.n1))⟩
def rnote (m:Mac) (S:List Nat) (t:Nat):List Nat:=if m.cl t ∈ clsOf m S then S else S ++ [t]
theorem rnote_cls (m:Mac) (S:List Nat) (t:Nat):clsOf m (rnote m S t) = note (clsOf m S) (m.cl t):=by
 unfold rnote note
 by_cases h:m.cl t ∈ clsOf m S
 ·rw [if_pos h,if_pos h]
 ·rw [if_neg h,if_neg h]
  unfold clsOf
  rw [List.map_append]; rfl
def rnotes (m:Mac) (S:List Nat) (s:Nat):Nat→List Nat
 | 0=>S
 | d + 1=>rnote m (rnotes m S s d) (m.nx s d)
theorem rnotes_cls {m:Mac} (hm:m.Ok) (S:List Nat) {s:Nat} (hs:s < m.out.length):∀ d,d≤m.base→clsOf m (rnotes m S s d) = notes (clsOf m S) (outsN m.nextC (m.cl s) d)
 | 0,_=>rfl
 | d + 1,hd=>by
  show clsOf m (rnote m (rnotes m S s d) (m.nx s d)) = _
  rw [rnote_cls,rnotes_cls hm S hs d (by omega),outsN_succ,notes_snoc,Mac.nextC_cl hm hs (by omega)]
theorem rnotes_lt {m:Mac} (hm:m.Ok) {S:List Nat} {s:Nat} (hs:s < m.out.length) (hS:∀ x ∈ S,x < m.out.length):∀ d,d≤m.base→∀ x ∈ rnotes m S s d,x < m.out.length
 | 0,_=>hS
 | d + 1,hd=>fun x hx=>by
  have ih:=rnotes_lt hm hs hS d (by omega)
  have hx:x ∈ rnote m (rnotes m S s d) (m.nx s d):=hx
  unfold rnote at hx
  split at hx
  ·exact ih x hx
  ·rcases List.mem_append.1 hx with h | h
   ·exact ih x h
   ·rw [List.mem_singleton.1 h]; exact hm.lt s d hs (by omega)
theorem rnotes_pre (m:Mac) (S:List Nat) (s:Nat):∀ d,∃ r,rnotes m S s d = S ++ r
 | 0=>⟨[],by simp [rnotes]⟩
 | d + 1=>by
  obtain ⟨r,e⟩:=rnotes_pre m S s d
  show ∃ r,rnote m (rnotes m S s d) (m.nx s d) = S ++ r
  unfold rnote
  split
  ·exact ⟨r,e⟩
  ·exact ⟨r ++ [m.nx s d],by rw [e,List.append_assoc]⟩
theorem Rq.next {m:Mac} (hm:m.Ok) {S:List Nat} {a s:Nat} (k:Rq m S a) (hs:S[a]? = some s):Rq m (rnotes m S s m.base) (a + 1):=by
 have hsl:=k.lt s (List.mem_of_getElem? hs)
 refine ⟨rnotes_lt hm hsl k.lt m.base (Nat.le_refl _),?_⟩
 rw [rnotes_cls hm S hsl m.base (Nat.le_refl _)]
 exact k.bq.next (Mac.form_fin hm) (s:=m.cl s) (by unfold clsOf; rw [List.getElem?_map,hs]; rfl)
theorem rrow_eq {m:Mac} (hm:m.Ok) (S:List Nat) {s:Nat} (hs:s < m.out.length):rrow m S s = rowOf m.nextC m.base (clsOf m S) (m.cl s):=by
 unfold rrow rowOf
 refine List.map_congr_left fun d hd=>?_
 rw [Mac.nextC_cl hm hs (List.mem_range.1 hd)]
theorem Rq.form {m:Mac} (hm:m.Ok) {S:List Nat} {a:Nat} (k:Rq m S a) (h:S.length≤a):m.form.i = ⟨m.base,S.map m.o,S.map (rrow m S)⟩:=by
 have hb:=k.bq.done (by unfold clsOf; rw [List.length_map]; exact h)
 unfold Mac.form built
 rw [hb]
 unfold mach Mac.i
 dsimp only
 have h1:(clsOf m S).map m.outC = S.map m.o:=by
  unfold clsOf
  rw [List.map_map]
  exact List.map_congr_left fun s hs=>Mac.outC_cl hm (k.lt s hs)
 rw [h1]
 congr 1
 unfold clsOf
 rw [List.map_map,List.map_map]
 refine List.map_congr_left fun s hs=>?_
 rw [rrow_eq hm S (k.lt s hs)]
 unfold rowOf
 show List.map _ (List.map _ _) = _
 rw [List.map_map]
 rfl
end Go.Proofs.Ytedneplaibmppaa
namespace Go.Proofs.Ytedneplaibmppaa
open Go.Rx Go.RowKit
theorem sep3 {H:Hp} {Z M r:Nat} (hZ:Z < H.next) (hM:M < H.next) (hr:r < H.next) (h1:Z≠M) (h2:Z≠r) (h3:M≠r) (n c:Nat):Rx.Sep H [pl Z,nilS,nilS,pl M,slc r 0 n c] []:=by
 refine ⟨fun v hv x e=>?_,fun u hu=>by simp at hu,fun i j v u hij hi hj=>?_,fun v hv u hu=>by simp at hu⟩
 ·simp at hv
  rcases hv with rfl | rfl | rfl | rfl
  ·cases e; exact hZ
  ·cases e
  ·cases e; exact hM
  ·cases e; exact hr
 ·match i,j,hi,hj with
  | 0,0,_,_=>exact absurd rfl hij
  | 3,3,_,_=>exact absurd rfl hij
  | 4,4,_,_=>exact absurd rfl hij
  | 0,3,hi,hj=>cases hi; cases hj; intro x e1 e2; cases e1; cases e2; exact h1 rfl
  | 3,0,hi,hj=>cases hi; cases hj; intro x e1 e2; cases e1; cases e2; exact h1 rfl
  | 0,4,hi,hj=>cases hi; cases hj; intro x e1 e2; cases e1; cases e2; exact h2 rfl
  | 4,0,hi,hj=>cases hi; cases hj; intro x e1 e2; cases e1; cases e2; exact h2 rfl
  | 3,4,hi,hj=>cases hi; cases hj; intro x e1 e2; cases e1; cases e2; exact h3 rfl
  | 4,3,hi,hj=>cases hi; cases hj; intro x e1 e2; cases e1; cases e2; exact h3 rfl
  | 1,_,hi,hj=>cases hi; exact Ap.nil _
  | 2,_,hi,hj=>cases hi; exact Ap.nil _
  | 0,1,hi,hj=>cases hj; exact (Ap.nil _).symm
  | 0,2,hi,hj=>cases hj; exact (Ap.nil _).symm
  | 3,1,hi,hj=>cases hj; exact (Ap.nil _).symm
  | 3,2,hi,hj=>cases hj; exact (Ap.nil _).symm
  | 4,1,hi,hj=>cases hj; exact (Ap.nil _).symm
  | 4,2,hi,hj=>cases hj; exact (Ap.nil _).symm
  | 0,j + 5,hi,hj=>simp at hj
  | 3,j + 5,hi,hj=>simp at hj
  | 4,j + 5,hi,hj=>simp at hj
  | i + 5,_,hi,_=>simp at hi
def nI (S:List Nat):List Int:=S.map fun n:Nat=>(n:Int)
theorem nI_len (S:List Nat):(nI S).length = S.length:=by unfold nI; rw [List.length_map]
theorem nI_get {S:List Nat} {i s:Nat} (h:S[i]? = some s):gl (nI S) i = s:=by
 unfold nI gl
 rw [List.getD_eq_getElem?_getD,List.getElem?_map,h]; rfl
theorem nI_app (S:List Nat) (t:Nat):nI (S ++ [t]) = nI S ++ [(t:Int)]:=by unfold nI; rw [List.map_append]; rfl
def prow (m:Mac) (S:List Nat) (s d:Nat):List Int:=(List.range d).map fun e=>((ixOf (clsOf m (rnotes m S s d)) (m.cl (m.nx s e)):Nat):Int)
theorem rnotes_in {m:Mac} {S:List Nat} {s:Nat}:∀ d e,e < d→m.cl (m.nx s e) ∈ clsOf m (rnotes m S s d)
 | d + 1,e,he=>by
  show m.cl (m.nx s e) ∈ clsOf m (rnote m (rnotes m S s d) (m.nx s d))
  rw [rnote_cls]
  by_cases h:e = d
  ·subst h; exact note_mem _ _
  ·exact note_sub (rnotes_in d e (by omega))
theorem prow_succ {m:Mac} {S:List Nat} {s d:Nat}:prow m S s (d + 1) = prow m S s d ++ [((ixOf (clsOf m (rnotes m S s (d + 1))) (m.cl (m.nx s d)):Nat):Int)]:=by
 unfold prow
 rw [List.range_succ,List.map_append]
 congr 1
 refine List.map_congr_left fun e he=>?_
 have he:=List.mem_range.1 he
 have hin:=rnotes_in (m:=m) (S:=S) (s:=s) d e he
 have e1:clsOf m (rnotes m S s (d + 1)) = note (clsOf m (rnotes m S s d)) (m.cl (m.nx s d)):=rnote_cls _ _ _
 rw [e1]
 obtain ⟨r,er⟩:=note_pre (clsOf m (rnotes m S s d)) (m.cl (m.nx s d))
 unfold ixOf
 rw [er,idxOf_app hin]
theorem rrow_stay {m:Mac} (hm:m.Ok) {S S':List Nat} {a:Nat} (k:Rq m S a) {r:List Nat} (e:S' = S ++ r):(S.take a).map (rrow m S') = (S.take a).map (rrow m S):=by
 have hb:=k.bq
 have hcl:clsOf m S' = clsOf m S ++ clsOf m r:=by rw [e]; unfold clsOf; rw [List.map_append]
 have hre:=rowsOf_ext hb.met hb.le hcl
 unfold rowsOf at hre
 have et:(clsOf m S).take a = clsOf m (S.take a):=by unfold clsOf; rw [List.map_take]
 have hle:a≤S.length:=by have:=hb.le; unfold clsOf at this; rw [List.length_map] at this; exact this
 have et':(clsOf m S').take a = clsOf m (S.take a):=by
  rw [hcl,List.take_append_of_le_length hb.le,et]
 rw [et,et'] at hre
 unfold clsOf at hre
 rw [List.map_map,List.map_map] at hre
 refine Eq.trans (List.map_congr_left fun s hs=>?_) (Eq.trans hre (List.map_congr_left fun s hs=>?_))
 ·exact rrow_eq hm S' (k.lt s (List.mem_of_mem_take hs))
 ·exact (rrow_eq hm S (k.lt s (List.mem_of_mem_take hs))).symm
attribute [local irreducible] E idxN cellAt cellsAt storeAt callable helems hmoved lookIn findKey keyOk hentries Hp.at Hp.set Hp.lay arBits hupdated setAt CallP YieldP BoolOf IsWrap Rnd LoopP AppP CutP Int.tmod Int.tdiv Int.fdiv
section
variable [Unknowns]
attribute [local irreducible] ResP sameAt finP
theorem RForm_spec (v:Value) (m:Mac) (h:Hp) (hv:MV h v m.i) (hm:OkB m):CallP E 40 [v] h (fun r h'=>OwnM h h' r m.form.i∧Grows h h'):=by
 obtain ⟨bx,rfl,hbx⟩:=hv.box
 obtain ⟨ao,an,co,cn,hcx⟩:=hbx.cx
 obtain ⟨i3,t3,-,z3⟩:=ty3
 obtain ⟨iM,tM,dM⟩:=ty114
 have hn12:=hm.n
 have hb5:=hm.b
 have hn1:=hm.ok.n1
 have hil:=hm.ok.ilen
 have hcl:=Mac.cls_len hm.ok
 refine enter40 (by simp) ?_
 conv=>whnf
 refine SeqP.cut (α:=Hp) (fun _=>[(1,ptr h.next 0),(2,ptr (h.next + 1) 0)]) (fun x H=>x = H∧Grows h H∧H.at h.next = some (.row 26 true bx)∧H.at (h.next + 1) = some (.row 26 true [int 0,nilS,nilS])∧H.next = h.next + 2) ?_ ?_
 ·conv=>whnf
  have n1:(h.lay (.row 26 true bx)).next = h.next + 1:=Hp.next_lay _ _
  exact ⟨_,⟨rfl,congrArg (fun k=>ptr k 0) n1,trivial⟩,⟨rfl,(Grows.lay _ _).then_lay _,Hp.at_lay_old _ (Hp.at_lay_self _ _),at_nx2 n1 (Hp.at_lay_self _ _),by rw [Hp.next_lay,n1]⟩,rfl⟩
 rintro H φ1 _ ⟨rfl,gH,aX,aR,nH⟩
 have kx:=hcx H h.next 26 gH aX
 have c1:cellAt H h.next 1 = some (.slice ao m.out.length co):=kx.c1
 have hout:∀ x ∈ m.out,0≤x∧x < 65536:=fun x hx=>by have:=hm.outs x hx; omega
 have hsr0:=split_ref (c:=m.out) hm rfl hout fun s t hs ht e=>e
 conv=>whnf
 refine SeqP.cut (α:=Option Addr×Hp) (fun q=>[(3,.slice q.1 m.out.length m.out.length),(1,ptr h.next 0),(2,ptr (h.next + 1) 0)]) (fun q H2=>q.2 = H2∧Grows H q.2∧View q.2 (.slice q.1 m.out.length m.out.length) (m.ref m.out)) ?_ ?_
 ·conv=>whnf
  refine ⟨_,all_cells aX hbx.len,?_⟩
  conv=>whnf
  refine ⟨_,c1,?_⟩
  conv=>whnf
  refine CallP.mono (split_spec _ _ m m.out _ (Bx.mv (hbx.ext gH)) kx.o hm rfl hout) ?_
  rintro r H2 ⟨hr,g2⟩
  rw [hsr0.1] at hr
  have hws:=hr.c.slice
  obtain ⟨a,rfl,-⟩:=hws
  have hv2:=hr.view
  rw [Mac.ref_len] at hv2
  conv=>whnf
  exact ⟨(a,H2),⟨congrArg (fun k=>Value.slice a k k) (Mac.ref_len m m.out),rfl,rfl,trivial⟩,⟨rfl,g2,hv2⟩,rfl⟩
 rintro ⟨a0,H2⟩ φ2 _ ⟨rfl,g2,v2⟩
 dsimp only at g2 v2 ⊢
 have g0:=Mac.Good.start hm.ok
 have hk0:=num_max (ks:=m.keys m.out) (fun e=>by have:=Mac.keys_len m m.out; rw [e] at this; simp at this; omega)
 conv=>whnf
 refine SeqP.cut (α:=Option Addr×Hp) (fun q=>[(3,.slice q.1 m.out.length m.out.length),(1,ptr h.next 0),(2,ptr (h.next + 1) 0)]) (fun q H3=>q.2 = H3∧Grows H q.2∧View q.2 (.slice q.1 m.out.length m.out.length) m.cls) ?_ ?_
 ·conv=>whnf
  repeat (refine SeqP.go ?_; conv=>whnf)
  refine loop_inv (α:=List Int×Nat×Option Addr×Hp) (fun q=>[(3,.slice q.2.2.1 m.out.length m.out.length),(1,ptr h.next 0),(2,ptr (h.next + 1) 0)]) (fun q=>q.2.2.2) (fun q=>Grows H q.2.2.2∧View q.2.2.2 (.slice q.2.2.1 m.out.length m.out.length) q.1∧(∃ f j,Mac.Good m q.1 j q.2.1∧m.clsF f q.1 q.2.1 = m.cls∧m.out.length + 1≤f + q.2.1)∧q.1.foldl max 0 + 1 = (q.2.1:Int)∧(∀ x ∈ q.1,0≤x∧x < 65536)) (fun q=>m.out.length + 1 - q.2.1) (m.ref m.out,m.cnt m.out,a0,H2) ⟨g2,v2,⟨m.out.length,1,g0,rfl,by have:=g0.le; show m.out.length + 1≤m.out.length + m.cnt m.out; omega⟩,hk0,ref_bd m.out hn12⟩ ⟨rfl,rfl,rfl,trivial⟩ (Hp.Le.refl _) ?_
  rintro ⟨c,k,a,G⟩ φ3 ⟨gG,vG,⟨f,j,good,hcls,hf⟩,hmax,hbd⟩
  dsimp only at gG vG good hcls hf hmax hbd ⊢
  have hclen:=good.len
  have hsr:=split_ref (c:=c) hm hclen hbd fun s t hs ht e=>good.out s t hs ht e
  have hmax2:=num_max (ks:=m.keys c) (fun e=>by have:=Mac.keys_len m c; rw [e] at this; simp at this; omega)
  have hkle:k≤m.cnt c:=by have:=Mac.cnt_ge m c; have:=good.cnt; omega
  have hcle:=Mac.cnt_le m c
  conv=>whnf
  repeat (refine SeqP.go ?_; conv=>whnf)
  refine ⟨_,all_cells (gG.at_ _ _ aX) hbx.len,?_⟩
  conv=>whnf
  refine CallP.mono (split_spec _ _ m c _ (Bx.mv (hbx.ext (gH.trans gG))) vG hm hclen hbd) ?_
  rintro r G2 ⟨hr,gG2⟩
  rw [hsr.1] at hr
  have hws:=hr.c.slice
  obtain ⟨a2,rfl,-⟩:=hws
  have v2c:=hr.view
  have hlr:=Mac.ref_len m c
  have hbr:=ref_bd c hn12
  conv=>whnf
  repeat (refine SeqP.go ?_; conv=>whnf)
  refine CallP.mono (count_spec _ (m.ref c) _ v2c (by omega) (fun x hx=>by have:=hbr x hx; omega)) ?_
  rintro _ G3 ⟨rfl,eG⟩
  have eG:=eG.symm
  subst eG
  conv=>whnf
  refine CallP.mono (count_spec _ c _ (vG.ext gG2) (by omega) (fun x hx=>by have:=hbd x hx; omega)) ?_
  rintro _ G4 ⟨rfl,eG⟩
  have eG:=eG.symm
  subst eG
  have hm1:(m.ref c).foldl max 0 + 1 = (m.cnt c:Int):=hmax2
  conv=>whnf
  by_cases hk:m.cnt c = k
  ·refine cmpT (by omega) ?_
   have ecls:c = m.cls:=by
    cases f with
    | zero=>omega
    | succ f =>
     unfold Mac.clsF at hcls
     rw [if_pos hk] at hcls
     exact hcls
   rw [ecls] at vG
   conv=>whnf
   repeat (refine SeqP.go ?_; conv=>whnf)
   exact ⟨(a,G2),⟨rfl,rfl,rfl,trivial⟩,⟨rfl,gG.trans gG2,vG.ext gG2⟩,rfl⟩
  ·refine cmpF (by omega) ?_
   have hnext:∃ f j,Mac.Good m (m.ref c) j (m.cnt c)∧m.clsF f (m.ref c) (m.cnt c) = m.cls∧m.out.length + 1≤f + m.cnt c:=by
    cases f with
    | zero=>omega
    | succ f =>
     unfold Mac.clsF at hcls
     rw [if_neg hk] at hcls
     exact ⟨f,j + 1,good.next hm.ok hk,hcls,by omega⟩
   rw [hlr] at v2c
   conv=>whnf
   repeat (refine SeqP.go ?_; conv=>whnf)
   exact Rnd.mk (m.ref c,m.cnt c,a2,G2) ⟨gG.trans gG2,v2c,hnext,hmax2,hbr⟩ (by show m.out.length + 1 - m.cnt c < m.out.length + 1 - k; omega) ⟨congrArg (fun k=>Value.slice a2 k k) hlr,rfl,rfl,trivial⟩ (Hp.Le.refl _) rfl
 rintro ⟨a,H3⟩ φ3 _ ⟨rfl,g3,v3⟩
 dsimp only at g3 v3 ⊢
 have hc0:=View.cellg v3 (i:=0) (by omega)
 obtain ⟨rc,oc,sc,ea,hsc,-,hc0⟩:=hc0
 subst ea
 have ecl0:gl m.cls 0 = m.cl 0:=rfl
 rw [ecl0] at hc0
 conv=>whnf
 refine SeqP.cut (α:=Nat×Hp) (fun q=>[(5,mapAt q.1),(3,.slice (some ⟨rc,oc,sc⟩) m.out.length m.out.length),(1,ptr h.next 0),(2,ptr (h.next + 1) 0)]) (fun q H4=>q.2 = H4∧Grows H3 H4∧Nums H4 q.1 encI [m.cl 0]∧H3.next≤q.1) ?_ ?_
 ·conv=>whnf
  refine ⟨hsc,⟨by omega,by omega⟩,?_⟩
  conv=>whnf
  refine ⟨_,(Grows.lay _ _).cell hc0,?_⟩
  conv=>whnf
  refine raw_insert tM dM keyI (k:=m.cl 0) (v:=int 0) (n:=0) rfl rfl rfl (MapAt.new _) ?_
  intro H4 hM4 y4
  have gl4:Grows H3 (H3.lay (.map [] 0)):=Grows.lay _ _
  have gk4:Grows H3 H4:=⟨by rw [y4.next]; exact gl4.next,fun r o e=>y4.at_ r o (by have:=Hp.lt_of_at e; omega) (gl4.at_ r o e)⟩
  conv=>whnf
  exact ⟨(H3.next,H4),⟨rfl,rfl,rfl,rfl,trivial⟩,⟨rfl,gk4,hM4.congr fun k=>by
   unfold fN
   by_cases e:k = m.cl 0
   ·rw [if_pos e,if_pos (by rw [e]; simp),e]; simp
   ·rw [if_neg e,if_neg (by simpa using e)],Nat.le_refl _⟩,rfl⟩
 rintro ⟨M,H4⟩ φ4 _ ⟨rfl,g4,hM4,hMge⟩
 dsimp only at g4 hM4 hMge ⊢
 have hltM:M < H4.next:=by
  obtain ⟨_,_,h1,_⟩:=hM4
  exact Hp.lt_of_at h1
 conv=>whnf
 refine SeqP.cut (α:=Hp) (fun q=>[(6,slc H4.next 0 1 1),(5,mapAt M),(3,.slice (some ⟨rc,oc,sc⟩) m.out.length m.out.length),(1,ptr h.next 0),(2,ptr (h.next + 1) 0)]) (fun q H5=>q = H5∧Grows H4 H5∧H5.at H4.next = some (.row 3 true [int 0])∧H5.next = H4.next + 1) ?_ ?_
 ·conv=>whnf
  exact ⟨_,⟨rfl,rfl,rfl,rfl,rfl,trivial⟩,⟨rfl,Grows.lay _ _,Hp.at_lay_self _ _,Hp.next_lay _ _⟩,rfl⟩
 rintro H5 φ5 _ ⟨rfl,g5,a5,n5⟩
 have g15:=(g3.trans g4).trans g5
 have d0:=(hcx H5 h.next 26 (gH.trans g15) (g15.at_ _ _ aX)).c0
 conv=>whnf
 refine SeqP.cut (α:=Hp) (fun q=>[(7,ptr H5.next 0),(6,slc H4.next 0 1 1),(5,mapAt M),(3,.slice (some ⟨rc,oc,sc⟩) m.out.length m.out.length),(1,ptr h.next 0),(2,ptr (h.next + 1) 0)]) (fun q H6=>q = H6∧Grows H5 H6∧H6.at H5.next = some (.row 26 true [int m.base,nilS,nilS])) ?_ ?_
 ·conv=>whnf
  refine ⟨_,d0,?_⟩
  conv=>whnf
  refine ⟨rfl,_,storeAt_all (vs:=[int m.base,nilS,nilS]) rfl rfl rfl,?_⟩
  conv=>whnf
  exact ⟨_,⟨rfl,rfl,rfl,rfl,rfl,rfl,trivial⟩,⟨rfl,Grows.lay _ _,Hp.at_lay_self _ _⟩,rfl⟩
 rintro H6 φ6 _ ⟨rfl,g6,a6⟩
 have hexZ:∃ Z,H5.next = Z:=⟨_,rfl⟩
 obtain ⟨Z,eZ⟩:=hexZ
 have hexr:∃ r6,H4.next = r6:=⟨_,rfl⟩
 obtain ⟨r6,er6⟩:=hexr
 rw [eZ] at a6 ⊢
 rw [er6] at a5 n5 hltM ⊢
 have hltZ:=Hp.lt_of_at a6
 have hn34:=g4.next
 have g36:=(g4.trans g5).trans g6
 have hz6:MZ H3 H6 26 Z nilS nilS [] [] [] [int m.base,nilS,nilS] [pl M,slc r6 0 1 1]:=⟨g36,a6,BuiltC.nil,BuiltC.nil,rfl,fun k u l e=>by simp at e,by omega,sep3 hltZ (by omega) (by omega) (by omega) (by omega) (by omega) 1 1⟩
 have hM6:Nums H6 M encI (clsOf m [0]):=(hM4.ext g5).ext g6
 have hst6:BuiltC H3 H6 3 1 (slc r6 0 1 1) (nI [0]).length ((nI [0]).map int):=⟨rfl,.inr ⟨r6,rfl,by omega,true,g6.at_ _ _ a5⟩⟩
 have rq0:=Rq.start hm.ok
 have gh3:=gH.trans g3
 have aX3:=g3.at_ _ _ aX
 have aR3:=g3.at_ _ _ aR
 have hn3:=g3.next
 have hz6':=hz6.more (.refl _) (v:=nilS) fun r e=>by cases e
 have hmem1:∀ w:Value,∀ u:Value,∀ us:List Value,u ∈ [pl M,u,w] ++ us:=fun w u us=>by simp
 clear a5 a6 g4 g5 g6 g36 g15 d0 hM4
 conv=>whnf
 refine SeqP.cut (α:=Value×Value×List Value×List Int×List (List Int)×Hp) (fun q=>[(7,ptr Z 0),(2,ptr (h.next + 1) 0)]) (fun q H7=>q.2.2.2.2.2 = H7∧∃ rs,MZ H3 q.2.2.2.2.2 26 Z q.1 q.2.1 q.2.2.2.1 q.2.2.1 q.2.2.2.2.1 [int m.base,q.1,q.2.1] rs∧m.form.i = ⟨m.base,q.2.2.2.1,q.2.2.2.2.1⟩) ?_ ?_
 rotate_left
 ·rintro ⟨ov,nv,us,O,N,H7⟩ φ7 _ ⟨rfl,rs,hz7,ef⟩
  dsimp only at hz7 ef ⊢
  have hov:=hz7.out_ok
  obtain ⟨ax,rfl⟩:=hov
  have hnv:=hz7.next_ok
  obtain ⟨ay,rfl⟩:=hnv
  have aR7:=hz7.gr.at_ _ _ aR3
  conv=>whnf
  repeat (refine SeqP.go ?_; conv=>whnf)
  refine ⟨_,all_cells hz7.z rfl,?_⟩
  conv=>whnf
  refine ⟨rfl,_,storeAt_full (vs:=[int m.base,.slice ax O.length O.length,.slice ay N.length N.length]) aR7 rfl rfl rfl,?_⟩
  conv=>whnf
  repeat (refine SeqP.go ?_; conv=>whnf)
  obtain ⟨iR,tR,agR,szR⟩:=ty26
  refine leave_cell (r:=h.next + 1) (o:=0) (cs:=[int m.base,.slice ax O.length O.length,.slice ay N.length N.length]) rfl tR agR ?_ ?_
  ·rw [szR]
   exact all_cells (Hp.at_set_self _ (Hp.lt_of_at aR7)) rfl
  ·rw [ef]
   exact hz7.leave (h:=h) (R:=h.next + 1) (by omega) (by omega) gh3 m.base (.row 26 true [int m.base,.slice ax O.length O.length,.slice ay N.length N.length])
 conv=>whnf
 repeat (refine SeqP.go ?_; conv=>whnf)
 refine loop_inv (α:=List Nat×Nat×Value×Value×Value×List Value×Hp) (fun q=>[(8,int q.2.1),(7,ptr Z 0),(6,q.2.2.1),(5,mapAt M),(3,.slice (some ⟨rc,oc,sc⟩) m.out.length m.out.length),(1,ptr h.next 0),(2,ptr (h.next + 1) 0)]) (fun q=>q.2.2.2.2.2.2) (fun q=>Rq m q.1 q.2.1∧MZ H3 q.2.2.2.2.2.2 26 Z q.2.2.2.1 q.2.2.2.2.1 ((q.1.take q.2.1).map m.o) q.2.2.2.2.2.1 ((q.1.take q.2.1).map (rrow m q.1)) [int m.base,q.2.2.2.1,q.2.2.2.2.1] [pl M,q.2.2.1,nilS]∧Nums q.2.2.2.2.2.2 M encI (clsOf m q.1)∧BuiltC H3 q.2.2.2.2.2.2 3 1 q.2.2.1 (nI q.1).length ((nI q.1).map int)) (fun q=>20000 - q.2.1) ([0],0,slc r6 0 1 1,nilS,nilS,[],H6) ⟨rq0,hz6',hM6,hst6⟩ ⟨rfl,rfl,rfl,rfl,rfl,rfl,rfl,trivial⟩ (Hp.Le.refl _) ?_
 rintro ⟨S,a,u6,ov,nv,us,G⟩ φ7 ⟨rq,hz,hM,hst⟩
 dsimp only at rq hz hM hst ⊢
 have hSl:S.length≤m.out.length:=by
  have:=rq.bq.few
  unfold clsOf at this
  rw [List.length_map,hcl] at this
  exact this
 have hale:a≤S.length:=by have:=rq.bq.le; unfold clsOf at this; rw [List.length_map] at this; exact this
 have hSI:=nI_len S
 have hws:=hst.slice
 obtain ⟨au,eu,hau⟩:=hws
 subst eu
 conv=>whnf
 repeat (refine SeqP.go ?_; conv=>whnf)
 refine cmpB (fun q1=>?_) (fun q1=>?_)
 rotate_left
 ·have hfull:S.length≤a:=by omega
  have ef:=rq.form hm.ok hfull
  rw [List.take_of_length_le hfull] at hz
  conv=>whnf
  repeat (refine SeqP.go ?_; conv=>whnf)
  exact ⟨(ov,nv,us,S.map m.o,S.map (rrow m S),G),⟨rfl,rfl,trivial⟩,⟨rfl,_,hz,ef⟩,rfl⟩
 have haS:a < S.length:=by omega
 have hs:=List.getElem?_eq_getElem haS
 have hexs:∃ s,S[a] = s:=⟨_,rfl⟩
 obtain ⟨s,es⟩:=hexs
 rw [es] at hs
 have hsl:=rq.lt s (List.mem_of_getElem? hs)
 have hvS:View G (.slice au (nI S).length (nI S).length) (nI S):=Built.view (h0:=H3) (e:=3) hst.b
 have hcs:=View.cellg hvS (i:=a) (by omega)
 obtain ⟨r1,o1,sp1,ea,hsp1,-,hc1⟩:=hcs
 subst ea
 rw [nI_get hs] at hc1
 conv=>whnf
 refine SeqP.go ?_
 conv=>whnf
 refine SeqP.cut (α:=Unit) (fun q=>[(9,int s),(8,int a),(7,ptr Z 0),(6,.slice (some ⟨r1,o1,sp1⟩) (nI S).length (nI S).length),(5,mapAt M),(3,.slice (some ⟨rc,oc,sc⟩) m.out.length m.out.length),(1,ptr h.next 0),(2,ptr (h.next + 1) 0)]) (fun q H7=>G = H7) ?_ ?_
 ·conv=>whnf
  refine ⟨hsp1,⟨by omega,by omega⟩,?_⟩
  conv=>whnf
  refine ⟨_,hc1,?_⟩
  conv=>whnf
  exact ⟨(),⟨rfl,rfl,rfl,rfl,rfl,rfl,rfl,rfl,trivial⟩,rfl,rfl⟩
 rintro _ φ8 _ rfl
 have hclen:m.cls.length = m.out.length:=hcl
 have hbM:∀ d,d≤m.base→(rnotes m S s d).length≤m.out.length:=fun d hd=>by
  have h1:=notesN_few (Mac.form_fin hm.ok) rq.bq (s:=m.cl s) (List.mem_of_getElem? (Mac.cl_get hm.ok hsl)) hd
  rw [← rnotes_cls hm.ok S hsl d hd,hcl] at h1
  unfold clsOf at h1
  rw [List.length_map] at h1
  exact h1
 conv=>whnf
 refine SeqP.go ?_
 conv=>whnf
 refine SeqP.cut (α:=Value×Value×Hp) (fun q=>[(10,q.2.1),(9,int s),(8,int a),(7,ptr Z 0),(6,q.1),(5,mapAt M),(3,.slice (some ⟨rc,oc,sc⟩) m.out.length m.out.length),(1,ptr h.next 0),(2,ptr (h.next + 1) 0)]) (fun q H7=>q.2.2 = H7∧MZ H3 q.2.2 26 Z ov nv ((S.take a).map m.o) us ((S.take a).map (rrow m S)) [int m.base,ov,nv] [pl M,q.1,q.2.1]∧Nums q.2.2 M encI (clsOf m (rnotes m S s m.base))∧BuiltC H3 q.2.2 3 1 q.1 (nI (rnotes m S s m.base)).length ((nI (rnotes m S s m.base)).map int)∧BuiltC H3 q.2.2 3 1 q.2.1 (prow m S s m.base).length ((prow m S s m.base).map int)) ?_ ?_
 ·conv=>whnf
  repeat (refine SeqP.go ?_; conv=>whnf)
  refine loop_inv (α:=Nat×Value×Value×Hp) (fun q=>[(11,int q.1),(10,q.2.2.1),(9,int s),(8,int a),(7,ptr Z 0),(6,q.2.1),(5,mapAt M),(3,.slice (some ⟨rc,oc,sc⟩) m.out.length m.out.length),(1,ptr h.next 0),(2,ptr (h.next + 1) 0)]) (fun q=>q.2.2.2) (fun q=>q.1≤m.base∧MZ H3 q.2.2.2 26 Z ov nv ((S.take a).map m.o) us ((S.take a).map (rrow m S)) [int m.base,ov,nv] [pl M,q.2.1,q.2.2.1]∧Nums q.2.2.2 M encI (clsOf m (rnotes m S s q.1))∧BuiltC H3 q.2.2.2 3 1 q.2.1 (nI (rnotes m S s q.1)).length ((nI (rnotes m S s q.1)).map int)∧BuiltC H3 q.2.2.2 3 1 q.2.2.1 (prow m S s q.1).length ((prow m S s q.1).map int)) (fun q=>m.base - q.1) (0,_,nilS,G) ⟨Nat.zero_le _,hz,hM,hst,BuiltC.nil⟩ ⟨rfl,rfl,rfl,rfl,rfl,rfl,rfl,rfl,rfl,rfl,trivial⟩ (Hp.Le.refl _) ?_
  rintro ⟨d,u,w,K⟩ φ9 ⟨hd,hzK,hMK,huK,hwK⟩
  dsimp only at hd hzK hMK huK hwK ⊢
  have kK:=hcx K h.next 26 (gh3.trans hzK.gr) (hzK.gr.at_ _ _ aX3)
  have f0:cellAt K h.next 0 = some (int (m.base:Int)):=kK.c0
  have f2:=kK.c2
  have hexT:∃ T,rnotes m S s d = T:=⟨_,rfl⟩
  obtain ⟨T,eT⟩:=hexT
  rw [eT] at hMK huK
  have hus:=huK.slice
  obtain ⟨au2,eu2,-⟩:=hus
  subst eu2
  have hws2:=hwK.slice
  obtain ⟨aw2,ew2,-⟩:=hws2
  subst ew2
  conv=>whnf
  repeat (refine SeqP.go ?_; conv=>whnf)
  refine ⟨_,f0,?_⟩
  conv=>whnf
  refine cmpB (fun q2=>?_) (fun q2=>?_)
  rotate_left
  ·have:d = m.base:=by omega
   subst this
   conv=>whnf
   repeat (refine SeqP.go ?_; conv=>whnf)
   exact ⟨(_,_,K),⟨rfl,rfl,rfl,rfl,rfl,rfl,rfl,rfl,rfl,trivial⟩,⟨rfl,hzK,by rw [eT]; exact hMK,by rw [eT]; exact huK,hwK⟩,rfl⟩
  have hd':d < m.base:=by omega
  have hnl:=hm.ok.lt s d hsl hd'
  have hnx:=kK.nextAt hm.ok hsl hd'
  obtain ⟨r5,o5,sp5,r7,o7,sp7,c7',ea,hsp5,hc5,hsp7,hc7⟩:=hnx
  subst ea
  have hext:∃ t,m.nx s d = t:=⟨_,rfl⟩
  obtain ⟨t,et⟩:=hext
  rw [et] at hc7 hnl
  have hSd:=hbM d (by omega)
  have hSd1:=hbM (d + 1) (by omega)
  have eS1:rnotes m S s (d + 1) = rnote m (rnotes m S s d) t:=by rw [← et]; rfl
  have ePr:prow m S s (d + 1) = prow m S s d ++ [((ixOf (clsOf m (rnotes m S s (d + 1))) (m.cl t):Nat):Int)]:=by rw [prow_succ,et]
  rw [eT] at hSd eS1
  have hexT1:∃ T1,rnotes m S s (d + 1) = T1:=⟨_,rfl⟩
  obtain ⟨T1,eT1⟩:=hexT1
  have hTin:m.cl t ∈ clsOf m T1:=by rw [← eT1,eS1,rnote_cls]; exact note_mem _ _
  rw [eT1] at hSd1 eS1 ePr
  have hnI:=nI_len T
  have hct:=View.cellg (v3.ext hzK.gr) (i:=t) (by omega)
  obtain ⟨r8,o8,sp8,ea,-,-,hc8⟩:=hct
  injection ea with ea
  injection ea with ea1 ea2 ea3
  subst ea1
  subst ea2
  subst ea3
  have eclt:gl m.cls t = m.cl t:=rfl
  rw [eclt] at hc8
  have hpl:(prow m S s d).length = d:=by unfold prow; rw [List.length_map,List.length_range]
  conv=>whnf
  refine SeqP.go ?_
  conv=>whnf
  refine SeqP.cut (α:=Unit) (fun q=>[(12,int t),(11,int d),(10,.slice aw2 (prow m S s d).length (prow m S s d).length),(9,int s),(8,int a),(7,ptr Z 0),(6,.slice au2 (nI T).length (nI T).length),(5,mapAt M),(3,.slice (some ⟨rc,oc,sc⟩) m.out.length m.out.length),(1,ptr h.next 0),(2,ptr (h.next + 1) 0)]) (fun q H7=>K = H7) ?_ ?_
  ·conv=>whnf
   refine ⟨_,f2,?_⟩
   conv=>whnf
   refine ⟨hsp5,⟨by omega,by omega⟩,?_⟩
   conv=>whnf
   refine ⟨_,hc5,?_⟩
   conv=>whnf
   refine ⟨hsp7,⟨by omega,by omega⟩,?_⟩
   conv=>whnf
   refine ⟨_,hc7,?_⟩
   conv=>whnf
   exact ⟨(),⟨rfl,rfl,rfl,rfl,rfl,rfl,rfl,rfl,rfl,rfl,rfl,trivial⟩,rfl,rfl⟩
  rintro _ φ10 _ rfl
  conv=>whnf
  refine SeqP.cut (α:=Value×Hp) (fun q=>[(12,int t),(11,int d),(10,.slice aw2 (prow m S s d).length (prow m S s d).length),(9,int s),(8,int a),(7,ptr Z 0),(6,q.1),(5,mapAt M),(3,.slice (some ⟨rc,oc,sc⟩) m.out.length m.out.length),(1,ptr h.next 0),(2,ptr (h.next + 1) 0)]) (fun q H7=>q.2 = H7∧MZ H3 q.2 26 Z ov nv ((S.take a).map m.o) us ((S.take a).map (rrow m S)) [int m.base,ov,nv] [pl M,q.1,.slice aw2 (prow m S s d).length (prow m S s d).length]∧Nums q.2 M encI (clsOf m T1)∧BuiltC H3 q.2 3 1 q.1 (nI T1).length ((nI T1).map int)∧BuiltC H3 q.2 3 1 (.slice aw2 (prow m S s d).length (prow m S s d).length) (prow m S s d).length ((prow m S s d).map int)) ?_ ?_
  ·by_cases hin:m.cl t ∈ clsOf m T
   ·have e1:T1 = T:=by rw [eS1]; unfold rnote; rw [if_pos hin]
    rw [e1]
    conv=>whnf
    refine SeqP.go ?_
    conv=>whnf
    refine ⟨hsc,⟨by omega,by omega⟩,?_⟩
    conv=>whnf
    refine ⟨_,hc8,?_⟩
    conv=>whnf
    refine raw_look2_some tM dM t3 z3 keyI (k:=m.cl t) rfl rfl hMK (fN_some hin) ?_
    conv=>whnf
    repeat (refine SeqP.go ?_; conv=>whnf)
    exact ⟨(_,K),⟨rfl,rfl,rfl,rfl,rfl,rfl,rfl,rfl,rfl,rfl,rfl,trivial⟩,⟨rfl,hzK,hMK,huK,hwK⟩,rfl⟩
   ·have e1:T1 = T ++ [t]:=by rw [eS1]; unfold rnote; rw [if_neg hin]
    have e2:clsOf m T1 = clsOf m T ++ [m.cl t]:=by rw [e1]; unfold clsOf; rw [List.map_append]; rfl
    have hcT:(clsOf m T).length = T.length:=by unfold clsOf; rw [List.length_map]
    conv=>whnf
    refine SeqP.go ?_
    conv=>whnf
    refine ⟨hsc,⟨by omega,by omega⟩,?_⟩
    conv=>whnf
    refine ⟨_,hc8,?_⟩
    conv=>whnf
    refine raw_look2_none tM dM t3 z3 keyI (k:=m.cl t) rfl rfl hMK (fN_none hin) ?_
    conv=>whnf
    repeat (refine SeqP.go ?_; conv=>whnf)
    refine ⟨hsc,⟨by omega,by omega⟩,?_⟩
    conv=>whnf
    refine ⟨_,hc8,?_⟩
    conv=>whnf
    refine raw_update tM dM keyI (k:=m.cl t) (v:=int (nI T).length) rfl rfl rfl hMK ?_
    intro K1 hM1 y1
    rw [hnI.trans hcT.symm] at hM1
    have htz:=hzK.touch (i:=0) (v:=pl M) rfl (Kx.keeps y1) (y1.grows hzK.gr hMge) (by rw [y1.next]; exact Nat.le_refl _)
    have hM1':=Nums.add hin hM1
    have hu1:=htz.2.builtC (v:=.slice au2 (nI T).length (nI T).length) (by simp) huK
    have hw1:=htz.2.builtC (v:=.slice aw2 (prow m S s d).length (prow m S s d).length) (by simp) hwK
    conv=>whnf
    repeat (refine SeqP.go ?_; conv=>whnf)
    refine htz.1.r_app (i:=1) rfl hu1 (by omega) ?_
    intro u' K2 hu' hb2 hz2' kv2
    obtain ⟨a9,n9,rfl⟩:=hu'
    have hM2':=kv2.map (M:=M) (by simp) hM1'
    have hw2:=kv2.builtC (v:=.slice aw2 (prow m S s d).length (prow m S s d).length) (by simp) hw1
    conv=>whnf
    exact ⟨(_,K2),⟨rfl,rfl,rfl,rfl,rfl,rfl,rfl,rfl,rfl,rfl,rfl,trivial⟩,⟨rfl,hz2',by rw [e2]; exact hM2',by rw [e1,nI_app]; exact hb2,hw2⟩,rfl⟩
  rintro ⟨u2,K1⟩ φ11 _ ⟨rfl,hz1,hM1,hu1,hw1⟩
  dsimp only at hz1 hM1 hu1 hw1 ⊢
  have hc8':=View.cellg (v3.ext hz1.gr) (i:=t) (by omega)
  obtain ⟨r9,o9,sp9,ea,-,-,hc9⟩:=hc8'
  injection ea with ea
  injection ea with ea1 ea2 ea3
  subst ea1
  subst ea2
  subst ea3
  rw [eclt] at hc9
  have hus3:=hu1.slice
  obtain ⟨au3,eu3,-⟩:=hus3
  subst eu3
  conv=>whnf
  refine ⟨hsc,⟨by omega,by omega⟩,?_⟩
  conv=>whnf
  refine ⟨_,hc9,?_⟩
  conv=>whnf
  refine raw_look1_some tM dM t3 z3 keyI (k:=m.cl t) rfl rfl hM1 (fN_some hTin) ?_
  conv=>whnf
  refine hz1.r_app (i:=2) rfl hw1 (by omega) ?_
  intro w' K2 hw' hb2 hz2' kv2
  obtain ⟨a9,n9,rfl⟩:=hw'
  have hM2':=kv2.map (M:=M) (by simp) hM1
  have hu2:=kv2.builtC (v:=.slice au3 (nI T1).length (nI T1).length) (by simp) hu1
  conv=>whnf
  repeat (refine SeqP.go ?_; conv=>whnf)
  refine ⟨((d + 1:Nat):Int),wie (by omega) (by omega),?_⟩
  conv=>whnf
  exact Rnd.mk (d + 1,_,_,K2) ⟨by show d + 1≤m.base; omega,hz2',by show Nums K2 M encI (clsOf m (rnotes m S s (d + 1))); rw [eT1]; exact hM2',by show BuiltC H3 K2 3 1 _ (nI (rnotes m S s (d + 1))).length ((nI (rnotes m S s (d + 1))).map int); rw [eT1]; exact hu2,by show BuiltC H3 K2 3 1 _ (prow m S s (d + 1)).length ((prow m S s (d + 1)).map int); rw [ePr]; exact hb2⟩ (by show m.base - (d + 1) < m.base - d; omega) ⟨rfl,rfl,rfl,rfl,rfl,rfl,rfl,rfl,rfl,rfl,trivial⟩ (Hp.Le.refl _) rfl
 rintro ⟨u2,w2,K⟩ φ9 _ ⟨rfl,hzK,hMK,huK,hwK⟩
 dsimp only at hzK hMK huK hwK ⊢
 have hpre:=rnotes_pre m S s m.base
 obtain ⟨rr,err⟩:=hpre
 have hrqn:=rq.next hm.ok hs
 have hstay:=rrow_stay hm.ok rq err
 have hexS':∃ S',rnotes m S s m.base = S':=⟨_,rfl⟩
 obtain ⟨S',eS'⟩:=hexS'
 have ePR:prow m S s m.base = rrow m S' s:=by rw [← eS']; rfl
 rw [eS'] at hMK huK err hrqn hstay
 rw [ePR] at hwK
 have hs':S'[a]? = some s:=by rw [err,List.getElem?_append_left haS]; exact hs
 have etk:S'.take a = S.take a:=by rw [err,List.take_append_of_le_length hale]
 have eO:((S.take a).map m.o) ++ [m.o s] = (S'.take (a + 1)).map m.o:=by rw [take_snoc hs',List.map_append,etk]; rfl
 have eN:((S.take a).map (rrow m S)) ++ [rrow m S' s] = (S'.take (a + 1)).map (rrow m S'):=by rw [take_snoc hs',List.map_append,etk,hstay]; rfl
 have htl:(S.take a).length = a:=by rw [List.length_take]; omega
 have hus:=huK.slice
 obtain ⟨au2,eu2,-⟩:=hus
 subst eu2
 have hws2:=hwK.slice
 obtain ⟨aw2,ew2,-⟩:=hws2
 subst ew2
 have hov:=hzK.out_ok
 obtain ⟨ax,eov⟩:=hov
 subst eov
 have hnv:=hzK.next_ok
 obtain ⟨ay,env⟩:=hnv
 subst env
 have z1:=cellAt_row (o:=1) hzK.z rfl
 have z2:=cellAt_row (o:=2) hzK.z rfl
 have kK:=hcx K h.next 26 (gh3.trans hzK.gr) (hzK.gr.at_ _ _ aX3)
 have f1:cellAt K h.next 1 = some (.slice ao m.out.length co):=kK.c1
 have hoM:=kK.outM hsl
 obtain ⟨r5,o5,sp5,ea,hsp5,hc5⟩:=hoM
 subst ea
 conv=>whnf
 repeat (refine SeqP.go ?_; conv=>whnf)
 refine ⟨_,z1,?_⟩
 conv=>whnf
 refine ⟨_,z2,?_⟩
 conv=>whnf
 repeat (refine SeqP.go ?_; conv=>whnf)
 refine ⟨_,f1,?_⟩
 conv=>whnf
 refine ⟨hsp5,⟨by omega,by omega⟩,?_⟩
 conv=>whnf
 refine ⟨_,hc5,?_⟩
 conv=>whnf
 refine hzK.o_app (by rw [List.length_map]; omega) ?_
 intro ov7 K7 hov7 hz7 kv7
 obtain ⟨a7,n7,rfl⟩:=hov7
 have hM7:=kv7.map (M:=M) (by simp) hMK
 have hu7:=kv7.builtC (v:=.slice au2 (nI S').length (nI S').length) (by simp) huK
 have hw7:=kv7.builtC (v:=.slice aw2 (rrow m S' s).length (rrow m S' s).length) (by simp) hwK
 conv=>whnf
 refine ⟨rfl,_,storeAt_row hz7.z (by simp) rfl,?_⟩
 have hz8:=hz7.put [int m.base,.slice a7 n7 n7,.slice ay ((S.take a).map (rrow m S)).length ((S.take a).map (rrow m S)).length]
 have hM8:=hz8.2.map (M:=M) (by simp) hM7
 have hu8:=hz8.2.builtC (v:=.slice au2 (nI S').length (nI S').length) (by simp) hu7
 have hw8:=hz8.2.builtC (v:=.slice aw2 (rrow m S' s).length (rrow m S' s).length) (by simp) hw7
 conv=>whnf
 repeat (refine SeqP.go ?_; conv=>whnf)
 refine hz8.1.n_app (i:=2) (by rw [List.length_map]; omega) rfl hw8.b ?_
 intro nv9 K9 hnv9 hz9 kv9
 obtain ⟨a9,n9,rfl⟩:=hnv9
 have hM9:=kv9.map (M:=M) (by simp) hM8
 have hu9:=kv9.builtC (v:=.slice au2 (nI S').length (nI S').length) (by simp) hu8
 conv=>whnf
 refine ⟨rfl,_,storeAt_row hz9.z (by simp) rfl,?_⟩
 have hz10:=hz9.put [int m.base,.slice a7 n7 n7,.slice a9 n9 n9]
 have hM10:=hz10.2.map (M:=M) (by simp) hM9
 have hu10:=hz10.2.builtC (v:=.slice au2 (nI S').length (nI S').length) (by simp) hu9
 have hz11:=hz10.1
 rw [eO,eN] at hz11
 conv=>whnf
 repeat (refine SeqP.go ?_; conv=>whnf)
 refine ⟨((a + 1:Nat):Int),wie (by omega) (by omega),?_⟩
 conv=>whnf
 exact Rnd.mk (S',a + 1,_,_,_,_,_) ⟨hrqn,hz11,hM10,hu10⟩ (by show 20000 - (a + 1) < 20000 - a; omega) ⟨rfl,rfl,rfl,rfl,rfl,rfl,rfl,trivial⟩ (Hp.Le.refl _) rfl
end
end Go.Proofs.Ytedneplaibmppaa
namespace Go.Proofs.Ytedneplaibmppaa
open Go.Rx Go.RowKit
attribute [local irreducible] E idxN cellAt cellsAt storeAt callable helems hmoved lookIn findKey keyOk hentries Hp.at Hp.set Hp.lay arBits hupdated setAt CallP YieldP BoolOf IsWrap Rnd LoopP AppP CutP Int.tmod Int.tdiv Int.fdiv
section
variable [Unknowns]
attribute [local irreducible] ResP sameAt
theorem right_spec (va vb:Value) (e:Int) (m:Mac) (h:Hp) (hb:MV h vb m.i) (hm:OkB m) (hgood:m.form.out.length≤12→e = 0∧MV h va m.form.i∧OkS m.form) (hbad:12 < m.form.out.length→e = 8∧va = noM):CallP E 43 [va,int e,vb] h (fun r h'=>r = .bool true∧Grows h h'):=by
 have hva:∃ bx:List Value,va = .agg ⟨bx⟩∧bx.length = 3:=by
  by_cases hl:m.form.out.length≤12
  ·obtain ⟨bx,e1,hbx⟩:=(hgood hl).2.1.box
   exact ⟨bx,e1,hbx.len⟩
  ·exact ⟨_,(hbad (by omega)).2,rfl⟩
 obtain ⟨bxa,rfl,hla⟩:=hva
 obtain ⟨bxb,rfl,hxb⟩:=hb.box
 refine enter43 (by simp) ?_
 conv=>whnf
 refine SeqP.cut (α:=Hp) (fun _=>[(3,ptr h.next 0),(5,ptr (h.next + 1) 0),(1,int e)]) (fun x H=>x = H∧Grows h H∧H.at h.next = some (.row 25 true bxa)∧H.at (h.next + 1) = some (.row 26 true bxb)) ?_ ?_
 ·conv=>whnf
  have n1:(h.lay (.row 25 true bxa)).next = h.next + 1:=Hp.next_lay _ _
  exact ⟨_,⟨rfl,congrArg (fun k=>ptr k 0) n1,rfl,trivial⟩,⟨rfl,(Grows.lay _ _).then_lay _,Hp.at_lay_old _ (Hp.at_lay_self _ _),at_nx2 n1 (Hp.at_lay_self _ _)⟩,rfl⟩
 rintro H φ1 _ ⟨rfl,gH,aX,aY⟩
 conv=>whnf
 refine SeqP.cut (α:=Nat×List Value×Hp) (fun s=>[(7,ptr s.1 0),(3,ptr h.next 0),(1,int e)]) (fun s H2=>s.2.2 = H2∧H2.at s.1 = some (.row 26 true s.2.1)∧Bx H2 s.2.1 m.form.i∧Grows H H2) ?_ ?_
 ·conv=>whnf
  refine ⟨_,all_cells aY hxb.len,?_⟩
  conv=>whnf
  refine CallP.mono (RForm_spec _ m _ (Bx.mv (hxb.ext gH)) hm) ?_
  rintro r H2 ⟨hw,g2⟩
  have hk:=hw.known
  obtain ⟨p,q,rfl⟩:=hk
  conv=>whnf
  refine ⟨rfl,_,storeAt_all (vs:=[int m.form.i.base,.slice p m.form.i.out.length m.form.i.out.length,.slice q m.form.i.next.length m.form.i.next.length]) rfl rfl rfl,?_⟩
  conv=>whnf
  exact ⟨(H2.next,_,_),⟨rfl,rfl,rfl,trivial⟩,⟨rfl,Hp.at_lay_self _ _,(hw.mv.ext (Grows.lay _ _)).bx,g2.then_lay _⟩,rfl⟩
 rintro ⟨N7,b7,H2⟩ φ2 _ ⟨rfl,a7,hb7,g2⟩
 dsimp only at a7 hb7 g2 ⊢
 have aX2:=g2.at_ _ _ aX
 have gh2:=gH.trans g2
 have hexF:∃ F,m.form = F:=⟨_,rfl⟩
 obtain ⟨F,eF⟩:=hexF
 rw [eF] at hb7 hgood hbad
 obtain ⟨bo,bn,do_,dn,hdx⟩:=hb7.cx
 have e1:cellAt H2 N7 1 = some (.slice bo F.out.length do_):=(hdx H2 N7 26 (.refl _) a7).c1
 by_cases hl:F.out.length≤12
 ·obtain ⟨rfl,hva,hFs⟩:=hgood hl
  have hba:Bx H2 bxa F.i:=(hva.ext gh2).bx
  obtain ⟨ao,an,co,cn,hcx⟩:=hba.cx
  have c3:=all_cells aX2 hla
  have c7:=all_cells a7 hb7.len
  have e2:cellAt H2 N7 2 = some (.slice bn F.i.next.length dn):=(hdx H2 N7 26 (.refl _) a7).c2
  conv=>whnf
  repeat (refine SeqP.go ?_; conv=>whnf)
  refine ⟨_,e1,?_⟩
  conv=>whnf
  refine cmpF (by omega) ?_
  conv=>whnf
  repeat (refine SeqP.go ?_; conv=>whnf)
  refine cmpT rfl ?_
  conv=>whnf
  refine ⟨_,c3,?_⟩
  conv=>whnf
  refine CallP.mono (own_spec _ F.i _ (Bx.mv hba) (lens_of hFs)) ?_
  rintro r G1 ⟨hw,g1⟩
  rw [hFs.cut] at hw
  have hk:=hw.known
  obtain ⟨p,q,rfl⟩:=hk
  have c3a:=g1.cells c3
  have c7a:=g1.cells c7
  conv=>whnf
  refine ⟨_,c7a,?_⟩
  conv=>whnf
  refine CallP.mono (REqual_spec _ _ F.i F.i _ hw.mv (Bx.mv (hb7.ext g1)) hFs.ok.ilen hFs.lens.1 hFs.lens.2.2) ?_
  rintro _ G2 ⟨⟨x,rfl,hx⟩,gg2⟩
  cases x with
  | false=>exact absurd rfl hx.f
  | true =>
   have g12:=g1.trans gg2
   have c3b:=gg2.cells c3a
   have c7b:=gg2.cells c7a
   have d1:cellAt G2 h.next 1 = some (.slice ao F.out.length co):=(hcx G2 h.next 25 g12 (g12.at_ _ _ aX2)).c1
   have d2:cellAt G2 h.next 2 = some (.slice an F.i.next.length cn):=(hcx G2 h.next 25 g12 (g12.at_ _ _ aX2)).c2
   have f1:=g12.cell e1
   have f2:=g12.cell e2
   conv=>whnf
   refine ⟨_,d1,?_⟩
   conv=>whnf
   refine ⟨_,f1,?_⟩
   conv=>whnf
   refine cmpT rfl ?_
   conv=>whnf
   refine ⟨_,d2,?_⟩
   conv=>whnf
   refine ⟨_,f2,?_⟩
   conv=>whnf
   refine cmpT rfl ?_
   conv=>whnf
   refine ⟨?_,?_⟩
   ·repeat' (first | exact True.intro | (refine And.intro ?_ ?_ <;> (conv=>whnf)))
    all_goals first
     | exact sameAt_val (h2:=_) rfl (sameV_int _)
     | exact sameAt_val (h2:=_) rfl (sameV_ptr _ _)
     | exact sameAt_val (h2:=_) (congrArg (fun x=>hval _ (aggOf x)) c3) hba.same
     | exact sameAt_val (h2:=_) (congrArg (fun x=>hval _ (aggOf x)) c3a) hba.same
     | exact sameAt_val (h2:=_) (congrArg (fun x=>hval _ (aggOf x)) c3b) hba.same
     | exact sameAt_val (h2:=_) (congrArg (fun x=>hval _ (aggOf x)) c7) hb7.same
     | exact sameAt_val (h2:=_) (congrArg (fun x=>hval _ (aggOf x)) c7a) hb7.same
     | exact sameAt_val (h2:=_) (congrArg (fun x=>hval _ (aggOf x)) c7b) hb7.same
     | trace_state
   conv=>whnf
   repeat (refine SeqP.go ?_; conv=>whnf)
   exact ⟨rfl,gh2.trans g12⟩
 ·have hbd:=hbad (by omega)
  obtain ⟨rfl,enm⟩:=hbd
  injection enm with enm
  injection enm with enm
  subst enm
  conv=>whnf
  repeat (refine SeqP.go ?_; conv=>whnf)
  refine ⟨_,e1,?_⟩
  conv=>whnf
  refine cmpT (by omega) ?_
  conv=>whnf
  repeat (refine SeqP.go ?_; conv=>whnf)
  refine cmpT rfl ?_
  conv=>whnf
  refine ⟨_,all_cells aX2 rfl,?_⟩
  conv=>whnf
  refine CallP.mono (empty_spec _ no0 _ (noM_mv _)) ?_
  rintro _ G1 ⟨⟨x,rfl,hx⟩,g1⟩
  cases x with
  | false=>exact absurd rfl hx.f
  | true =>
   conv=>whnf
   repeat (refine SeqP.go ?_; conv=>whnf)
   exact ⟨rfl,gh2.trans g1⟩
end
end Go.Proofs.Ytedneplaibmppaa
namespace Go.Proofs.Ytedneplaibmppaa
open Go.Rx Go.RowKit
attribute [local irreducible] E idxN cellAt cellsAt storeAt callable helems hmoved lookIn findKey keyOk hentries Hp.at Hp.set Hp.lay arBits hupdated setAt CallP YieldP BoolOf IsWrap Rnd LoopP AppP CutP Int.tmod Int.tdiv Int.fdiv
section
variable [Unknowns]
attribute [local irreducible] ResP sameAt
theorem index83_spec (a:Option Addr) (n c M:Nat) (L:List (Int×Int)) (kk:Int×Int) (h:Hp) (hM:Nums h M encP L) (hn:n = L.length):CallP E 83 [.slice a n c,mapAt M,encP kk] h (fun r h'=>((kk ∈ L→r = .tuple ⟨[int (ixOf L kk:Nat),.bool true]⟩)∧(kk ∉ L→r = .tuple ⟨[int L.length,.bool false]⟩))∧Grows h h'):=by
 subst hn
 obtain ⟨i3,t3,-,z3⟩:=ty3
 obtain ⟨iM,tM,dM⟩:=ty117
 obtain ⟨x,y⟩:=kk
 unfold encP
 refine enter83 (by simp) ?_
 conv=>whnf
 refine SeqP.cut (α:=Hp) (fun _=>[(5,ptr h.next 0),(0,.slice a L.length c),(1,mapAt M)]) (fun q H=>q = H∧Grows h H∧H.at h.next = some (.row 64 true [int x,int y])) ?_ ?_
 ·conv=>whnf
  exact ⟨_,⟨rfl,rfl,rfl,trivial⟩,⟨rfl,Grows.lay _ _,Hp.at_lay_self _ _⟩,rfl⟩
 rintro H φ1 _ ⟨rfl,gH,aK⟩
 have hM1:=hM.ext gH
 by_cases hin:(x,y) ∈ L
 ·conv=>whnf
  repeat (refine SeqP.go ?_; conv=>whnf)
  refine ⟨_,all_cells aK rfl,?_⟩
  conv=>whnf
  refine raw_look2_some tM dM t3 z3 key64 (k:=(x,y)) rfl rfl hM1 (fN_some hin) ?_
  conv=>whnf
  repeat (refine SeqP.go ?_; conv=>whnf)
  exact ⟨⟨fun _=>rfl,fun q=>absurd hin q⟩,gH⟩
 ·conv=>whnf
  repeat (refine SeqP.go ?_; conv=>whnf)
  refine ⟨_,all_cells aK rfl,?_⟩
  conv=>whnf
  refine raw_look2_none tM dM t3 z3 key64 (k:=(x,y)) rfl rfl hM1 (fN_none hin) ?_
  conv=>whnf
  repeat (refine SeqP.go ?_; conv=>whnf)
  exact ⟨⟨fun q=>absurd q hin,fun _=>rfl⟩,gH⟩
end
end Go.Proofs.Ytedneplaibmppaa
namespace Go.Proofs.Ytedneplaibmppaa
open Go.Rx Go.RowKit
structure Wr (hb H0 H:Hp):Prop where
 gr:Grows hb H
 next:H.next = H0.next
 row:∀ (r:Nat) (x:Bool) (l:List Int),H0.at r = some (.row 3 x (l.map int))→∃ l':List Int,l'.length = l.length∧H.at r = some (.row 3 x (l'.map int))
 oth:∀ (r e:Nat) (x:Bool) (cs:List Value),e≠3→H0.at r = some (.row e x cs)→H.at r = some (.row e x cs)
theorem Wr.refl {hb H:Hp} (g:Grows hb H):Wr hb H H:=⟨g,rfl,fun r x l e=>⟨l,rfl,e⟩,fun r e x cs _ h=>h⟩
end Go.Proofs.Ytedneplaibmppaa
namespace Go.Proofs.Ytedneplaibmppaa
open Go.Rx Go.RowKit
/-! The machine of the states that are met. -/
def outM (m:Mac) (s:Int):Int:=m.o s.toNat
/-! Other outputs. -/
/-! Two digits at once. -/
/-! Two machines side by side. -/
end Go.Proofs.Ytedneplaibmppaa
namespace Go.Proofs.Ytedneplaibmppaa
open Go.Rx Go.RowKit
theorem fl2_get:∀ (l:List (Int×Int)) (k:Nat) (x:Int×Int),l[k]? = some x→(fl2 l)[k * 2]? = some (int x.1)∧(fl2 l)[k * 2 + 1]? = some (int x.2)
 | p :: l,0,x,h=>by cases h; exact ⟨rfl,rfl⟩
 | p :: l,k + 1,x,h=>by
  have:=fl2_get l k x (by simpa using h)
  rw [show (k + 1) * 2 = k * 2 + 1 + 1 by omega]
  exact this
theorem fl2_at {h0 H:Hp} {e:Nat} {v:Value} {L:List (Int×Int)} (k:BuiltC h0 H e 2 v L.length (fl2 L)) {i:Nat} {x:Int×Int} (hi:L[i]? = some x):∃ r,v = slc r 0 L.length L.length∧cellAt H r (offAt (offAt 0 i 2) 0 1) = some (int x.1)∧cellAt H r (offAt (offAt 0 i 2) 1 1) = some (int x.2):=by
 have hl:=(List.getElem?_eq_some_iff.1 hi).1
 obtain ⟨hlen,⟨_,e1⟩ | ⟨r,er,_,y,hr⟩⟩:=k
 ·omega
 ·have h2:=fl2_get L i x hi
  refine ⟨r,er,?_,?_⟩
  ·rw [offAt_eq,offAt_eq]
   exact cellAt_row hr (by simpa using h2.1)
  ·rw [offAt_eq,offAt_eq]
   exact cellAt_row hr (by simpa using h2.2)
section
variable {S:Type} [DecidableEq S]
theorem rowOf_succ {next:S→Nat→S} {d:Nat} {L L':List S} {s:S} (hL:∀ j,j < d→next s j ∈ L) {r:List S} (e:L' = L ++ r):rowOf next (d + 1) L' s = rowOf next d L s ++ [((ixOf L' (next s d):Nat):Int)]:=by
 unfold rowOf
 rw [List.range_succ,List.map_append]
 congr 1
 refine List.map_congr_left fun j hj=>?_
 unfold ixOf
 rw [e,idxOf_app (hL j (List.mem_range.1 hj))]
theorem rowOf_len {next:S→Nat→S} {b:Nat} {L:List S} {s:S}:(rowOf next b L s).length = b:=by unfold rowOf; rw [List.length_map,List.length_range]
end
end Go.Proofs.Ytedneplaibmppaa
namespace Go.Proofs.Ytedneplaibmppaa
open Go.Rx Go.RowKit
def Ans (H:Hp) (N:Nat) (e:Int) (P:Prop) (w:Mac):Prop:=∃ bx:List Value,bx.length = 3∧H.at N = some (.row 25 true bx)∧sameV 4 (.agg ⟨bx⟩) (.agg ⟨bx⟩) = true∧(P→e = 1∧bx = [int 0,nilS,nilS])∧(¬ P→(w.form.out.length≤12→e = 0∧MV H (.agg ⟨bx⟩) w.form.i)∧(12 < w.form.out.length→e = 8∧bx = [int 0,nilS,nilS]))
theorem Ans.ext {H H':Hp} {N:Nat} {e:Int} {P:Prop} {w:Mac} (g:Grows H H') (k:Ans H N e P w):Ans H' N e P w:=by
 obtain ⟨bx,h1,h2,h3,h4,h5⟩:=k
 exact ⟨bx,h1,g.at_ _ _ h2,h3,h4,fun q=>⟨fun l=>⟨((h5 q).1 l).1,((h5 q).1 l).2.ext g⟩,(h5 q).2⟩⟩
theorem ans_of {h h':Hp} {r:Value} {P:Prop} {w:Mac} (hb:P→r = .tuple ⟨[noM,int 1]⟩) (hg:¬ P→FitR h h' r w):∃ a b c e,r = .tuple ⟨[.agg ⟨[a,b,c]⟩,int e]⟩∧[a,b,c].all oneCell = true∧Ans (h'.lay (.row 25 true [a,b,c])) h'.next e P w:=by
 by_cases p:P
 ·exact ⟨_,_,_,1,hb p,rfl,_,rfl,Hp.at_lay_self _ _,sameV_mac _ _ _ _ _ _ _,fun _=>⟨rfl,rfl⟩,fun q=>absurd p q⟩
 ·obtain ⟨u,e,rfl,h1,h2⟩:=hg p
  by_cases hl:w.form.out.length≤12
  ·obtain ⟨rfl,ho⟩:=h1 hl
   obtain ⟨x,y,rfl⟩:=ho.known
   exact ⟨_,_,_,0,rfl,rfl,_,rfl,Hp.at_lay_self _ _,sameV_mac _ _ _ _ _ _ _,fun q=>absurd q p,fun _=>⟨fun _=>⟨rfl,ho.mv.ext (Grows.lay _ _)⟩,fun q=>by omega⟩⟩
  ·obtain ⟨rfl,rfl⟩:=h2 (by omega)
   exact ⟨_,_,_,8,rfl,rfl,_,rfl,Hp.at_lay_self _ _,sameV_mac _ _ _ _ _ _ _,fun q=>absurd q p,fun _=>⟨fun q=>absurd q hl,fun _=>⟨rfl,rfl⟩⟩⟩
end Go.Proofs.Ytedneplaibmppaa
namespace Go.Proofs.Ytedneplaibmppaa
open Go.Rx Go.RowKit
theorem FitR.congr {h h':Hp} {r:Value} {m m':Mac} (e:m.form = m'.form) (k:FitR h h' r m):FitR h h' r m':=by
 unfold FitR at k ⊢
 rwa [e] at k
end Go.Proofs.Ytedneplaibmppaa
namespace Go.Proofs.Ytedneplaibmppaa
open Go.Rx Go.RowKit
theorem foldN_round {f p n:Nat} (hp:0 < p):foldN (f + p) f n = if n < f + p then n else f + (n - f) % p:=by
 unfold foldN
 rw [Nat.add_sub_cancel_left]
 by_cases h:n < f
 ·rw [if_pos h,if_pos (by omega)]
 ·rw [if_neg h]
  by_cases h2:n < f + p
  ·rw [if_pos h2,Nat.mod_eq_of_lt (by omega)]; omega
  ·rw [if_neg h2]
theorem gl_app1 {l r:List Int} {i:Nat} (h:i < l.length):gl (l ++ r) i = gl l i:=by
 unfold gl
 rw [List.getD_eq_getElem?_getD,List.getD_eq_getElem?_getD,List.getElem?_append_left h]
theorem gl_app2 {l r:List Int} {i:Nat} (h:l.length≤i):gl (l ++ r) i = gl r (i - l.length):=by
 unfold gl
 rw [List.getD_eq_getElem?_getD,List.getD_eq_getElem?_getD,List.getElem?_append_right h]
attribute [local irreducible] E idxN cellAt cellsAt storeAt callable helems hmoved lookIn findKey keyOk hentries Hp.at Hp.set Hp.lay arBits hupdated setAt CallP YieldP BoolOf IsWrap Rnd LoopP AppP CutP Int.tmod Int.tdiv Int.fdiv
section
variable [Unknowns]
attribute [local irreducible] ResP sameAt
theorem round86_spec (n f p:Nat) (h:Hp) (hp:0 < p) (hn:n≤1000000) (hf:f≤1000000) (hpb:p≤1000000):CallP E 86 [int n,int f,int p] h (fun r h'=>r = int (foldN (f + p) f n:Nat)∧h' = h):=by
 have ef:=foldN_round (f:=f) (n:=n) hp
 have ed:=tmod_nat (n - f) p
 have hml:=Nat.mod_lt (n - f) hp
 have hexq:∃ q,(n - f) % p = q:=⟨_,rfl⟩
 obtain ⟨q,eq⟩:=hexq
 rw [eq] at ef ed hml
 refine enter86 (by simp) ?_
 conv=>whnf
 refine SeqP.go ?_
 conv=>whnf
 refine SeqP.go ?_
 conv=>whnf
 refine SeqP.go ?_
 conv=>whnf
 refine ⟨((f + p:Nat):Int),wie (by omega) (by omega),?_⟩
 conv=>whnf
 refine cmpB (fun q1=>?_) (fun q1=>?_)
 ·conv=>whnf
  repeat (refine SeqP.go ?_; conv=>whnf)
  rw [ef,if_pos (by omega)]
  exact ⟨rfl,rfl⟩
 rw [if_neg (by omega)] at ef
 conv=>whnf
 repeat (refine SeqP.go ?_; conv=>whnf)
 refine ⟨((n - f:Nat):Int),wie (by omega) (by omega),?_⟩
 conv=>whnf
 refine ⟨by omega,?_⟩
 conv=>whnf
 rw [ed]
 refine ⟨((f + q:Nat):Int),wie (by omega) (by omega),?_⟩
 conv=>whnf
 repeat (refine SeqP.go ?_; conv=>whnf)
 rw [ef]
 exact ⟨rfl,rfl⟩
end
end Go.Proofs.Ytedneplaibmppaa
