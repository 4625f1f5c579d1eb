/- Contracts of the functions that PEEE comes to. -/
import Derived.Test.YtedneplaibmppaaPEED
import Derived.Test.YtedneplaibmppaaAAwake
import Derived.Test.YtedneplaibmppaaWx19
import Derived.Test.YtedneplaibmppaaWx22
import Derived.Test.YtedneplaibmppaaWx23
set_option maxRecDepth 100000
set_option maxHeartbeats 2000000
set_option linter.unusedVariables false
set_option linter.unusedSectionVars false
set_option linter.unusedSimpArgs false
namespace Go.Proofs.Ytedneplaibmppaa
open Go.Rx Go.RowKit
theorem mac_eq {A B:MacI} (hb:A.base = B.base) (ho:A.out.length = B.out.length) (hn:A.next.length = B.next.length) (hno:A.next.length = A.out.length) (h:∀ k,k < A.out.length→gl A.out k = gl B.out k∧rw_ A.next k = rw_ B.next k):A = B:=by
 obtain ⟨b1,o1,n1⟩:=A
 obtain ⟨b2,o2,n2⟩:=B
 dsimp only at *
 have e1:o1 = o2:=list_gl ho fun j hj=>(h j hj).1
 have e2:n1 = n2:=List.ext_getElem hn fun i h1 h2=>by
  have:=(h i (by omega)).2
  rwa [rw_at h1,rw_at h2] at this
 rw [hb,e1,e2]
attribute [local irreducible] E idxN cellAt cellsAt storeAt callable helems hmoved lookIn findKey keyOk hentries Hp.at Hp.set Hp.lay arBits hupdated setAt CallP YieldP BoolOf IsWrap Rnd LoopP AppP CutP Int.tmod Int.tdiv Int.fdiv
section
variable [Unknowns]
attribute [local irreducible] sameAt
theorem ints_spec (va vb:Value) (a b:List Int) (h:Hp) (ha:View h va a) (hb:View h vb b) (hla:a.length≤1000000):CallP E 61 [va,vb] h (fun r h'=>(∃ x,r = .bool x∧BoolOf x (a = b))∧h' = h):=by
 obtain ⟨aa,ca,rfl⟩:=ha.known
 obtain ⟨ab,cb,rfl⟩:=hb.known
 refine enter61 (by simp) ?_
 conv=>whnf
 repeat (refine SeqP.go ?_; conv=>whnf)
 refine cmpB (fun hne=>?_) (fun heq=>?_)
 ·conv=>whnf
  repeat (refine SeqP.go ?_; conv=>whnf)
  exact ⟨⟨false,rfl,bo_no fun e=>hne (by rw [e])⟩,rfl⟩
 have hlen:a.length = b.length:=by omega
 conv=>whnf
 repeat (refine SeqP.go ?_; conv=>whnf)
 refine loop_inv (α:=Nat) (fun i=>[(5,int i),(0,.slice aa a.length ca),(1,.slice ab b.length cb)]) (fun _=>h) (fun i=>i≤a.length∧∀ j,j < i→gl a j = gl b j) (fun i=>a.length - i) 0 ⟨Nat.zero_le _,fun j hj=>absurd hj (Nat.not_lt_zero _)⟩ ⟨rfl,rfl,rfl,trivial⟩ (Hp.Le.refl _) ?_
 rintro i φ1 ⟨hi,hsame⟩
 conv=>whnf
 repeat (refine SeqP.go ?_; conv=>whnf)
 refine cmpB (fun hlt=>?_) (fun hlt=>?_)
 rotate_left
 ·conv=>whnf
  repeat (refine SeqP.go ?_; conv=>whnf)
  have:i = a.length:=by omega
  subst this
  exact ⟨⟨true,rfl,bo_yes (list_gl hlen hsame)⟩,rfl⟩
 have hi':i < a.length:=by omega
 have hca:=View.cellg ha hi'
 have hcb:=View.cellg hb (i:=i) (by omega)
 obtain ⟨r1,o1,sp1,ea,hsp1,-,hc1⟩:=hca
 obtain ⟨r2,o2,sp2,eb,hsp2,-,hc2⟩:=hcb
 subst ea
 subst eb
 conv=>whnf
 repeat (refine SeqP.go ?_; conv=>whnf)
 refine ⟨hsp1,⟨by omega,by omega⟩,?_⟩
 conv=>whnf
 refine ⟨_,hc1,?_⟩
 conv=>whnf
 refine ⟨hsp2,⟨by omega,by omega⟩,?_⟩
 conv=>whnf
 refine ⟨_,hc2,?_⟩
 conv=>whnf
 refine cmpB (fun hne=>?_) (fun he=>?_)
 ·conv=>whnf
  repeat (refine SeqP.go ?_; conv=>whnf)
  exact ⟨⟨false,rfl,bo_no fun e=>hne (by rw [e])⟩,rfl⟩
 conv=>whnf
 repeat (refine SeqP.go ?_; conv=>whnf)
 refine ⟨_,wid (by omega),?_⟩
 conv=>whnf
 exact Rnd.mk (i + 1) ⟨by omega,fun j hj=>by
  by_cases e:j = i
  ·subst e; omega
  ·exact hsame j (by omega)⟩ (by show a.length - (i + 1) < a.length - i; omega) ⟨rfl,rfl,rfl,trivial⟩ (Hp.Le.refl _) rfl
theorem REqual_spec (va vb:Value) (A B:MacI) (h:Hp) (ha:MV h va A) (hb:MV h vb B) (hn:A.next.length = A.out.length) (hl:A.out.length≤1000000) (hr:∀ s,(rw_ A.next s).length≤1000000):CallP E 41 [va,vb] h (fun r h'=>(∃ x,r = .bool x∧BoolOf x (A = B))∧Grows h h'):=by
 obtain ⟨bxa,rfl,hxa⟩:=ha.box
 obtain ⟨bxb,rfl,hxb⟩:=hb.box
 obtain ⟨aoa,ana,coa,cna,hcxa⟩:=hxa.cx
 obtain ⟨aob,anb,cob,cnb,hcxb⟩:=hxb.cx
 refine enter41 (by simp) ?_
 conv=>whnf
 refine SeqP.cut (α:=Hp) (fun _=>[(4,.bool false),(3,ptr (h.next + 1) 0),(2,ptr h.next 0)]) (fun x H=>x = H∧Grows h H∧H.at h.next = some (.row 26 true bxa)∧H.at (h.next + 1) = some (.row 26 true bxb)) ?_ ?_
 ·conv=>whnf
  have n1:(h.lay (.row 26 true bxa)).next = h.next + 1:=Hp.next_lay _ _
  exact ⟨_,⟨rfl,congrArg (fun k=>ptr k 0) n1,rfl,trivial⟩,⟨rfl,(Grows.lay _ _).then_lay _,Hp.at_lay_old _ (Hp.at_lay_self _ _),at_nx2 n1 (Hp.at_lay_self _ _)⟩,rfl⟩
 rintro H φ1 _ ⟨rfl,gH,aX,aY⟩
 have kx:=hcxa H h.next 26 gH aX
 have ky:=hcxb H (h.next + 1) 26 gH aY
 have x0:=kx.c0
 have x1:=kx.c1
 have x2:=kx.c2
 have y0:=ky.c0
 have y1:=ky.c1
 have y2:=ky.c2
 have no:¬ A = B→∀ v:Value,v = .bool false→(∃ x,v = .bool x∧BoolOf x (A = B))∧Grows h H:=fun k v e=>⟨⟨false,e,bo_no k⟩,gH⟩
 conv=>whnf
 repeat (refine SeqP.go ?_; conv=>whnf)
 refine ⟨_,x0,?_⟩
 conv=>whnf
 refine ⟨_,y0,?_⟩
 conv=>whnf
 refine cmpB (fun hne=>?_) (fun heq=>?_)
 ·conv=>whnf
  repeat (refine SeqP.go ?_; conv=>whnf)
  exact no (fun e=>hne (by rw [e])) _ rfl
 conv=>whnf
 refine ⟨_,x1,?_⟩
 conv=>whnf
 refine ⟨_,y1,?_⟩
 conv=>whnf
 refine cmpB (fun hne=>?_) (fun heq1=>?_)
 ·conv=>whnf
  repeat (refine SeqP.go ?_; conv=>whnf)
  exact no (fun e=>hne (by rw [e])) _ rfl
 conv=>whnf
 refine ⟨_,x2,?_⟩
 conv=>whnf
 refine ⟨_,y2,?_⟩
 conv=>whnf
 refine cmpB (fun hne=>?_) (fun heq2=>?_)
 ·conv=>whnf
  repeat (refine SeqP.go ?_; conv=>whnf)
  exact no (fun e=>hne (by rw [e])) _ rfl
 have heq0:A.base = B.base:=by omega
 have hol:A.out.length = B.out.length:=by omega
 have hnl:A.next.length = B.next.length:=by omega
 conv=>whnf
 repeat (refine SeqP.go ?_; conv=>whnf)
 refine loop_inv (α:=Nat) (fun i=>[(5,int i),(4,.bool false),(3,ptr (h.next + 1) 0),(2,ptr h.next 0)]) (fun _=>H) (fun i=>i≤A.out.length∧∀ j,j < i→gl A.out j = gl B.out j∧rw_ A.next j = rw_ B.next j) (fun i=>A.out.length - i) 0 ⟨Nat.zero_le _,fun j hj=>absurd hj (Nat.not_lt_zero _)⟩ ⟨rfl,rfl,rfl,rfl,trivial⟩ (Hp.Le.refl _) ?_
 rintro i φ2 ⟨hi,hsame⟩
 conv=>whnf
 repeat (refine SeqP.go ?_; conv=>whnf)
 refine ⟨_,x1,?_⟩
 conv=>whnf
 refine cmpB (fun hlt=>?_) (fun hlt=>?_)
 rotate_left
 ·conv=>whnf
  repeat (refine SeqP.go ?_; conv=>whnf)
  have:i = A.out.length:=by omega
  subst this
  exact ⟨⟨true,rfl,bo_yes (mac_eq heq0 hol hnl hn hsame)⟩,gH⟩
 have hi':i < A.out.length:=by omega
 have hca:=kx.outAt hi'
 have hcb:=ky.outAt (i:=i) (by omega)
 have hra:=kx.rowAt (i:=i) (by omega)
 have hrb:=ky.rowAt (i:=i) (by omega)
 obtain ⟨r1,o1,sp1,ea,hsp1,hc1⟩:=hca
 obtain ⟨r2,o2,sp2,eb,hsp2,hc2⟩:=hcb
 obtain ⟨r3,o3,sp3,a3,c3,e3,hsp3,hc3,hv3⟩:=hra
 obtain ⟨r4,o4,sp4,a4,c4,e4,hsp4,hc4,hv4⟩:=hrb
 subst ea
 subst eb
 subst e3
 subst e4
 conv=>whnf
 repeat (refine SeqP.go ?_; conv=>whnf)
 refine ⟨_,x1,?_⟩
 conv=>whnf
 refine ⟨hsp1,⟨by omega,by omega⟩,?_⟩
 conv=>whnf
 refine ⟨_,hc1,?_⟩
 conv=>whnf
 refine ⟨_,y1,?_⟩
 conv=>whnf
 refine ⟨hsp2,⟨by omega,by omega⟩,?_⟩
 conv=>whnf
 refine ⟨_,hc2,?_⟩
 conv=>whnf
 refine cmpB (fun hne=>?_) (fun he1=>?_)
 ·conv=>whnf
  repeat (refine SeqP.go ?_; conv=>whnf)
  exact no (fun e=>hne (by rw [e])) _ rfl
 conv=>whnf
 refine ⟨_,x2,?_⟩
 conv=>whnf
 refine ⟨hsp3,⟨by omega,by omega⟩,?_⟩
 conv=>whnf
 refine ⟨_,hc3,?_⟩
 conv=>whnf
 refine ⟨_,y2,?_⟩
 conv=>whnf
 refine ⟨hsp4,⟨by omega,by omega⟩,?_⟩
 conv=>whnf
 refine ⟨_,hc4,?_⟩
 conv=>whnf
 refine cmpB (fun hne=>?_) (fun he2=>?_)
 ·conv=>whnf
  repeat (refine SeqP.go ?_; conv=>whnf)
  exact no (fun e=>hne (by rw [e])) _ rfl
 have hrl:(rw_ A.next i).length = (rw_ B.next i).length:=by omega
 have hrA:=hr i
 conv=>whnf
 repeat (refine SeqP.go ?_; conv=>whnf)
 refine loop_inv (α:=Nat) (fun j=>[(6,int j),(5,int i),(4,.bool false),(3,ptr (h.next + 1) 0),(2,ptr h.next 0)]) (fun _=>H) (fun j=>j≤(rw_ A.next i).length∧∀ k,k < j→gl (rw_ A.next i) k = gl (rw_ B.next i) k) (fun j=>(rw_ A.next i).length - j) 0 ⟨Nat.zero_le _,fun j hj=>absurd hj (Nat.not_lt_zero _)⟩ ⟨rfl,rfl,rfl,rfl,rfl,trivial⟩ (Hp.Le.refl _) ?_
 rintro j φ3 ⟨hj,hsame2⟩
 conv=>whnf
 repeat (refine SeqP.go ?_; conv=>whnf)
 refine ⟨_,x2,?_⟩
 conv=>whnf
 refine ⟨hsp3,⟨by omega,by omega⟩,?_⟩
 conv=>whnf
 refine ⟨_,hc3,?_⟩
 conv=>whnf
 refine cmpB (fun hlt2=>?_) (fun hlt2=>?_)
 rotate_left
 ·conv=>whnf
  repeat (refine SeqP.go ?_; conv=>whnf)
  refine ⟨_,wid (by omega),?_⟩
  conv=>whnf
  have:j = (rw_ A.next i).length:=by omega
  subst this
  exact Rnd.mk (i + 1) ⟨by omega,fun k hk=>by
   by_cases e:k = i
   ·subst e; exact ⟨by omega,list_gl hrl hsame2⟩
   ·exact hsame k (by omega)⟩ (by show A.out.length - (i + 1) < A.out.length - i; omega) ⟨rfl,rfl,rfl,rfl,trivial⟩ (Hp.Le.refl _) rfl
 have hj':j < (rw_ A.next i).length:=by omega
 have hj3:=View.cellg hv3 hj'
 have hj4:=View.cellg hv4 (i:=j) (by omega)
 obtain ⟨r5,o5,sp5,e5,hsp5,-,hc5⟩:=hj3
 obtain ⟨r6,o6,sp6,e6,hsp6,-,hc6⟩:=hj4
 subst e5
 subst e6
 conv=>whnf
 repeat (refine SeqP.go ?_; conv=>whnf)
 refine ⟨_,x2,?_⟩
 conv=>whnf
 refine ⟨hsp3,⟨by omega,by omega⟩,?_⟩
 conv=>whnf
 refine ⟨_,hc3,?_⟩
 conv=>whnf
 refine ⟨hsp5,⟨by omega,by omega⟩,?_⟩
 conv=>whnf
 refine ⟨_,hc5,?_⟩
 conv=>whnf
 refine ⟨_,y2,?_⟩
 conv=>whnf
 refine ⟨hsp4,⟨by omega,by omega⟩,?_⟩
 conv=>whnf
 refine ⟨_,hc4,?_⟩
 conv=>whnf
 refine ⟨hsp6,⟨by omega,by omega⟩,?_⟩
 conv=>whnf
 refine ⟨_,hc6,?_⟩
 conv=>whnf
 refine cmpB (fun hne=>?_) (fun he3=>?_)
 ·conv=>whnf
  repeat (refine SeqP.go ?_; conv=>whnf)
  exact no (fun e=>hne (by rw [e])) _ rfl
 conv=>whnf
 repeat (refine SeqP.go ?_; conv=>whnf)
 refine ⟨_,wid (by omega),?_⟩
 conv=>whnf
 exact Rnd.mk (j + 1) ⟨by omega,fun k hk=>by
  by_cases e:k = j
  ·subst e; omega
  ·exact hsame2 k (by omega)⟩ (by show (rw_ A.next i).length - (j + 1) < (rw_ A.next i).length - j; omega) ⟨rfl,rfl,rfl,rfl,rfl,trivial⟩ (Hp.Le.refl _) rfl
end
end Go.Proofs.Ytedneplaibmppaa
namespace Go.Proofs.Ytedneplaibmppaa
open Go.Rx Go.RowKit
def EverR (m:Mac) (out:Int) (r:Value):Prop:=(¬ (0≤out∧out≤9)→r = .tuple ⟨[int 0,.bool false,int 1]⟩)∧(0≤out∧out≤9→∃ b,r = .tuple ⟨[int (max (gl (m.evK out m.out.length) 0) 0),.bool b,int 0]⟩∧BoolOf b (0≤gl (m.evK out m.out.length) 0))
attribute [local irreducible] E idxN cellAt cellsAt storeAt callable helems hmoved lookIn findKey keyOk hentries Hp.at Hp.set Hp.lay arBits hupdated setAt CallP YieldP BoolOf IsWrap Rnd LoopP AppP CutP Int.tmod Int.tdiv Int.fdiv
section
variable [Unknowns]
attribute [local irreducible] sameAt
theorem Ever_spec (v:Value) (m:Mac) (out:Int) (h:Hp) (hv:MV h v m.i) (hm:OkS m):CallP E 35 [v,int out] h (fun r h'=>EverR m out r∧Grows h h'):=by
 obtain ⟨bx,rfl,hbx⟩:=hv.box
 have hL:=hm.lens
 refine enter35 (by simp) ?_
 conv=>whnf
 refine SeqP.cut (α:=Hp) (fun _=>[(2,ptr h.next 0),(1,int out)]) (fun x H=>x = H∧Grows h H∧H.at h.next = some (.row 25 true bx)) ?_ ?_
 ·conv=>whnf
  exact ⟨_,⟨rfl,rfl,trivial⟩,⟨rfl,Grows.lay _ _,Hp.at_lay_self _ _⟩,rfl⟩
 rintro H φ1 _ ⟨rfl,gH,aX⟩
 conv=>whnf
 repeat (refine SeqP.go ?_; conv=>whnf)
 refine ⟨_,all_cells aX hbx.len,?_⟩
 conv=>whnf
 refine CallP.mono (Check_spec _ m.i _ (Bx.mv (hbx.ext gH)) hL.1 hL.2.1 hL.2.2) ?_
 rintro r H2 ⟨⟨e,rfl,he,-⟩,g2⟩
 have he:=he hm.ck
 subst he
 have aX2:=g2.at_ _ _ aX
 have gh2:=gH.trans g2
 conv=>whnf
 repeat (refine SeqP.go ?_; conv=>whnf)
 refine cmpF (by omega) ?_
 conv=>whnf
 repeat (refine SeqP.go ?_; conv=>whnf)
 refine CallP.mono (isOut_spec out _) ?_
 rintro r _ ⟨⟨b,rfl,hb⟩,rfl⟩
 cases b with
 | false =>
  have hb:=hb.f
  conv=>whnf
  repeat (refine SeqP.go ?_; conv=>whnf)
  exact ⟨⟨fun _=>rfl,fun k=>absurd k hb⟩,gh2⟩
 | true =>
  have hb:=hb.t
  conv=>whnf
  repeat (refine SeqP.go ?_; conv=>whnf)
  refine ⟨_,all_cells aX2 hbx.len,?_⟩
  conv=>whnf
  refine CallP.mono (ever_spec _ m out _ (Bx.mv (hbx.ext gh2)) hm) ?_
  rintro r H3 ⟨⟨b,rfl,hb2⟩,g3⟩
  conv=>whnf
  repeat (refine SeqP.go ?_; conv=>whnf)
  exact ⟨⟨fun k=>absurd hb k,fun _=>⟨b,rfl,hb2⟩⟩,gh2.trans g3⟩
end
end Go.Proofs.Ytedneplaibmppaa
namespace Go.Proofs.Ytedneplaibmppaa
open Go.Rx Go.RowKit
def tm:Mac:=⟨2,[0,1],[[0,1],[1,0]]⟩
def rd:Mac:=⟨2,[0,0,1],[[1,2],[1,1],[2,2]]⟩
theorem tm_s:OkS tm where
 ok:=⟨by decide,by decide,rfl,by decide,fun s d hs hd=>(show ∀ s < 2,∀ d < 2,tm.nx s d < 2 by decide) s hs d hd⟩
 zer:=by unfold Mac.Zer; decide
 ck:=⟨by decide,by decide,by decide,by decide,by decide,rfl,fun s hs=>by
  have:s = 0∨s = 1:=by have:s < 2:=hs; omega
  rcases this with rfl | rfl
  ·exact ⟨by decide,by decide,rfl⟩
  ·exact ⟨by decide,by decide,rfl⟩⟩
theorem rd_s:OkS rd where
 ok:=⟨by decide,by decide,rfl,by decide,fun s d hs hd=>(show ∀ s < 3,∀ d < 2,rd.nx s d < 3 by decide) s hs d hd⟩
 zer:=by unfold Mac.Zer; decide
 ck:=⟨by decide,by decide,by decide,by decide,by decide,rfl,fun s hs=>by
  have:s = 0∨s = 1∨s = 2:=by have:s < 3:=hs; omega
  rcases this with rfl | rfl | rfl
  ·exact ⟨by decide,by decide,rfl⟩
  ·exact ⟨by decide,by decide,rfl⟩
  ·exact ⟨by decide,by decide,rfl⟩⟩
theorem tm_form:tm.form = tm:=by
 unfold Mac.form built
 rw [show tm.cl 0 = 0 from rfl,bfs_eq (L:=[0,1]) (.step (s:=0) rfl (.step (s:=1) rfl (.done (Nat.le_refl 2))))]
 rfl
theorem rd_form:rd.form = rd:=by
 unfold Mac.form built
 rw [show rd.cl 0 = 0 from rfl,bfs_eq (L:=[0,1,2]) (.step (s:=0) rfl (.step (s:=1) rfl (.step (s:=2) rfl (.done (Nat.le_refl 3)))))]
 rfl
theorem tm_every:(tm.every 2 0).form = tm:=by
 have h1:=Mac.every_ok tm_s.ok 2 0
 rw [Mac.form_uniq h1.1 tm_s.ok rfl ?_,tm_form]
 rw [Mac.alike_at h1.1 tm_s.ok (by decide) rfl (Mac.every_zer tm_s.ok tm_s.b2 tm_s.zer 2 0) tm_s.zer h1.1.n1 tm_s.ok.n1]
 intro n
 rw [Mac.every_at tm_s.ok tm_s.b2 tm_s.zer]
 have:=Mac.at_step tm_s.ok tm_s.b2 tm_s.zer (s:=0) (d:=0) (n:=n) (by decide) (by decide)
 rw [Nat.zero_add] at this
 exact this
theorem ring_rd:ringM 2 [0,1] 0 = rd:=by
 unfold ringM built
 rw [show ((((foldN [(0:Int),1].length 0 1:Nat):Int)),(0:Int)) = ((1:Int),(0:Int)) from rfl,bfs_eq (L:=[((1:Int),(0:Int)),(0,0),(0,1)]) (.step (s:=((1:Int),(0:Int))) rfl (.step (s:=((0:Int),(0:Int))) rfl (.step (s:=((0:Int),(1:Int))) rfl (.done (Nat.le_refl 3)))))]
 rfl
theorem tm_seq:seqL tm 8 = [0,1,1,0,1,0,0,1]:=by kernel_rfl
theorem tm_ever:gl (tm.evK 1 tm.out.length) 0 = 1:=by kernel_rfl
theorem rd_sink:∀ w s,(s = 1∨s = 2)→Mac.Wd 2 w→rd.run s w = s
 | [],s,_,_=>rfl
 | d :: w,s,hs,hw=>by
  have hd:d < 2:=hw d (by simp)
  have hw':Mac.Wd 2 w:=fun x hx=>hw x (by simp [hx])
  have e:rd.nx s d = s:=by
   have hd':d = 0∨d = 1:=by omega
   rcases hs with rfl | rfl <;> rcases hd' with rfl | rfl <;> rfl
  show rd.run (rd.nx s d) w = s
  rw [e]
  exact rd_sink w s hs hw'
theorem rd_at (n:Nat):rd.at_ 0 n = ((n % 2:Nat):Int):=by
 by_cases h:n = 0
 ·subst h; rfl
 ·show rd.o (rd.run 0 (dg 2 n)) = _
  rw [dg_pos (Nat.le_refl 2) h]
  show rd.o (rd.run (rd.nx 0 (n % 2)) (dg 2 (n / 2))) = _
  have hm:n % 2 = 0∨n % 2 = 1:=by omega
  rcases hm with e | e
  ·rw [e,show rd.nx 0 0 = 1 from rfl,rd_sink _ _ (.inl rfl) (dg_wd (Nat.le_refl 2) _)]; rfl
  ·rw [e,show rd.nx 0 1 = 2 from rfl,rd_sink _ _ (.inr rfl) (dg_wd (Nat.le_refl 2) _)]; rfl
theorem rd_find {r:Value} (h:FindR rd r):r = .tuple ⟨[int 0,int 2,.bool true,int 0]⟩:=by
 have h2:RoundP rd 60 2:=fun n=>by rw [rd_at,rd_at,show (n + 60) % 2 = (n + 60 + 2) % 2 by omega]
 have h1:¬ RoundP rd 60 1:=fun k=>by
  have:=k 0
  rw [rd_at,rd_at] at this
  revert this
  decide
 rcases h with ⟨p,hp1,hp30,hp,hmin,e⟩ | ⟨hno,_⟩
 ·have:p = 2:=by
   by_cases h3:p = 2
   ·exact h3
   ·by_cases h4:p = 1
    ·subst h4; exact absurd hp h1
    ·exact absurd h2 (hmin 2 (by omega) (by omega))
  subst this
  rw [e,show startF rd 2 60 = 0 from by kernel_rfl]
  rfl
 ·exact absurd h2 (hno 2 (by omega) (by omega))
end Go.Proofs.Ytedneplaibmppaa
namespace Go.Proofs.Ytedneplaibmppaa
open Go.Rx Go.RowKit
theorem lens_of {m:Mac} (h:OkS m):Lens m.i:=by
 have:=h.lens
 exact ⟨by omega,by omega,fun s=>by have:=this.2.2 s; omega⟩
theorem cut_tm:cutI tm.i = tm.i:=rfl
theorem cut_rd:cutI rd.i = rd.i:=rfl
theorem MV.bx {h:Hp} {cs:List Value} {M:MacI} (k:MV h (.agg ⟨cs⟩) M):Bx h cs M:=by
 obtain ⟨bx,e,hb⟩:=k.box
 injection e with e
 injection e with e
 subst e
 exact hb
theorem rd_mv {H:Hp} {r1 r2 r3 r4 r5:Nat} (h1:H.at r1 = some (.row 3 true [int 0,int 0,int 1])) (h2:H.at r2 = some (.row 3 true [int 1,int 2])) (h3:H.at r3 = some (.row 3 true [int 1,int 1])) (h4:H.at r4 = some (.row 3 true [int 2,int 2])) (h5:H.at r5 = some (.row 22 true [slc r2 0 2 2,slc r3 0 2 2,slc r4 0 2 2])):MV H (.agg ⟨[int 2,slc r1 0 3 3,slc r5 0 3 3]⟩) rd.i:=by
 refine OwnM.mv (h0:=⟨0,H.raw⟩) ⟨_,_,[slc r2 0 2 2,slc r3 0 2 2,slc r4 0 2 2],rfl,⟨rfl,.inr ⟨_,rfl,Nat.zero_le _,true,h1⟩⟩,⟨rfl,.inr ⟨_,rfl,Nat.zero_le _,true,h5⟩⟩,rfl,fun k u l e1 e2=>?_⟩
 match k,e1,e2 with
 | 0,e1,e2=>cases e1; cases e2; exact .inr ⟨_,rfl,Nat.zero_le _,true,h2⟩
 | 1,e1,e2=>cases e1; cases e2; exact .inr ⟨_,rfl,Nat.zero_le _,true,h3⟩
 | 2,e1,e2=>cases e1; cases e2; exact .inr ⟨_,rfl,Nat.zero_le _,true,h4⟩
 | k + 3,e1,e2=>simp at e1
attribute [local irreducible] E idxN cellAt cellsAt storeAt callable helems hmoved lookIn findKey keyOk hentries Hp.at Hp.set Hp.lay arBits hupdated setAt CallP YieldP BoolOf IsWrap Rnd LoopP AppP CutP Int.tmod Int.tdiv Int.fdiv
section
variable [Unknowns]
attribute [local irreducible] sameAt
theorem awake_spec (h:Hp):CallP E 21 [] h (fun r h'=>r = .bool true∧Grows h h'):=by
 refine enter21 (by simp) ?_
 conv=>whnf
 refine SeqP.go ?_
 conv=>whnf
 refine SeqP.cut (α:=Nat×List Value×Hp) (fun s=>[(1,ptr s.1 0)]) (fun s H=>s.2.2 = H∧Grows h H∧H.at s.1 = some (.row 25 true s.2.1)∧Bx H s.2.1 tm.i) ?_ ?_
 ·conv=>whnf
  refine CallP.mono (Morse_spec _) ?_
  rintro w H ⟨hw,g⟩
  have hk:=hw.known
  obtain ⟨a,b,rfl⟩:=hk
  conv=>whnf
  refine ⟨rfl,_,storeAt_all (vs:=[int 2,.slice a _ _,.slice b _ _]) rfl rfl rfl,?_⟩
  conv=>whnf
  refine ⟨(H.next,_,_),⟨rfl,trivial⟩,⟨rfl,g.then_lay _,Hp.at_lay_self _ _,?_⟩,rfl⟩
  exact (hw.mv.ext (Grows.lay _ _)).bx
 rintro ⟨N1,bx,H1⟩ φ1 _ ⟨rfl,g1,a1,b1⟩
 dsimp only at g1 a1 b1 ⊢
 conv=>whnf
 refine SeqP.cut (α:=Nat×Option Addr×Hp) (fun s=>[(1,ptr N1 0),(2,.slice s.2.1 8 8),(3,int 0)]) (fun s H=>s.2.2 = H∧Grows H1 H∧View H (.slice s.2.1 8 8) [0,1,1,0,1,0,0,1]) ?_ ?_
 ·conv=>whnf
  refine ⟨_,all_cells a1 b1.len,?_⟩
  conv=>whnf
  refine CallP.mono (First_spec _ tm 8 _ (Bx.mv b1) tm_s) ?_
  rintro r H2 ⟨⟨-,hw0⟩,g2⟩
  have hw0:=hw0 (by omega) (by omega)
  obtain ⟨w,rfl,hw⟩:=hw0
  have e8:seqL tm (8:Int).toNat = [0,1,1,0,1,0,0,1]:=tm_seq
  rw [e8] at hw
  have hws:=hw.c.slice
  obtain ⟨aw,rfl,-⟩:=hws
  conv=>whnf
  exact ⟨(0,aw,_),⟨rfl,rfl,rfl,trivial⟩,⟨rfl,g2,hw.view⟩,rfl⟩
 rintro ⟨x2,aw,H2⟩ φ2 _ ⟨rfl,g2,v2⟩
 dsimp only at g2 v2 ⊢
 conv=>whnf
 refine SeqP.cut (α:=Nat×List Value×Hp) (fun s=>[(1,ptr N1 0),(2,.slice aw 8 8),(3,int 0),(4,ptr s.1 0),(5,int 0)]) (fun s H=>s.2.2 = H∧Grows H2 H∧H.at s.1 = some (.row 25 true s.2.1)∧Bx H s.2.1 rd.i) ?_ ?_
 ·conv=>whnf
  have gl1:Grows H2 (H2.lay (.row 3 true [int 0,int 1])):=Grows.lay _ _
  have vb:View (H2.lay (.row 3 true [int 0,int 1])) (slc H2.next 0 2 2) [0,1]:=row_view (ls:=[0,1]) (Hp.at_lay_self _ _) rfl
  have vn:View (H2.lay (.row 3 true [int 0,int 1])) nilS []:=Built.view (h0:=H2) (e:=3) (.inl ⟨rfl,rfl⟩)
  refine CallP.mono (Round_spec 2 _ _ [] [0,1] _ vn vb (by simp) (by simp)) ?_
  rintro r H3 ⟨⟨-,hr⟩,g3⟩
  have hnb:¬ BadR 2 ([]:List Int) [0,1]:=by unfold BadR; simp
  have hr:=hr hnb
  obtain ⟨u,e,rfl,hu,-⟩:=hr
  have er:ringM (2:Int).toNat ([] ++ [0,1]) ([]:List Int).length = rd:=ring_rd
  rw [er,rd_form] at hu
  have hu2:=hu (by decide)
  obtain ⟨rfl,hu3⟩:=hu2
  have hk:=hu3.known
  obtain ⟨a,b,rfl⟩:=hk
  conv=>whnf
  refine ⟨rfl,_,storeAt_all (vs:=[int 2,.slice a _ _,.slice b _ _]) rfl rfl rfl,?_⟩
  conv=>whnf
  exact ⟨(H3.next,_,_),⟨rfl,rfl,rfl,rfl,rfl,trivial⟩,⟨rfl,(gl1.trans g3).then_lay _,Hp.at_lay_self _ _,(hu3.mv.ext (Grows.lay _ _)).bx⟩,rfl⟩
 rintro ⟨N4,by4,H3⟩ φ3 _ ⟨rfl,g3,a4,b4⟩
 dsimp only at g3 a4 b4 ⊢
 have g13:=g2.trans g3
 have a1:=g13.at_ _ _ a1
 have b1:=b1.ext g13
 have v2:=v2.ext g3
 have g1:=g1.trans g13
 clear g2 g3 g13
 conv=>whnf
 refine SeqP.cut (α:=Nat×List Value×Hp) (fun s=>[(1,ptr N1 0),(2,.slice aw 8 8),(3,int 0),(4,ptr N4 0),(5,int 0),(6,ptr s.1 0),(7,int 0)]) (fun s H=>s.2.2 = H∧Grows H3 H∧H.at s.1 = some (.row 25 true s.2.1)∧Bx H s.2.1 tm.i) ?_ ?_
 ·conv=>whnf
  refine ⟨_,all_cells a1 b1.len,?_⟩
  conv=>whnf
  refine CallP.mono (Every_spec _ tm 2 0 _ (Bx.mv b1) tm_s) ?_
  rintro r H4 ⟨⟨-,hr⟩,g4⟩
  have hnb:¬ BadE 2 0:=by unfold BadE; omega
  have hr:=hr hnb
  obtain ⟨u,e,rfl,hu,-⟩:=hr
  have er:(tm.every (2:Int).toNat (0:Int).toNat).form = tm:=tm_every
  rw [er] at hu
  have hu2:=hu (by decide)
  obtain ⟨rfl,hu3⟩:=hu2
  have hk:=hu3.known
  obtain ⟨a,b,rfl⟩:=hk
  conv=>whnf
  refine ⟨rfl,_,storeAt_all (vs:=[int 2,.slice a _ _,.slice b _ _]) rfl rfl rfl,?_⟩
  conv=>whnf
  exact ⟨(H4.next,_,_),⟨rfl,rfl,rfl,rfl,rfl,rfl,rfl,trivial⟩,⟨rfl,g4.then_lay _,Hp.at_lay_self _ _,(hu3.mv.ext (Grows.lay _ _)).bx⟩,rfl⟩
 rintro ⟨N6,by6,H4⟩ φ4 _ ⟨rfl,g4,a6,b6⟩
 dsimp only at g4 a6 b6 ⊢
 have a1:=g4.at_ _ _ a1
 have b1:=b1.ext g4
 have a4:=g4.at_ _ _ a4
 have b4:=b4.ext g4
 have v2:=v2.ext g4
 have g1:=g1.trans g4
 clear g4
 conv=>whnf
 refine SeqP.cut (α:=Hp) (fun s=>[(1,ptr N1 0),(2,.slice aw 8 8),(3,int 0),(4,ptr N4 0),(5,int 0),(6,ptr N6 0),(7,int 0),(8,int 1),(9,.bool true),(10,int 0)]) (fun s H=>s = H∧Grows H4 H) ?_ ?_
 ·conv=>whnf
  refine ⟨_,all_cells a1 b1.len,?_⟩
  conv=>whnf
  refine CallP.mono (Ever_spec _ tm 1 _ (Bx.mv b1) tm_s) ?_
  rintro r H5 ⟨⟨-,hr⟩,g5⟩
  have hr:=hr (by omega)
  rw [tm_ever] at hr
  obtain ⟨b,rfl,hb⟩:=hr
  cases b with
  | false=>exact absurd (by omega) hb.f
  | true =>
   conv=>whnf
   exact ⟨_,⟨rfl,rfl,rfl,rfl,rfl,rfl,rfl,rfl,rfl,rfl,trivial⟩,⟨rfl,g5⟩,rfl⟩
 rintro H5 φ5 _ ⟨rfl,g5⟩
 have a1:=g5.at_ _ _ a1
 have b1:=b1.ext g5
 have a4:=g5.at_ _ _ a4
 have b4:=b4.ext g5
 have a6:=g5.at_ _ _ a6
 have b6:=b6.ext g5
 have v2:=v2.ext g5
 have g1:=g1.trans g5
 clear g5
 conv=>whnf
 refine SeqP.cut (α:=Hp) (fun s=>[(1,ptr N1 0),(2,.slice aw 8 8),(3,int 0),(4,ptr N4 0),(5,int 0),(6,ptr N6 0),(7,int 0),(8,int 1),(9,.bool true),(10,int 0),(11,int 0),(12,int 2),(13,.bool true),(14,int 0)]) (fun s H=>s = H∧Grows H5 H) ?_ ?_
 ·conv=>whnf
  refine ⟨_,all_cells a4 b4.len,?_⟩
  conv=>whnf
  refine CallP.mono (FindRound_spec _ rd _ (Bx.mv b4) rd_s) ?_
  rintro r H6 ⟨hr,g6⟩
  have hr:=rd_find hr
  subst hr
  conv=>whnf
  exact ⟨_,⟨rfl,rfl,rfl,rfl,rfl,rfl,rfl,rfl,rfl,rfl,rfl,rfl,rfl,rfl,trivial⟩,⟨rfl,g6⟩,rfl⟩
 rintro H6 φ6 _ ⟨rfl,g6⟩
 have a1:=g6.at_ _ _ a1
 have b1:=b1.ext g6
 have a4:=g6.at_ _ _ a4
 have b4:=b4.ext g6
 have a6:=g6.at_ _ _ a6
 have b6:=b6.ext g6
 have v2:=v2.ext g6
 have g1:=g1.trans g6
 clear g6
 conv=>whnf
 repeat (refine SeqP.go ?_; conv=>whnf)
 refine ⟨_,all_cells a1 b1.len,?_⟩
 conv=>whnf
 refine CallP.mono (own_spec _ tm.i _ (Bx.mv b1) (lens_of tm_s)) ?_
 rintro r H7 ⟨hw,g7⟩
 rw [cut_tm] at hw
 have hk:=hw.known
 obtain ⟨p1,q1,rfl⟩:=hk
 conv=>whnf
 refine CallP.mono (RMorse_spec _) ?_
 rintro r H8 ⟨hw2,g8⟩
 have hk:=hw2.known
 obtain ⟨p2,q2,rfl⟩:=hk
 conv=>whnf
 refine CallP.mono (REqual_spec _ _ tm.i tm.i _ (hw.mv.ext g8) hw2.mv rfl (by decide) tm_s.lens.2.2) ?_
 rintro _ H9 ⟨⟨x,rfl,hx⟩,g9⟩
 cases x with
 | false=>exact absurd rfl hx.f
 | true =>
  have g69:=(g7.trans g8).trans g9
  have a1:=g69.at_ _ _ a1
  have b1:=b1.ext g69
  have a4:=g69.at_ _ _ a4
  have b4:=b4.ext g69
  have a6:=g69.at_ _ _ a6
  have b6:=b6.ext g69
  have v2:=v2.ext g69
  have g1:=g1.trans g69
  clear g69 g7 g8 g9 hw hw2 hx
  conv=>whnf
  refine cmpT rfl ?_
  conv=>whnf
  have gl1:Grows H9 (H9.lay (.row 3 true [int 0,int 1,int 1,int 0,int 1,int 0,int 0,int 1])):=Grows.lay _ _
  have vb:View (H9.lay (.row 3 true [int 0,int 1,int 1,int 0,int 1,int 0,int 0,int 1])) (slc H9.next 0 8 8) [0,1,1,0,1,0,0,1]:=row_view (ls:=[0,1,1,0,1,0,0,1]) (Hp.at_lay_self _ _) rfl
  refine CallP.mono (ints_spec _ _ [0,1,1,0,1,0,0,1] [0,1,1,0,1,0,0,1] _ (v2.ext gl1) vb (by simp)) ?_
  rintro _ _ ⟨⟨x,rfl,hx⟩,rfl⟩
  cases x with
  | false=>exact absurd rfl hx.f
  | true =>
   conv=>whnf
   refine cmpT rfl ?_
   conv=>whnf
   have a4:=gl1.at_ _ _ a4
   have b4:=b4.ext gl1
   have a6:=gl1.at_ _ _ a6
   have b6:=b6.ext gl1
   have g1:=g1.trans gl1
   clear vb v2 hx gl1 a1 b1
   refine ⟨_,all_cells a4 b4.len,?_⟩
   conv=>whnf
   refine CallP.mono (own_spec _ rd.i _ (Bx.mv b4) (lens_of rd_s)) ?_
   rintro r H11 ⟨hw,g11⟩
   rw [cut_rd] at hw
   have hk:=hw.known
   obtain ⟨p1,q1,rfl⟩:=hk
   conv=>whnf
   have h1:=Hp.at_lay_self H11 (.row 3 true [int 0,int 0,int 1])
   have m1:(H11.lay (.row 3 true [int 0,int 0,int 1])).next = H11.next + 1:=Hp.next_lay _ _
   have hexA:∃ A,H11.lay (.row 3 true [int 0,int 0,int 1]) = A:=⟨_,rfl⟩
   have gA:∀ o1 o2 o3 o4 o5,Grows H11 (((((H11.lay o1).lay o2).lay o3).lay o4).lay o5):=fun _ _ _ _ _=>((((Grows.lay _ _).then_lay _).then_lay _).then_lay _).then_lay _
   refine CallP.mono (REqual_spec _ _ rd.i rd.i _ ?_ ?_ rfl (by decide) rd_s.lens.2.2) ?_
   ·exact hw.mv.ext (gA _ _ _ _ _)
   ·exact rd_mv (Hp.at_lay_old _ (Hp.at_lay_old _ (Hp.at_lay_old _ (Hp.at_lay_old _ (Hp.at_lay_self _ _))))) (Hp.at_lay_old _ (Hp.at_lay_old _ (Hp.at_lay_old _ (Hp.at_lay_self _ _)))) (Hp.at_lay_old _ (Hp.at_lay_old _ (Hp.at_lay_self _ _))) (Hp.at_lay_old _ (Hp.at_lay_self _ _)) (Hp.at_lay_self _ _)
   rintro _ H12 ⟨⟨x,rfl,hx⟩,g12⟩
   cases x with
   | false=>exact absurd rfl hx.f
   | true =>
    have g69:=(g11.trans (gA _ _ _ _ _)).trans g12
    have a6:=g69.at_ _ _ a6
    have b6:=b6.ext g69
    have g1:=g1.trans g69
    clear g69 g11 gA g12 hx hw hexA h1 m1
    conv=>whnf
    refine cmpT rfl ?_
    conv=>whnf
    refine ⟨_,all_cells a6 b6.len,?_⟩
    conv=>whnf
    refine CallP.mono (own_spec _ tm.i _ (Bx.mv b6) (lens_of tm_s)) ?_
    rintro r H13 ⟨hw,g13⟩
    rw [cut_tm] at hw
    have hk:=hw.known
    obtain ⟨p3,q3,rfl⟩:=hk
    conv=>whnf
    refine CallP.mono (RMorse_spec _) ?_
    rintro r H14 ⟨hw2,g14⟩
    have hk:=hw2.known
    obtain ⟨p4,q4,rfl⟩:=hk
    conv=>whnf
    refine CallP.mono (REqual_spec _ _ tm.i tm.i _ (hw.mv.ext g14) hw2.mv rfl (by decide) tm_s.lens.2.2) ?_
    rintro _ H15 ⟨⟨x,rfl,hx⟩,g15⟩
    cases x with
    | false=>exact absurd rfl hx.f
    | true =>
     have g1:=((g1.trans g13).trans g14).trans g15
     conv=>whnf
     refine cmpT rfl ?_
     conv=>whnf
     refine cmpT rfl ?_
     conv=>whnf
     refine cmpT rfl ?_
     conv=>whnf
     refine cmpT rfl ?_
     conv=>whnf
     refine cmpT rfl ?_
     conv=>whnf
     have me:MV H15 (.agg ⟨[int 0,nilS,nilS]⟩) ⟨0,[],[]⟩:=⟨nilS,nilS,rfl,Built.view (h0:=H15) (e:=3) (.inl ⟨rfl,rfl⟩),Mat.nil _⟩
     refine CallP.mono (Check_spec _ _ _ me (by simp) (by simp) (by simp [rw_])) ?_
     rintro _ H16 ⟨⟨e,rfl,-,he⟩,g16⟩
     have he:=he (fun k=>by have:=k.b2; dsimp only at this; omega)
     subst he
     conv=>whnf
     refine cmpT rfl ?_
     conv=>whnf
     repeat (refine SeqP.go ?_; conv=>whnf)
     exact ⟨rfl,g1.trans g16⟩
end
end Go.Proofs.Ytedneplaibmppaa
namespace Go.Proofs.Ytedneplaibmppaa
open Go.Rx Go.RowKit
abbrev InR (n:Int):Prop:=-9223372036854775808≤n∧n < 9223372036854775808
end Go.Proofs.Ytedneplaibmppaa
namespace Go.Proofs.Ytedneplaibmppaa
open Go.Rx Go.RowKit
theorem under3:Try.prog.underlying 3 = some (.int .i64):=Try.underlying3
theorem under22:Try.prog.underlying 22 = some (.slice 3):=Try.underlying22
theorem under23:Try.prog.underlying 23 = some (.slice 22):=Try.underlying23
def fieldTy (i:Nat) (t:TypeId):Option TypeDesc→Option (TypeId×Nat)
 | some (.struct fs)=>(fs[i]?).map fun f=>(f.type,f.offset)
 | _=>none
theorem field_of {t ft off i:Nat} (h:fieldTy i t (Try.prog.underlying t) = some (ft,off)) {ts:List Tr} (hy:TyT Try.prog t ts):ts.length = Try.prog.cellsOf t∧TyT Try.prog ft ((ts.drop off).take (Try.prog.cellsOf ft)):=by
 cases hu:Try.prog.underlying t with
 | none=>rw [hu] at h; cases h
 | some d =>
  rw [hu] at h
  cases d with
  | struct fs =>
   have hf:=ty_field hu hy
   unfold fieldTy at h
   dsimp only at h
   cases hg:fs[i]? with
   | none=>rw [hg] at h; cases h
   | some f =>
    rw [hg] at h
    cases h
    exact ⟨hf.1,hf.2 i f hg⟩
  | _=>cases h
theorem cells3:Try.prog.cellsOf 3 = 1:=by kernel_rfl
theorem cells22:Try.prog.cellsOf 22 = 1:=by kernel_rfl
theorem cells23:Try.prog.cellsOf 23 = 1:=by kernel_rfl
theorem one_of {ts:List Tr} {o:Nat} (h:o < ts.length):(ts.drop o).take 1 = [ts[o]]:=by
 rw [List.drop_eq_getElem_cons h]; rfl
theorem ag_inv {h:Hp} {v:Value} {ts:List Tr} (k:AbsT h v (.ag ts)):∃ vs:List Value,v = .agg ⟨vs⟩∧vs.length = ts.length∧∀ (k:Nat) v t,vs[k]? = some v→ts[k]? = some t→AbsT h v t:=by
 cases k with
 | ag vs cs hl ht=>exact ⟨vs,rfl,hl,ht⟩
theorem num_inv {h:Hp} {v:Value} {n:Int} (k:AbsT h v (.num n)):v = int n:=by cases k; rfl
theorem mac_arg {ts:List Tr} (hy:TyT Try.prog 25 ts):∃ M:MacI,InR M.base∧Lens M∧∀ h v,AbsT h v (.ag ts)→MV h v M:=by
 have hmax:maxLen < 9223372036854775808:=by decide
 have f0:=field_of (i:=0) (ft:=3) (off:=0) (by kernel_rfl) hy
 have f1:=field_of (i:=1) (ft:=22) (off:=1) (by kernel_rfl) hy
 have f2:=field_of (i:=2) (ft:=23) (off:=2) (by kernel_rfl) hy
 have hl:ts.length = 3:=f0.1.trans (by kernel_rfl)
 have f0:=f0.2
 have f1:=f1.2
 have f2:=f2.2
 rw [cells3,one_of (by omega)] at f0
 rw [cells22,one_of (by omega)] at f1
 rw [cells23,one_of (by omega)] at f2
 obtain ⟨n,en,hn⟩:=ty_num under3 f0
 obtain ⟨l1,e1,m1,r1⟩:=ty_ints under22 cells3 under3 f1
 obtain ⟨L,e2,m2,r2⟩:=ty_mat under23 cells22 under22 cells3 under3 f2
 refine ⟨⟨n,l1,L⟩,hn,⟨by show l1.length < _; omega,by show L.length < _; omega,fun s=>?_⟩,fun h v k=>?_⟩
 ·show (rw_ L s).length < _
  by_cases hs:s < L.length
  ·rw [rw_at hs]
   have:=(r2 _ (List.getElem_mem hs)).1
   omega
  ·unfold rw_
   rw [List.getD_eq_getElem?_getD,List.getElem?_eq_none (by omega)]
   simp
 obtain ⟨vs,rfl,hvl,hk⟩:=ag_inv k
 match vs,hvl with
 | [v0,v1,v2],_ =>
 have k0:=hk 0 v0 _ rfl (List.getElem?_eq_getElem (by omega))
 have k1:=hk 1 v1 _ rfl (List.getElem?_eq_getElem (by omega))
 have k2:=hk 2 v2 _ rfl (List.getElem?_eq_getElem (by omega))
 rw [show ts[0] = .num n from List.cons.inj en |>.1] at k0
 rw [e1] at k1
 rw [e2] at k2
 have:=num_inv k0
 subst this
 exact ⟨v1,v2,rfl,k1.view,k2.mat⟩
 | [],h | [_],h | [_,_],h | _ :: _ :: _ :: _ :: _,h=>simp [hl] at h
end Go.Proofs.Ytedneplaibmppaa
namespace Go.Proofs.Ytedneplaibmppaa
open Go.Rx Go.RowKit
theorem OkS.cut {m:Mac} (h:OkS m):cutI m.i = m.i:=by
 have h1:=h.n12
 have h2:=h.ok.ilen
 have h5:=h.b5
 refine cutI_id (by show m.out.length≤13; omega) (by omega) fun l hl=>?_
 obtain ⟨i,hi,rfl⟩:=List.getElem_of_mem hl
 have:=h.ok.irow (s:=i) (by omega)
 rw [rw_at hi] at this
 omega
theorem OwnM.bx {h0 h:Hp} {cs:List Value} {M:MacI} (k:OwnM h0 h (.agg ⟨cs⟩) M):Bx h cs M:=k.mv.bx
end Go.Proofs.Ytedneplaibmppaa
namespace Go.Proofs.Ytedneplaibmppaa
open Go.Rx Go.RowKit
namespace Mac
theorem Ok.ck {m:Mac} (h:m.Ok) (z:m.Zer) (b2:2≤m.base) (b5:m.base≤5) (n12:m.out.length≤12) (outs:∀ x ∈ m.out,0≤x∧x≤9):OkS m where
 ok:=h
 zer:=z
 ck:=by
  have hil:=h.ilen
  refine ⟨by show (2:Int)≤m.base; omega,by show (m.base:Int)≤5; omega,h.n1,n12,outs,hil,fun s hs=>?_⟩
  have hs:s < m.out.length:=hs
  have hr:=h.irow hs
  have g0:=m.i_nx s
  refine ⟨by show ((rw_ m.i.next s).length:Int) = (m.base:Int); omega,fun x hx=>?_,?_⟩
  ·obtain ⟨d,hd,rfl⟩:=List.getElem_of_mem hx
   rw [← gl_at hd,g0]
   have:=h.lt s d hs (by omega)
   show (0:Int)≤(m.nx s d:Int)∧(m.nx s d:Int) < (m.out.length:Int)
   omega
  ·rw [g0,Int.toNat_natCast]
   exact z s hs
end Mac
end Go.Proofs.Ytedneplaibmppaa
namespace Go.Proofs.Ytedneplaibmppaa
open Go.Rx Go.RowKit
def LenC (M:MacI):Prop:=M.out.length≤1000000∧M.next.length≤1000000∧∀ s,(rw_ M.next s).length≤1000000
abbrev no0:MacI:=⟨0,[],[]⟩
theorem noM_mv (h:Hp):MV h noM no0:=⟨nilS,nilS,rfl,Built.view (h0:=h) (e:=3) (.inl ⟨rfl,rfl⟩),Mat.nil _⟩
end Go.Proofs.Ytedneplaibmppaa
namespace Go.Proofs.Ytedneplaibmppaa
open Go.Rx Go.RowKit
theorem bool_ne (x y:Operand) (a:Bool):aBin E .neq 4 x y (.bool a) (.bool a) = some (.bool false):=by
 cases a <;> kernel_rfl
def Slot (H:Hp) (N:Nat) (e:Int) (F:Mac):Prop:=∃ bx:List Value,bx.length = 3∧H.at N = some (.row 25 true bx)∧(e = 0∧F.out.length≤12∧Bx H bx F.i∨e≠0∧bx = [int 0,nilS,nilS])
theorem Slot.ext {H H':Hp} {N:Nat} {e:Int} {F:Mac} (g:Grows H H') (k:Slot H N e F):Slot H' N e F:=by
 obtain ⟨bx,h1,h2,h3⟩:=k
 refine ⟨bx,h1,g.at_ _ _ h2,?_⟩
 rcases h3 with ⟨h3,h4,h5⟩ | h3
 ·exact .inl ⟨h3,h4,h5.ext g⟩
 ·exact .inr h3
theorem Slot.mv {H:Hp} {N:Nat} {e:Int} {F:Mac} (k:Slot H N e F):∃ bx:List Value,bx.length = 3∧H.at N = some (.row 25 true bx)∧sameV 4 (.agg ⟨bx⟩) (.agg ⟨bx⟩) = true∧(e = 0→F.out.length≤12∧MV H (.agg ⟨bx⟩) F.i)∧(e≠0→MV H (.agg ⟨bx⟩) no0):=by
 obtain ⟨bx,h1,h2,h3⟩:=k
 rcases h3 with ⟨h3,h4,h5⟩ | ⟨h3,rfl⟩
 ·exact ⟨bx,h1,h2,h5.same,fun _=>⟨h4,Bx.mv h5⟩,fun q=>absurd h3 q⟩
 ·exact ⟨_,h1,h2,sameV_mac _ _ _ _ _ _ _,fun q=>absurd q h3,fun _=>noM_mv H⟩
end Go.Proofs.Ytedneplaibmppaa
namespace Go.Proofs.Ytedneplaibmppaa
open Go.Rx Go.RowKit
theorem LenC.lens {M:MacI} (h:LenC M):Lens M:=⟨by have:=h.1; omega,by have:=h.2.1; omega,fun s=>by have:=h.2.2 s; omega⟩
end Go.Proofs.Ytedneplaibmppaa
namespace Go.Proofs.Ytedneplaibmppaa
open Go.Rx Go.RowKit
abbrev gb (l:List Bool) (i:Nat):Bool:=l.getD i false
theorem gb_set (l:List Bool) (i j:Nat) (h:gb l j = true):gb (l.set i true) j = true:=by
 unfold gb at *
 rw [List.getD_eq_getElem?_getD] at *
 by_cases e:i = j
 ·subst e
  by_cases hi:i < l.length
  ·rw [List.getElem?_set_self hi]; rfl
  ·rw [List.getElem?_eq_none (by omega)] at h; cases h
 ·rw [List.getElem?_set_ne e]; exact h
theorem gb_self (l:List Bool) (i:Nat) (h:i < l.length):gb (l.set i true) i = true:=by
 unfold gb
 rw [List.getD_eq_getElem?_getD,List.getElem?_set_self h]; rfl
structure Rk (F:Mac) (k:Nat) (ms:List Bool):Prop where
 len:ms.length = F.out.length
 all:∀ w,Mac.Wd F.base w→w.length≤k→gb ms (F.run 0 w) = true
def Nk (F:Mac) (k u:Nat):Prop:=∃ w,Mac.Wd F.base w∧w.length≤k∧F.run 0 w = u
theorem Rk.set {F:Mac} {k:Nat} {ms:List Bool} (h:Rk F k ms) (i:Nat):Rk F k (ms.set i true):=⟨by rw [List.length_set]; exact h.len,fun w hw hk=>gb_set _ _ _ (h.all w hw hk)⟩
theorem Rk.start {F:Mac} (hn:1≤F.out.length):Rk F 0 ((List.replicate F.out.length false).set 0 true):=⟨by simp,fun w hw hk=>by
 have:w = []:=List.eq_nil_of_length_eq_zero (by omega)
 subst this
 exact gb_self _ 0 (by simp; omega)⟩
theorem Rk.step {F:Mac} (hm:F.Ok) {k:Nat} {ms:List Bool} (h:Rk F k ms) (hall:∀ u,u < F.out.length→Nk F k u→∀ d,d < F.base→gb ms (F.nx u d) = true):Rk F (k + 1) ms:=⟨h.len,fun w hw hk=>by
 rcases List.eq_nil_or_concat w with rfl | ⟨v,d,rfl⟩
 ·exact h.all [] hw (Nat.zero_le _)
 ·have hv:Mac.Wd F.base v:=fun x hx=>hw x (by simp [hx])
  rw [List.concat_eq_append,List.length_append,List.length_singleton] at hk
  rw [List.concat_eq_append,run_snoc]
  exact hall _ (hm.run hm.n1 hv) ⟨v,hv,by omega,rfl⟩ d (hw d (by simp))⟩
theorem times_bool (z:Bool):∀ n:Nat,times [Value.bool z] n = (List.replicate n z).map Value.bool
 | 0=>rfl
 | n + 1=>by
  have:=times_bool z n
  rw [List.replicate_succ,List.map_cons,← this]
  rfl
theorem gb_at {l:List Bool} {i:Nat} (h:i < l.length):gb l i = l[i]:=by
 unfold gb; rw [List.getD_eq_getElem?_getD,List.getElem?_eq_getElem h]; rfl
structure SM (h:Hp) (r:Nat) (ms:List Bool) (H:Hp):Prop where
 at_:H.at r = some (.row 4 true (ms.map .bool))
 gr:Grows h H
 hr:h.next≤r
theorem SM.put {h:Hp} {r:Nat} {ms:List Bool} {H:Hp} (k:SM h r ms H) (ms':List Bool):SM h r ms' (H.set r (.row 4 true (ms'.map .bool))):=⟨Hp.at_set_self _ (Hp.lt_of_at k.at_),k.gr.then_set _ k.hr,k.hr⟩
theorem SM.load {h:Hp} {r:Nat} {ms:List Bool} {H:Hp} (k:SM h r ms H) {i:Nat} (hi:i < ms.length):cellAt H r (offAt 0 i 1) = some (.bool (gb ms i)):=by
 rw [offAt_eq]
 refine cellAt_row k.at_ ?_
 rw [List.getElem?_map,gb_at hi]
 simp [hi]
theorem SM.store {h:Hp} {r:Nat} {ms:List Bool} {H:Hp} (k:SM h r ms H) {i:Nat} (hi:i < ms.length) (b:Bool):storeAt H r (offAt 0 i 1) [.bool b] = some (H.set r (.row 4 true ((ms.set i b).map .bool))):=by
 have:=storeAt_row k.at_ (o:=i) (v:=.bool b) (by rw [List.length_map]; exact hi) rfl
 rw [show (ms.map Value.bool).set i (.bool b) = (ms.set i b).map .bool from by rw [List.map_set]] at this
 rw [offAt_eq]
 simpa using this
end Go.Proofs.Ytedneplaibmppaa
namespace Go.Proofs.Ytedneplaibmppaa
open Go.Rx Go.RowKit
structure OkB (m:Mac):Prop where
 ok:m.Ok
 outs:∀ x ∈ m.out,0≤x∧x≤9
 b:m.base≤100
 n:m.out.length≤10000
theorem OkB.o {m:Mac} (h:OkB m) {s:Nat} (hs:s < m.out.length):0≤m.o s∧m.o s≤9:=gl_forall (P:=fun x=>0≤x∧x≤9) h.outs hs
end Go.Proofs.Ytedneplaibmppaa
namespace Go.Proofs.Ytedneplaibmppaa
open Go.Rx Go.RowKit
def clsOf (m:Mac) (S:List Nat):List Int:=S.map m.cl
structure Rq (m:Mac) (S:List Nat) (a:Nat):Prop where
 lt:∀ s ∈ S,s < m.out.length
 bq:Bq m.nextC m.base (m.cl 0) m.cls (clsOf m S) a
def rrow (m:Mac) (S:List Nat) (s:Nat):List Int:=(List.range m.base).map fun d=>((ixOf (clsOf m S) (m.cl (m.nx s d)):Nat):Int)
theorem Rq.start {m:Mac} (hm:m.Ok):Rq m [0] 0:=⟨fun s hs=>by rw [List.mem_singleton.1 hs]; exact hm.n1,Bq.start (Mac.form_fin hm) (List.mem_of_getElem? (Mac.cl_get hm hm.n1))⟩
def rnote (m:Mac) (S:List Nat) (t:Nat):List Nat:=if m.cl t ∈ clsOf m S then S else S ++ [t]
theorem rnote_cls (m:Mac) (S:List Nat) (t:Nat):clsOf m (rnote m S t) = note (clsOf m S) (m.cl t):=by
 unfold rnote note
 by_cases h:m.cl t ∈ clsOf m S
 ·rw [if_pos h,if_pos h]
 ·rw [if_neg h,if_neg h]
  unfold clsOf
  rw [List.map_append]; rfl
def rnotes (m:Mac) (S:List Nat) (s:Nat):Nat→List Nat
 | 0=>S
 | d + 1=>rnote m (rnotes m S s d) (m.nx s d)
theorem rnotes_cls {m:Mac} (hm:m.Ok) (S:List Nat) {s:Nat} (hs:s < m.out.length):∀ d,d≤m.base→clsOf m (rnotes m S s d) = notes (clsOf m S) (outsN m.nextC (m.cl s) d)
 | 0,_=>rfl
 | d + 1,hd=>by
  show clsOf m (rnote m (rnotes m S s d) (m.nx s d)) = _
  rw [rnote_cls,rnotes_cls hm S hs d (by omega),outsN_succ,notes_snoc,Mac.nextC_cl hm hs (by omega)]
theorem rnotes_lt {m:Mac} (hm:m.Ok) {S:List Nat} {s:Nat} (hs:s < m.out.length) (hS:∀ x ∈ S,x < m.out.length):∀ d,d≤m.base→∀ x ∈ rnotes m S s d,x < m.out.length
 | 0,_=>hS
 | d + 1,hd=>fun x hx=>by
  have ih:=rnotes_lt hm hs hS d (by omega)
  have hx:x ∈ rnote m (rnotes m S s d) (m.nx s d):=hx
  unfold rnote at hx
  split at hx
  ·exact ih x hx
  ·rcases List.mem_append.1 hx with h | h
   ·exact ih x h
   ·rw [List.mem_singleton.1 h]; exact hm.lt s d hs (by omega)
theorem Rq.next {m:Mac} (hm:m.Ok) {S:List Nat} {a s:Nat} (k:Rq m S a) (hs:S[a]? = some s):Rq m (rnotes m S s m.base) (a + 1):=by
 have hsl:=k.lt s (List.mem_of_getElem? hs)
 refine ⟨rnotes_lt hm hsl k.lt m.base (Nat.le_refl _),?_⟩
 rw [rnotes_cls hm S hsl m.base (Nat.le_refl _)]
 exact k.bq.next (Mac.form_fin hm) (s:=m.cl s) (by unfold clsOf; rw [List.getElem?_map,hs]; rfl)
theorem rrow_eq {m:Mac} (hm:m.Ok) (S:List Nat) {s:Nat} (hs:s < m.out.length):rrow m S s = rowOf m.nextC m.base (clsOf m S) (m.cl s):=by
 unfold rrow rowOf
 refine List.map_congr_left fun d hd=>?_
 rw [Mac.nextC_cl hm hs (List.mem_range.1 hd)]
theorem Rq.form {m:Mac} (hm:m.Ok) {S:List Nat} {a:Nat} (k:Rq m S a) (h:S.length≤a):m.form.i = ⟨m.base,S.map m.o,S.map (rrow m S)⟩:=by
 have hb:=k.bq.done (by unfold clsOf; rw [List.length_map]; exact h)
 unfold Mac.form built
 rw [hb]
 unfold mach Mac.i
 dsimp only
 have h1:(clsOf m S).map m.outC = S.map m.o:=by
  unfold clsOf
  rw [List.map_map]
  exact List.map_congr_left fun s hs=>Mac.outC_cl hm (k.lt s hs)
 rw [h1]
 congr 1
 unfold clsOf
 rw [List.map_map,List.map_map]
 refine List.map_congr_left fun s hs=>?_
 rw [rrow_eq hm S (k.lt s hs)]
 unfold rowOf
 show List.map _ (List.map _ _) = _
 rw [List.map_map]
 rfl
end Go.Proofs.Ytedneplaibmppaa
namespace Go.Proofs.Ytedneplaibmppaa
open Go.Rx Go.RowKit
theorem sep3 {H:Hp} {Z M r:Nat} (hZ:Z < H.next) (hM:M < H.next) (hr:r < H.next) (h1:Z≠M) (h2:Z≠r) (h3:M≠r) (n c:Nat):Rx.Sep H [pl Z,nilS,nilS,pl M,slc r 0 n c] []:=by
 refine ⟨fun v hv x e=>?_,fun u hu=>by simp at hu,fun i j v u hij hi hj=>?_,fun v hv u hu=>by simp at hu⟩
 ·simp at hv
  rcases hv with rfl | rfl | rfl | rfl
  ·cases e; exact hZ
  ·cases e
  ·cases e; exact hM
  ·cases e; exact hr
 ·match i,j,hi,hj with
  | 0,0,_,_=>exact absurd rfl hij
  | 3,3,_,_=>exact absurd rfl hij
  | 4,4,_,_=>exact absurd rfl hij
  | 0,3,hi,hj=>cases hi; cases hj; intro x e1 e2; cases e1; cases e2; exact h1 rfl
  | 3,0,hi,hj=>cases hi; cases hj; intro x e1 e2; cases e1; cases e2; exact h1 rfl
  | 0,4,hi,hj=>cases hi; cases hj; intro x e1 e2; cases e1; cases e2; exact h2 rfl
  | 4,0,hi,hj=>cases hi; cases hj; intro x e1 e2; cases e1; cases e2; exact h2 rfl
  | 3,4,hi,hj=>cases hi; cases hj; intro x e1 e2; cases e1; cases e2; exact h3 rfl
  | 4,3,hi,hj=>cases hi; cases hj; intro x e1 e2; cases e1; cases e2; exact h3 rfl
  | 1,_,hi,hj=>cases hi; exact Ap.nil _
  | 2,_,hi,hj=>cases hi; exact Ap.nil _
  | 0,1,hi,hj=>cases hj; exact (Ap.nil _).symm
  | 0,2,hi,hj=>cases hj; exact (Ap.nil _).symm
  | 3,1,hi,hj=>cases hj; exact (Ap.nil _).symm
  | 3,2,hi,hj=>cases hj; exact (Ap.nil _).symm
  | 4,1,hi,hj=>cases hj; exact (Ap.nil _).symm
  | 4,2,hi,hj=>cases hj; exact (Ap.nil _).symm
  | 0,j + 5,hi,hj=>simp at hj
  | 3,j + 5,hi,hj=>simp at hj
  | 4,j + 5,hi,hj=>simp at hj
  | i + 5,_,hi,_=>simp at hi
end Go.Proofs.Ytedneplaibmppaa
namespace Go.Proofs.Ytedneplaibmppaa
open Go.Rx Go.RowKit
structure Wr (hb H0 H:Hp):Prop where
 gr:Grows hb H
 next:H.next = H0.next
 row:∀ (r:Nat) (x:Bool) (l:List Int),H0.at r = some (.row 3 x (l.map int))→∃ l':List Int,l'.length = l.length∧H.at r = some (.row 3 x (l'.map int))
 oth:∀ (r e:Nat) (x:Bool) (cs:List Value),e≠3→H0.at r = some (.row e x cs)→H.at r = some (.row e x cs)
theorem Wr.refl {hb H:Hp} (g:Grows hb H):Wr hb H H:=⟨g,rfl,fun r x l e=>⟨l,rfl,e⟩,fun r e x cs _ h=>h⟩
end Go.Proofs.Ytedneplaibmppaa
namespace Go.Proofs.Ytedneplaibmppaa
open Go.Rx Go.RowKit
/-! The machine of the states that are met. -/
def outM (m:Mac) (s:Int):Int:=m.o s.toNat
/-! Other outputs. -/
/-! Two digits at once. -/
/-! Two machines side by side. -/
end Go.Proofs.Ytedneplaibmppaa
namespace Go.Proofs.Ytedneplaibmppaa
open Go.Rx Go.RowKit
def Ans (H:Hp) (N:Nat) (e:Int) (P:Prop) (w:Mac):Prop:=∃ bx:List Value,bx.length = 3∧H.at N = some (.row 25 true bx)∧sameV 4 (.agg ⟨bx⟩) (.agg ⟨bx⟩) = true∧(P→e = 1∧bx = [int 0,nilS,nilS])∧(¬ P→(w.form.out.length≤12→e = 0∧MV H (.agg ⟨bx⟩) w.form.i)∧(12 < w.form.out.length→e = 8∧bx = [int 0,nilS,nilS]))
theorem Ans.ext {H H':Hp} {N:Nat} {e:Int} {P:Prop} {w:Mac} (g:Grows H H') (k:Ans H N e P w):Ans H' N e P w:=by
 obtain ⟨bx,h1,h2,h3,h4,h5⟩:=k
 exact ⟨bx,h1,g.at_ _ _ h2,h3,h4,fun q=>⟨fun l=>⟨((h5 q).1 l).1,((h5 q).1 l).2.ext g⟩,(h5 q).2⟩⟩
end Go.Proofs.Ytedneplaibmppaa
namespace Go.Proofs.Ytedneplaibmppaa
open Go.Rx Go.RowKit
theorem FitR.congr {h h':Hp} {r:Value} {m m':Mac} (e:m.form = m'.form) (k:FitR h h' r m):FitR h h' r m':=by
 unfold FitR at k ⊢
 rwa [e] at k
end Go.Proofs.Ytedneplaibmppaa
namespace Go.Proofs.Ytedneplaibmppaa
open Go.Rx Go.RowKit
structure IR (G:Hp) (N7 P:Nat) (b7:List Value) (m:Mac) (pa pb:Int) (va vb:Value) (la lb:List Int):Prop where
 hm:OkS m
 a7:G.at N7 = some (.row 26 true b7)
 l7:b7.length = 3
 o7:∃ Hb:Hp,N7 < Hb.next∧P < Hb.next∧OwnM Hb G (.agg ⟨b7⟩) m.i
 ab:∃ Hb:Hp,N7 < Hb.next∧P < Hb.next∧Built Hb G 3 va la∧Built Hb G 3 vb lb
 aP:G.at P = some (.row 64 true [int pa,int pb])
 ne:P < N7
theorem IR.ext {G G':Hp} {N7 P:Nat} {b7:List Value} {m:Mac} {pa pb:Int} {va vb:Value} {la lb:List Int} (k:IR G N7 P b7 m pa pb va vb la lb) (g:Grows G G'):IR G' N7 P b7 m pa pb va vb la lb where
 hm:=k.hm
 a7:=g.at_ _ _ k.a7
 l7:=k.l7
 o7:=let ⟨Hb,h1,h2,h3⟩:=k.o7; ⟨Hb,h1,h2,h3.ext g⟩
 ab:=let ⟨Hb,h1,h2,h3,h4⟩:=k.ab; ⟨Hb,h1,h2,h3.ext g,h4.ext g⟩
 aP:=g.at_ _ _ k.aP
 ne:=k.ne
theorem IR.mv {G:Hp} {N7 P:Nat} {b7:List Value} {m:Mac} {pa pb:Int} {va vb:Value} {la lb:List Int} (k:IR G N7 P b7 m pa pb va vb la lb):MV G (.agg ⟨b7⟩) m.i:=let ⟨_,_,_,h⟩:=k.o7; h.mv
theorem Bx.one {h:Hp} {bx:List Value} {M:MacI} (k:Bx h bx M):bx.all oneCell = true:=by
 obtain ⟨hl,hb,⟨a,c,ho,_⟩,⟨a',c',hn,_⟩⟩:=k
 match bx,hl with
 | [x,y,z],_=>cases hb; cases ho; cases hn; rfl
end Go.Proofs.Ytedneplaibmppaa
namespace Go.Proofs.Ytedneplaibmppaa
open Go.Rx Go.RowKit
theorem gb_set_iff {l:List Bool} {i j:Nat} (h:i < l.length):gb (l.set i true) j = true↔j = i∨gb l j = true:=by
 unfold gb
 rw [List.getD_eq_getElem?_getD,List.getD_eq_getElem?_getD]
 by_cases e:j = i
 ·subst e
  rw [List.getElem?_set_self h]
  simp
 ·rw [List.getElem?_set_ne (fun q=>e q.symm)]
  simp [e]
theorem gb_setv {l:List Bool} {i j:Nat} {b:Bool} (h:i < l.length):gb (l.set i b) j = if j = i then b else gb l j:=by
 unfold gb
 rw [List.getD_eq_getElem?_getD,List.getD_eq_getElem?_getD]
 by_cases e:j = i
 ·subst e
  rw [List.getElem?_set_self h,if_pos rfl]; rfl
 ·rw [List.getElem?_set_ne (fun q=>e q.symm),if_neg e]
theorem gb_rep (n j:Nat):gb (List.replicate n false) j = false:=by
 unfold gb
 rw [List.getD_eq_getElem?_getD,List.getElem?_replicate]
 split <;> rfl
def RchJ (m:Mac) (j s:Nat):Prop:=∃ w,Mac.Wd m.base w∧w.length = j∧m.run 0 w = s
theorem rch_zero {m:Mac} {s:Nat}:RchJ m 0 s↔s = 0:=by
 constructor
 ·rintro ⟨w,_,hl,rfl⟩
  rw [List.eq_nil_of_length_eq_zero hl]; rfl
 ·rintro rfl
  exact ⟨[],by simp [Mac.Wd],rfl,rfl⟩
theorem word_snoc {j:Nat} {w:List Nat} (h:w.length = j + 1):∃ u d,w = u ++ [d]∧u.length = j:=by
 have hne:w≠[]:=fun e=>by rw [e] at h; simp at h
 refine ⟨w.dropLast,w.getLast hne,(List.dropLast_concat_getLast hne).symm,?_⟩
 rw [List.length_dropLast]; omega
theorem rch_succ {m:Mac} {j t:Nat}:RchJ m (j + 1) t↔∃ s d,RchJ m j s∧d < m.base∧m.nx s d = t:=by
 constructor
 ·rintro ⟨w,hw,hl,rfl⟩
  obtain ⟨u,d,rfl,hu⟩:=word_snoc hl
  refine ⟨m.run 0 u,d,⟨u,fun x hx=>hw x (by simp [hx]),hu,rfl⟩,hw d (by simp),?_⟩
  rw [Mac.run_app]; rfl
 ·rintro ⟨s,d,⟨w,hw,hl,rfl⟩,hd,rfl⟩
  refine ⟨w ++ [d],fun x hx=>?_,by simp [hl],by rw [Mac.run_app]; rfl⟩
  rcases List.mem_append.1 hx with hx | hx
  ·exact hw x hx
  ·rw [List.mem_singleton.1 hx]; exact hd
theorem rch_lt {m:Mac} (hm:m.Ok) {j s:Nat} (h:RchJ m j s):s < m.out.length:=by
 obtain ⟨w,hw,_,rfl⟩:=h
 exact hm.run hm.n1 hw
structure Sb (m:Mac) (j:Nat) (ms:List Bool):Prop where
 len:ms.length = m.out.length
 iff:∀ s,s < m.out.length→(gb ms s = true↔RchJ m j s)
theorem Sb.start {m:Mac} (hm:m.Ok):Sb m 0 ((List.replicate m.out.length false).set 0 true):=⟨by simp,fun s hs=>by
 rw [gb_set_iff (by simp; exact hm.n1),gb_rep,rch_zero]; simp⟩
structure Nb (m:Mac) (cur:List Bool) (s r:Nat) (ms:List Bool):Prop where
 len:ms.length = m.out.length
 iff:∀ t,t < m.out.length→(gb ms t = true↔(∃ s',s' < s∧gb cur s' = true∧∃ d,d < m.base∧m.nx s' d = t)∨(gb cur s = true∧∃ d,d < r∧m.nx s d = t))
theorem Nb.start {m:Mac} {cur:List Bool}:Nb m cur 0 0 (List.replicate m.out.length false):=⟨by simp,fun t ht=>by
 rw [gb_rep]
 constructor
 ·intro e; cases e
 ·rintro (⟨s',h,_⟩ | ⟨_,d,h,_⟩) <;> omega⟩
theorem Nb.set {m:Mac} {cur ms:List Bool} {s r:Nat} (k:Nb m cur s r ms) (hc:gb cur s = true) (hl:m.nx s r < m.out.length):Nb m cur s (r + 1) (ms.set (m.nx s r) true):=⟨by rw [List.length_set]; exact k.len,fun t ht=>by
 rw [gb_set_iff (by rw [k.len]; exact hl),k.iff t ht]
 constructor
 ·rintro (rfl | h | ⟨h,d,hd,e⟩)
  ·exact .inr ⟨hc,r,by omega,rfl⟩
  ·exact .inl h
  ·exact .inr ⟨h,d,by omega,e⟩
 ·rintro (h | ⟨h,d,hd,e⟩)
  ·exact .inr (.inl h)
  ·by_cases q:d = r
   ·subst q; exact .inl e.symm
   ·exact .inr (.inr ⟨h,d,by omega,e⟩)⟩
theorem Nb.row {m:Mac} {cur ms:List Bool} {s r:Nat} (k:Nb m cur s r ms) (h:r = m.base∨gb cur s = false):Nb m cur (s + 1) 0 ms:=⟨k.len,fun t ht=>by
 rw [k.iff t ht]
 constructor
 ·rintro (⟨s',hs,h⟩ | ⟨hc,d,hd,e⟩)
  ·exact .inl ⟨s',by omega,h⟩
  ·rcases h with h | h
   ·exact .inl ⟨s,by omega,hc,d,by omega,e⟩
   ·rw [h] at hc; cases hc
 ·rintro (⟨s',hs,hc,d,hd,e⟩ | ⟨_,d,hd,_⟩)
  ·by_cases q:s' = s
   ·subst q
    rcases h with h | h
    ·exact .inr ⟨hc,d,by omega,e⟩
    ·rw [h] at hc; cases hc
   ·exact .inl ⟨s',by omega,hc,d,hd,e⟩
  ·omega⟩
theorem Nb.done {m:Mac} (hm:m.Ok) {cur ms:List Bool} {j:Nat} (k:Nb m cur m.out.length 0 ms) (c:Sb m j cur):Sb m (j + 1) ms:=⟨k.len,fun t ht=>by
 rw [k.iff t ht,rch_succ]
 constructor
 ·rintro (⟨s',hs,hc,d,hd,e⟩ | ⟨_,d,hd,_⟩)
  ·exact ⟨s',d,(c.iff s' hs).1 hc,hd,e⟩
  ·omega
 ·rintro ⟨s,d,h,hd,e⟩
  have hs:=rch_lt hm h
  exact .inl ⟨s,hs,(c.iff s hs).2 h,d,hd,e⟩⟩
theorem val_inj {b:Nat}:∀ {v v':List Nat},Mac.Wd b v→Mac.Wd b v'→v.length = v'.length→val b v = val b v'→v = v'
 | [],[],_,_,_,_=>rfl
 | [],_ :: _,_,_,h,_=>by simp at h
 | _ :: _,[],_,_,h,_=>by simp at h
 | d :: v,d' :: v',h,h',hl,e=>by
  have hd:=h d (by simp)
  have hd':=h' d' (by simp)
  have e:d + b * val b v = d' + b * val b v':=e
  have e1:d = d':=by
   have:=congrArg (· % b) e
   simp only [Nat.add_mul_mod_self_left] at this
   rwa [Nat.mod_eq_of_lt hd,Nat.mod_eq_of_lt hd'] at this
  subst e1
  have e2:val b v = val b v':=Nat.eq_of_mul_eq_mul_left (show 0 < b by omega) (by omega)
  rw [val_inj (fun x hx=>h x (by simp [hx])) (fun x hx=>h' x (by simp [hx])) (by simpa using hl) e2]
structure Bk (m:Mac) (out:Int) (j k:Nat) (v:List Nat) (goal:List Bool):Prop where
 wd:Mac.Wd m.base v
 len:v.length + k = j
 gl_:goal.length = m.out.length
 iff:∀ s,s < m.out.length→(gb goal s = true↔m.o (m.run s v) = out)
 ex:∃ s,RchJ m k s∧m.o (m.run s v) = out
 mn:∀ s v',RchJ m k s→Mac.Wd m.base v'→v'.length = v.length→m.o (m.run s v') = out→val m.base v≤val m.base v'
theorem Bk.some_ {m:Mac} {out:Int} {j k:Nat} {v:List Nat} {goal:List Bool} (h:Bk m out j (k + 1) v goal):∃ r,r < m.base∧∃ s,RchJ m k s∧m.o (m.run s (r :: v)) = out:=by
 obtain ⟨s,hs,e⟩:=h.ex
 obtain ⟨s',d,h1,hd,rfl⟩:=rch_succ.1 hs
 exact ⟨d,hd,s',h1,e⟩
theorem Bk.next {m:Mac} (hm:m.Ok) {out:Int} {j k r:Nat} {v:List Nat} {goal bf:List Bool} (h:Bk m out j (k + 1) v goal) (hr:r < m.base) (hbl:bf.length = m.out.length) (hbf:∀ s,s < m.out.length→gb bf s = gb goal (m.nx s r)) (hex:∃ s,RchJ m k s∧m.o (m.run s (r :: v)) = out) (hno:∀ d,d < r→¬ ∃ s,RchJ m k s∧m.o (m.run s (d :: v)) = out):Bk m out j k (r :: v) bf where
 wd:=Mac.Wd.cons hr h.wd
 len:=by have:=h.len; simp only [List.length_cons]; omega
 gl_:=hbl
 iff:=fun s hs=>by
  rw [hbf s hs,h.iff _ (hm.lt s r hs hr)]
  exact Iff.rfl
 ex:=hex
 mn:=fun s v' hs hv' hl e=>by
  match v',hl with
  | [],hl=>simp at hl
  | d :: v',hl =>
   have hd:=hv' d (by simp)
   have hv2:Mac.Wd m.base v':=fun x hx=>hv' x (by simp [hx])
   have hl2:v'.length = v.length:=by simpa using hl
   have hs2:RchJ m (k + 1) (m.nx s d):=rch_succ.2 ⟨s,d,hs,hd,rfl⟩
   have hle:=h.mn _ v' hs2 hv2 hl2 e
   show r + m.base * val m.base v≤d + m.base * val m.base v'
   by_cases q:val m.base v = val m.base v'
   ·have ev:=val_inj h.wd hv2 hl2.symm q
    subst ev
    have:r≤d:=by
     rcases Nat.lt_or_ge d r with l | l
     ·exact absurd ⟨s,hs,e⟩ (hno d l)
     ·exact l
    omega
   ·have h1:m.base * (val m.base v + 1)≤m.base * val m.base v':=Nat.mul_le_mul_left _ (by omega)
    rw [Nat.mul_add,Nat.mul_one] at h1
    omega
def EvQ (m:Mac) (out V:Int):Prop:=(V = -1∧∀ n,m.at_ 0 n≠out)∨∃ n:Nat,V = n∧m.at_ 0 n = out∧∀ n',m.at_ 0 n' = out→n≤n'
theorem Bk.done {m:Mac} (hm:OkS m) {out:Int} {j:Nat} {v:List Nat} {goal:List Bool} (h:Bk m out j 0 v goal):EvQ m out (val m.base v:Nat)∧val m.base v < m.base ^ j:=by
 obtain ⟨s,hs,e⟩:=h.ex
 have hs:=rch_zero.1 hs
 subst hs
 have hv:=Mac.at_val hm.ok hm.b2 hm.zer hm.n1 h.wd
 have hlt:=val_lt hm.ok.b1 h.wd
 have hl:=h.len
 rw [show v.length = j by omega] at hlt
 refine ⟨.inr ⟨_,rfl,by rw [← hv]; exact e,fun n' hn=>?_⟩,hlt⟩
 rcases Nat.lt_or_ge n' (val m.base v) with l | l
 ·obtain ⟨w,hw,hwl,hwv⟩:=Mac.pad_word hm.b2 (show n' < m.base ^ j by omega)
  have hw2:=Mac.at_val hm.ok hm.b2 hm.zer hm.n1 hw
  rw [hwv,hn] at hw2
  have:=h.mn 0 w (rch_zero.2 rfl) hw (by omega) hw2
  omega
 ·exact l
theorem ev_none {m:Mac} (hm:OkS m) {out:Int} (h:∀ j,j≤m.out.length→¬ ∃ s,RchJ m j s∧m.o s = out):EvQ m out (-1):=.inl ⟨rfl,fun n e=>by
 obtain ⟨w,hw,hl,hr⟩:=Mac.short hm.ok (dg m.base n).length (dg m.base n) (Nat.le_refl _) (dg_wd hm.b2 n)
 refine h w.length (by omega) ⟨m.run 0 w,⟨w,hw,rfl,rfl⟩,?_⟩
 rw [hr]
 exact e⟩
theorem ev_first {m:Mac} {out:Int} (h:m.o 0 = out):EvQ m out 0:=.inr ⟨0,rfl,h,fun _ _=>Nat.zero_le _⟩
theorem ev_same {m:Mac} (hm:OkS m) {out V:Int} (h:EvQ m out V):gl (m.evK out m.out.length) 0 = V:=by
 rcases Mac.ever_ok hm.ok hm.b2 hm.zer out with ⟨e,k⟩ | ⟨n,e,k1,k2⟩
 ·rcases h with ⟨rfl,_⟩ | ⟨n',_,h1,_⟩
  ·exact e
  ·exact absurd h1 (k n')
 ·rcases h with ⟨_,h1⟩ | ⟨n',rfl,h1,h2⟩
  ·exact absurd k1 (h1 n)
  ·rw [e]
   have:=k2 n' h1
   have:=h2 n k1
   omega
theorem Bk.start {m:Mac} (hm:m.Ok) {out:Int} {j:Nat} {goal:List Bool} (hl:goal.length = m.out.length) (hg:∀ s,s < m.out.length→(gb goal s = true↔m.o s = out)) (hex:∃ s,RchJ m j s∧m.o s = out):Bk m out j j [] goal:=⟨by simp [Mac.Wd],by simp,hl,hg,hex,fun s v' _ _ hv' _=>by rw [List.eq_nil_of_length_eq_zero hv']; exact Nat.le_refl _⟩
end Go.Proofs.Ytedneplaibmppaa
namespace Go.Proofs.Ytedneplaibmppaa
open Go.Rx Go.RowKit
def bl (L:List (List Bool)) (i:Nat):List Bool:=L.getD i []
def SetV (H:Hp) (v:Value) (n:Nat) (L:List (List Bool)):Prop:=∃ a c,v = .slice a L.length c∧∀ i,i < L.length→∃ r o sp ri,a = some ⟨r,o,sp⟩∧voidSp sp = false∧cellAt H r (offAt o i 1) = some (slc ri 0 n n)∧H.at ri = some (.row 4 true ((bl L i).map Value.bool))
theorem SetV.ext {H H':Hp} {v:Value} {n:Nat} {L:List (List Bool)} (g:Grows H H') (k:SetV H v n L):SetV H' v n L:=by
 obtain ⟨a,c,e,h⟩:=k
 refine ⟨a,c,e,fun i hi=>?_⟩
 obtain ⟨r,o,sp,ri,h1,h2,h3,h4⟩:=h i hi
 exact ⟨r,o,sp,ri,h1,h2,g.cell h3,g.at_ _ _ h4⟩
theorem bool_cell {H:Hp} {r:Nat} {ms:List Bool} (h:H.at r = some (.row 4 true (ms.map Value.bool))) {i:Nat} (hi:i < ms.length):cellAt H r (offAt 0 i 1) = some (.bool (gb ms i)):=cell_row h (by
 rw [List.getElem?_map,List.getElem?_eq_getElem hi,gb_at hi]; rfl)
theorem sm_start (H:Hp) (n:Nat):SM H H.next (List.replicate n false) (H.lay (.row 4 true (times [.bool false] n))):=⟨by rw [Hp.at_lay_self,times_bool],Grows.lay _ _,Nat.le_refl _⟩
attribute [local irreducible] E idxN cellAt cellsAt storeAt callable helems hmoved lookIn findKey keyOk hentries Hp.at Hp.set Hp.lay arBits hupdated setAt CallP YieldP BoolOf IsWrap Rnd LoopP AppP CutP Int.tmod Int.tdiv Int.fdiv
section
variable [Unknowns]
attribute [local irreducible] ResP sameAt
theorem RBack_spec (v vs:Value) (m:Mac) (L:List (List Bool)) (j:Nat) (out:Int) (h:Hp) (hv:MV h v m.i) (hs:SetV h vs m.out.length L) (hm:OkS m) (hj:j≤m.out.length) (hjL:j≤L.length) (hSb:∀ i,i < j→Sb m i (bl L i)) (hex:∃ s,RchJ m j s∧m.o s = out):CallP E 87 [v,vs,int j,int out] h (fun r h'=>(∃ V,r = int V∧EvQ m out V)∧Grows h h'):=by
 obtain ⟨bx,rfl,hbx⟩:=hv.box
 obtain ⟨ao,an,co,cn,hcx⟩:=hbx.cx
 obtain ⟨sa,sc,rfl,-⟩:=id hs
 have hn12:=hm.n12
 have hb5:=hm.b5
 have hb1:=hm.ok.b1
 have hil:=hm.ok.ilen
 have hexn:∃ n,m.out.length = n:=⟨_,rfl⟩
 obtain ⟨n,en⟩:=hexn
 refine enter87 (by simp) ?_
 conv=>whnf
 refine SeqP.cut (α:=Hp) (fun _=>[(4,ptr h.next 0),(1,.slice sa L.length sc),(2,int j),(3,int out)]) (fun x H=>x = H∧Grows h H∧H.at h.next = some (.row 26 true bx)) ?_ ?_
 ·conv=>whnf
  exact ⟨_,⟨rfl,rfl,rfl,rfl,trivial⟩,⟨rfl,Grows.lay _ _,Hp.at_lay_self _ _⟩,rfl⟩
 rintro H φ1 _ ⟨rfl,gH,aX⟩
 have kx:=hcx H h.next 26 gH aX
 have c0:cellAt H h.next 0 = some (int (m.base:Int)):=kx.c0
 have c1:cellAt H h.next 1 = some (.slice ao m.out.length co):=kx.c1
 have c2:=kx.c2
 have hs0:=hs.ext gH
 rw [en] at c1 hil hn12 hs0 hj
 conv=>whnf
 refine SeqP.cut (α:=Unit) (fun _=>[(9,int n),(4,ptr h.next 0),(1,.slice sa L.length sc),(2,int j),(3,int out)]) (fun x H'=>H = H') ?_ ?_
 ·conv=>whnf
  refine ⟨_,c1,?_⟩
  conv=>whnf
  exact ⟨(),⟨rfl,rfl,rfl,rfl,rfl,trivial⟩,rfl,rfl⟩
 rintro _ φ2 _ rfl
 conv=>whnf
 refine SeqP.cut (α:=Hp) (fun _=>[(10,slc H.next 0 n n),(9,int n),(4,ptr h.next 0),(1,.slice sa L.length sc),(2,int j),(3,int out)]) (fun x H'=>x = H'∧SM H H.next (List.replicate n false) x) ?_ ?_
 ·conv=>whnf
  refine ⟨⟨by omega,by omega,by omega,by omega⟩,?_⟩
  conv=>whnf
  exact ⟨_,⟨rfl,rfl,rfl,rfl,rfl,rfl,trivial⟩,⟨rfl,sm_start H n⟩,rfl⟩
 rintro H2 φ3 _ ⟨rfl,sm0⟩
 have hexg:∃ rg,H.next = rg:=⟨_,rfl⟩
 obtain ⟨rg,erg⟩:=hexg
 rw [erg] at sm0 ⊢
 conv=>whnf
 refine SeqP.cut (α:=List Bool×Hp) (fun q=>[(10,slc rg 0 n n),(9,int n),(4,ptr h.next 0),(1,.slice sa L.length sc),(2,int j)]) (fun q H'=>q.2 = H'∧SM H rg q.1 q.2∧q.1.length = n∧∀ s,s < n→(gb q.1 s = true↔m.o s = out)) ?_ ?_
 ·conv=>whnf
  repeat (refine SeqP.go ?_; conv=>whnf)
  refine loop_inv (α:=Nat×List Bool×Hp) (fun q=>[(11,int q.1),(10,slc rg 0 n n),(9,int n),(4,ptr h.next 0),(1,.slice sa L.length sc),(2,int j),(3,int out)]) (fun q=>q.2.2) (fun q=>q.1≤n∧SM H rg q.2.1 q.2.2∧q.2.1.length = n∧∀ s,s < q.1→(gb q.2.1 s = true↔m.o s = out)) (fun q=>n - q.1) (0,_,H2) ⟨Nat.zero_le _,sm0,by simp,fun s hs=>absurd hs (Nat.not_lt_zero _)⟩ ⟨rfl,rfl,rfl,rfl,rfl,rfl,rfl,trivial⟩ (Hp.Le.refl _) ?_
  rintro ⟨i,ms,G⟩ φ4 ⟨hi,sm,hml,hms⟩
  dsimp only at hi sm hml hms ⊢
  conv=>whnf
  repeat (refine SeqP.go ?_; conv=>whnf)
  refine cmpB (fun q1=>?_) (fun q1=>?_)
  rotate_left
  ·have:i = n:=by omega
   subst this
   conv=>whnf
   repeat (refine SeqP.go ?_; conv=>whnf)
   exact ⟨(ms,G),⟨rfl,rfl,rfl,rfl,rfl,trivial⟩,⟨rfl,sm,hml,hms⟩,rfl⟩
  have hoM:=kx.outM (s:=i) (by omega)
  obtain ⟨r5,o5,sp5,ea,hsp5,hc5⟩:=hoM
  subst ea
  have d1:=sm.gr.cell c1
  have d5:=sm.gr.cell hc5
  conv=>whnf
  repeat (refine SeqP.go ?_; conv=>whnf)
  refine ⟨_,d1,?_⟩
  conv=>whnf
  refine ⟨hsp5,⟨by omega,by omega⟩,?_⟩
  conv=>whnf
  refine ⟨_,d5,?_⟩
  conv=>whnf
  refine cmpB (fun q2=>?_) (fun q2=>?_)
  ·conv=>whnf
   refine ⟨rfl,⟨by omega,by omega⟩,?_⟩
   conv=>whnf
   refine ⟨rfl,_,sm.store (by omega) true,?_⟩
   conv=>whnf
   repeat (refine SeqP.go ?_; conv=>whnf)
   refine ⟨((i + 1:Nat):Int),wie (by omega) (by omega),?_⟩
   conv=>whnf
   exact Rnd.mk (i + 1,ms.set i true,_) ⟨by dsimp only; omega,sm.put _,by rw [List.length_set]; exact hml,fun s hs=>by
    rw [gb_setv (by omega)]
    by_cases e:s = i
    ·subst e; rw [if_pos rfl]; exact ⟨fun _=>q2,fun _=>rfl⟩
    ·rw [if_neg e]; exact hms s (by dsimp only at hs; omega)⟩ (by dsimp only; omega) ⟨rfl,rfl,rfl,rfl,rfl,rfl,rfl,trivial⟩ (Hp.Le.refl _) rfl
  ·conv=>whnf
   refine ⟨rfl,⟨by omega,by omega⟩,?_⟩
   conv=>whnf
   refine ⟨rfl,_,sm.store (by omega) false,?_⟩
   conv=>whnf
   repeat (refine SeqP.go ?_; conv=>whnf)
   refine ⟨((i + 1:Nat):Int),wie (by omega) (by omega),?_⟩
   conv=>whnf
   exact Rnd.mk (i + 1,ms.set i false,_) ⟨by dsimp only; omega,sm.put _,by rw [List.length_set]; exact hml,fun s hs=>by
    rw [gb_setv (by omega)]
    by_cases e:s = i
    ·subst e; rw [if_pos rfl]; exact ⟨fun k=>(by cases k),fun k=>absurd k q2⟩
    ·rw [if_neg e]; exact hms s (by dsimp only at hs; omega)⟩ (by dsimp only; omega) ⟨rfl,rfl,rfl,rfl,rfl,rfl,rfl,trivial⟩ (Hp.Le.refl _) rfl
 rintro ⟨g0,H3⟩ φ4 _ ⟨rfl,sm,hgl,hg0⟩
 dsimp only at sm hgl hg0 ⊢
 have bk0:=Bk.start (m:=m) hm.ok (out:=out) (j:=j) (goal:=g0) (by omega) (fun s hs=>hg0 s (by omega)) hex
 conv=>whnf
 refine SeqP.cut (α:=Unit) (fun q=>[(12,int 0),(10,slc rg 0 n n),(9,int n),(4,ptr h.next 0),(1,.slice sa L.length sc),(2,int j)]) (fun q H'=>H3 = H') ?_ ?_
 ·conv=>whnf
  exact ⟨(),⟨rfl,rfl,rfl,rfl,rfl,rfl,trivial⟩,rfl,rfl⟩
 rintro _ φ5 _ rfl
 conv=>whnf
 refine SeqP.cut (α:=List Nat×Hp) (fun q=>[(12,int (val m.base q.1:Nat))]) (fun q H'=>q.2 = H'∧Grows h q.2∧∃ goal,Bk m out j 0 q.1 goal) ?_ ?_
 rotate_left
 ·rintro ⟨v,H4⟩ φ6 _ ⟨rfl,g4,goal,hbk⟩
  dsimp only at g4 hbk ⊢
  conv=>whnf
  repeat (refine SeqP.go ?_; conv=>whnf)
  exact ⟨⟨_,rfl,(hbk.done hm).1⟩,g4⟩
 conv=>whnf
 repeat (refine SeqP.go ?_; conv=>whnf)
 refine loop_inv (α:=Nat×List Nat×Nat×List Bool×Hp) (fun q=>[(2,int q.1),(12,int (val m.base q.2.1:Nat)),(10,slc q.2.2.1 0 n n),(9,int n),(4,ptr h.next 0),(1,.slice sa L.length sc)]) (fun q=>q.2.2.2.2) (fun q=>Grows H q.2.2.2.2∧q.2.2.2.2.at q.2.2.1 = some (.row 4 true (q.2.2.2.1.map Value.bool))∧Bk m out j q.1 q.2.1 q.2.2.2.1) (fun q=>q.1) (j,[],rg,g0,H3) ⟨sm.gr,sm.at_,bk0⟩ ⟨rfl,rfl,rfl,rfl,rfl,rfl,trivial⟩ (Hp.Le.refl _) ?_
 clear bk0 sm sm0 hg0 hgl
 rintro ⟨k,v,rg,goal,G⟩ φ6 ⟨gG,aG,bk⟩
 dsimp only at gG aG bk ⊢
 conv=>whnf
 repeat (refine SeqP.go ?_; conv=>whnf)
 refine cmpB (fun q1=>?_) (fun q1=>?_)
 rotate_left
 ·have:k = 0:=by omega
  subst this
  conv=>whnf
  repeat (refine SeqP.go ?_; conv=>whnf)
  exact ⟨(v,G),⟨rfl,trivial⟩,⟨rfl,gH.trans gG,goal,bk⟩,rfl⟩
 have hexk:∃ k',k = k' + 1:=⟨k - 1,by omega⟩
 obtain ⟨k',rfl⟩:=hexk
 have hbl:=bk.len
 have hsb:=hSb k' (by omega)
 have hglen:=bk.gl_
 obtain ⟨sa',sc',eS,hS⟩:=hs0
 injection eS with eS1 eS2 eS3
 have hSk:=hS k' (by omega)
 obtain ⟨r9,o9,sp9,ri,eS4,hsp9,hc9,hr9⟩:=hSk
 rw [← eS1] at eS4
 subst eS4
 have hvl:val m.base v < m.base ^ (n + 1):=by
  have h1:=val_lt hb1 bk.wd
  have h2:m.base ^ v.length≤m.base ^ (n + 1):=Nat.pow_le_pow_right hb1 (by omega)
  omega
 have hp13:m.base ^ (n + 1)≤1490116119384765625:=pow26 hb5 (by omega) hb1
 conv=>whnf
 refine SeqP.cut (α:=Nat×Nat×List Bool×Hp) (fun q=>[(2,int (k' + 1:Nat)),(12,int (val m.base (q.1 :: v):Nat)),(10,slc q.2.1 0 n n),(9,int n),(4,ptr h.next 0),(1,.slice (some ⟨r9,o9,sp9⟩) L.length sc)]) (fun q H'=>q.2.2.2 = H'∧Grows H q.2.2.2∧q.2.2.2.at q.2.1 = some (.row 4 true (q.2.2.1.map Value.bool))∧Bk m out j k' (q.1 :: v) q.2.2.1) ?_ ?_
 rotate_left
 ·rintro ⟨r,rg2,bf,G2⟩ φ7 _ ⟨rfl,g2,a2,bk2⟩
  dsimp only at g2 a2 bk2 ⊢
  conv=>whnf
  refine ⟨(k':Int),wie (by omega) (by omega),?_⟩
  conv=>whnf
  exact Rnd.mk (k',r :: v,rg2,bf,G2) ⟨g2,a2,bk2⟩ (by dsimp only; omega) ⟨rfl,rfl,rfl,rfl,rfl,rfl,trivial⟩ (Hp.Le.refl _) rfl
 conv=>whnf
 refine SeqP.go ?_
 conv=>whnf
 refine loop_inv (α:=Nat×Hp) (fun q=>[(13,int q.1),(2,int (k' + 1:Nat)),(12,int (val m.base v:Nat)),(10,slc rg 0 n n),(9,int n),(4,ptr h.next 0),(1,.slice (some ⟨r9,o9,sp9⟩) L.length sc)]) (fun q=>q.2) (fun q=>q.1≤m.base∧Grows G q.2∧∀ d,d < q.1→¬ ∃ s,RchJ m k' s∧m.o (m.run s (d :: v)) = out) (fun q=>m.base - q.1) (0,G) ⟨Nat.zero_le _,.refl _,fun d hd=>absurd hd (Nat.not_lt_zero _)⟩ ⟨rfl,rfl,rfl,rfl,rfl,rfl,rfl,trivial⟩ (Hp.Le.refl _) ?_
 rintro ⟨r,K⟩ φ7 ⟨hr,gK,hno⟩
 dsimp only at hr gK hno ⊢
 have gHK:=gG.trans gK
 have e0:=gHK.cell c0
 conv=>whnf
 repeat (refine SeqP.go ?_; conv=>whnf)
 refine ⟨_,e0,?_⟩
 conv=>whnf
 refine cmpB (fun q2=>?_) (fun q2=>?_)
 rotate_left
 ·have hsm:=bk.some_
  obtain ⟨d,hd,hh⟩:=hsm
  exact absurd hh (hno d (by omega))
 have hrb:r < m.base:=by omega
 conv=>whnf
 refine SeqP.go ?_
 conv=>whnf
 refine SeqP.cut (α:=Hp) (fun q=>[(14,slc K.next 0 n n),(13,int r),(2,int (k' + 1:Nat)),(12,int (val m.base v:Nat)),(10,slc rg 0 n n),(9,int n),(4,ptr h.next 0),(1,.slice (some ⟨r9,o9,sp9⟩) L.length sc)]) (fun q H'=>q = H'∧SM K K.next (List.replicate n false) q) ?_ ?_
 ·conv=>whnf
  refine ⟨⟨by omega,by omega,by omega,by omega⟩,?_⟩
  conv=>whnf
  exact ⟨_,⟨rfl,rfl,rfl,rfl,rfl,rfl,rfl,rfl,trivial⟩,⟨rfl,sm_start K n⟩,rfl⟩
 rintro K2 φ8 _ ⟨rfl,sm0⟩
 have hexg:∃ rb,K.next = rb:=⟨_,rfl⟩
 obtain ⟨rb,erb⟩:=hexg
 rw [erb] at sm0 ⊢
 conv=>whnf
 refine SeqP.cut (α:=Unit) (fun q=>[(15,.bool false),(14,slc rb 0 n n),(13,int r),(2,int (k' + 1:Nat)),(12,int (val m.base v:Nat)),(10,slc rg 0 n n),(9,int n),(4,ptr h.next 0),(1,.slice (some ⟨r9,o9,sp9⟩) L.length sc)]) (fun q H'=>K2 = H') ?_ ?_
 ·conv=>whnf
  exact ⟨(),⟨rfl,rfl,rfl,rfl,rfl,rfl,rfl,rfl,rfl,trivial⟩,rfl,rfl⟩
 rintro _ φ9 _ rfl
 conv=>whnf
 refine SeqP.cut (α:=Bool×List Bool×Hp) (fun q=>[(15,.bool q.1),(14,slc rb 0 n n),(13,int r),(2,int (k' + 1:Nat)),(12,int (val m.base v:Nat)),(10,slc rg 0 n n),(9,int n),(4,ptr h.next 0),(1,.slice (some ⟨r9,o9,sp9⟩) L.length sc)]) (fun q H'=>q.2.2 = H'∧SM K rb q.2.1 q.2.2∧q.2.1.length = n∧(∀ s,s < n→gb q.2.1 s = gb goal (m.nx s r))∧(q.1 = true↔∃ s,s < n∧gb goal (m.nx s r) = true∧gb (bl L k') s = true)) ?_ ?_
 ·conv=>whnf
  repeat (refine SeqP.go ?_; conv=>whnf)
  refine loop_inv (α:=Nat×Bool×List Bool×Hp) (fun q=>[(16,int q.1),(15,.bool q.2.1),(14,slc rb 0 n n),(13,int r),(2,int (k' + 1:Nat)),(12,int (val m.base v:Nat)),(10,slc rg 0 n n),(9,int n),(4,ptr h.next 0),(1,.slice (some ⟨r9,o9,sp9⟩) L.length sc)]) (fun q=>q.2.2.2) (fun q=>q.1≤n∧SM K rb q.2.2.1 q.2.2.2∧q.2.2.1.length = n∧(∀ s,s < q.1→gb q.2.2.1 s = gb goal (m.nx s r))∧(q.2.1 = true↔∃ s,s < q.1∧gb goal (m.nx s r) = true∧gb (bl L k') s = true)) (fun q=>n - q.1) (0,false,_,K2) ⟨Nat.zero_le _,sm0,by simp,fun s hs=>absurd hs (Nat.not_lt_zero _),fun e=>(by cases e),fun ⟨s,hs,_⟩=>absurd hs (Nat.not_lt_zero _)⟩ ⟨rfl,rfl,rfl,rfl,rfl,rfl,rfl,rfl,rfl,rfl,trivial⟩ (Hp.Le.refl _) ?_
  rintro ⟨s,fd,ms,G3⟩ φ10 ⟨hsn,sm,hml,hms,hfd⟩
  dsimp only at hsn sm hml hms hfd ⊢
  conv=>whnf
  repeat (refine SeqP.go ?_; conv=>whnf)
  refine cmpB (fun q3=>?_) (fun q3=>?_)
  rotate_left
  ·have:s = n:=by omega
   subst this
   conv=>whnf
   repeat (refine SeqP.go ?_; conv=>whnf)
   exact ⟨(fd,ms,G3),⟨rfl,rfl,rfl,rfl,rfl,rfl,rfl,rfl,rfl,trivial⟩,⟨rfl,sm,hml,hms,hfd⟩,rfl⟩
  have hnx:=kx.nextAt hm.ok (s:=s) (d:=r) (by omega) hrb
  obtain ⟨r1,o1,sp1,r2,o2,sp2,c2',ean,hsp1,hc1,hsp2,hc2⟩:=hnx
  subst ean
  have hnl:=hm.ok.lt s r (by omega) hrb
  have hext:∃ t,m.nx s r = t:=⟨_,rfl⟩
  obtain ⟨t,et⟩:=hext
  rw [et] at hnl hc2
  have gH3:=gHK.trans sm.gr
  have d2:=gH3.cell c2
  have d3:=gH3.cell hc1
  have d4:=gH3.cell hc2
  have aG3:=(gK.trans sm.gr).at_ _ _ aG
  have d5:=bool_cell aG3 (i:=t) (by omega)
  have d6:=gH3.cell hc9
  have d7:=gH3.at_ _ _ hr9
  have d8:=bool_cell d7 (i:=s) (by rw [hsb.len]; omega)
  have hexb:∃ b1,gb goal t = b1:=⟨_,rfl⟩
  obtain ⟨b1,eb1⟩:=hexb
  have hexb:∃ b2,gb (bl L k') s = b2:=⟨_,rfl⟩
  obtain ⟨b2,eb2⟩:=hexb
  rw [eb1] at d5
  rw [eb2] at d8
  have hsl:(bl L k').length = n:=by rw [hsb.len]; omega
  conv=>whnf
  refine SeqP.go ?_
  conv=>whnf
  refine SeqP.cut (α:=Hp) (fun q=>[(16,int s),(15,.bool fd),(14,slc rb 0 n n),(13,int r),(2,int (k' + 1:Nat)),(12,int (val m.base v:Nat)),(10,slc rg 0 n n),(9,int n),(4,ptr h.next 0),(1,.slice (some ⟨r9,o9,sp9⟩) L.length sc)]) (fun q H'=>q = H'∧SM K rb (ms.set s b1) q) ?_ ?_
  ·conv=>whnf
   refine ⟨_,d2,?_⟩
   conv=>whnf
   refine ⟨hsp1,⟨by omega,by omega⟩,?_⟩
   conv=>whnf
   refine ⟨_,d3,?_⟩
   conv=>whnf
   refine ⟨hsp2,⟨by omega,by omega⟩,?_⟩
   conv=>whnf
   refine ⟨_,d4,?_⟩
   conv=>whnf
   refine ⟨rfl,⟨by omega,by omega⟩,?_⟩
   conv=>whnf
   refine ⟨_,d5,?_⟩
   conv=>whnf
   refine ⟨rfl,⟨by omega,by omega⟩,?_⟩
   conv=>whnf
   refine ⟨rfl,_,sm.store (by omega) b1,?_⟩
   conv=>whnf
   exact ⟨_,⟨rfl,rfl,rfl,rfl,rfl,rfl,rfl,rfl,rfl,rfl,trivial⟩,⟨rfl,sm.put _⟩,rfl⟩
  rintro G4 φ11 _ ⟨rfl,sm4⟩
  have hml4:(ms.set s b1).length = n:=by rw [List.length_set]; exact hml
  have hms4:∀ s',s' < s + 1→gb (ms.set s b1) s' = gb goal (m.nx s' r):=fun s' hs'=>by
   rw [gb_setv (by omega)]
   by_cases e:s' = s
   ·subst e; rw [if_pos rfl,et,eb1]
   ·rw [if_neg e]; exact hms s' (by omega)
  have f1:=sm4.load (i:=s) (by omega)
  rw [hms4 s (by omega),et,eb1] at f1
  have f6:=(gHK.trans sm4.gr).cell hc9
  have f7:=(gHK.trans sm4.gr).at_ _ _ hr9
  have f8:=bool_cell f7 (i:=s) (by omega)
  rw [eb2] at f8
  have hstep:∀ b:Bool,(b = true↔fd = true∨b1 = true∧b2 = true)→(b = true↔∃ s',s' < s + 1∧gb goal (m.nx s' r) = true∧gb (bl L k') s' = true):=fun b hb=>by
   rw [hb]
   constructor
   ·rintro (q | ⟨q,q'⟩)
    ·obtain ⟨s',h1,h2⟩:=hfd.1 q
     exact ⟨s',by omega,h2⟩
    ·exact ⟨s,by omega,by rw [et,eb1]; exact q,by rw [eb2]; exact q'⟩
   ·rintro ⟨s',h1,h2,h3⟩
    by_cases e:s' = s
    ·subst e
     rw [et,eb1] at h2
     rw [eb2] at h3
     exact .inr ⟨h2,h3⟩
    ·exact .inl (hfd.2 ⟨s',by omega,h2,h3⟩)
  cases fd with
  | true =>
   conv=>whnf
   repeat (refine SeqP.go ?_; conv=>whnf)
   refine ⟨((s + 1:Nat):Int),wie (by omega) (by omega),?_⟩
   conv=>whnf
   exact Rnd.mk (s + 1,true,ms.set s b1,G4) ⟨by dsimp only; omega,sm4,hml4,hms4,hstep true (by simp)⟩ (by dsimp only; omega) ⟨rfl,rfl,rfl,rfl,rfl,rfl,rfl,rfl,rfl,rfl,trivial⟩ (Hp.Le.refl _) rfl
  | false =>
   cases b1 with
   | false =>
    conv=>whnf
    repeat (refine SeqP.go ?_; conv=>whnf)
    refine ⟨rfl,⟨by omega,by omega⟩,?_⟩
    conv=>whnf
    refine ⟨_,f1,?_⟩
    conv=>whnf
    repeat (refine SeqP.go ?_; conv=>whnf)
    refine ⟨((s + 1:Nat):Int),wie (by omega) (by omega),?_⟩
    conv=>whnf
    exact Rnd.mk (s + 1,false,ms.set s false,G4) ⟨by dsimp only; omega,sm4,hml4,hms4,hstep false (by simp)⟩ (by dsimp only; omega) ⟨rfl,rfl,rfl,rfl,rfl,rfl,rfl,rfl,rfl,rfl,trivial⟩ (Hp.Le.refl _) rfl
   | true =>
    conv=>whnf
    repeat (refine SeqP.go ?_; conv=>whnf)
    refine ⟨rfl,⟨by omega,by omega⟩,?_⟩
    conv=>whnf
    refine ⟨_,f1,?_⟩
    conv=>whnf
    refine ⟨(k':Int),wie (by omega) (by omega),?_⟩
    conv=>whnf
    refine ⟨hsp9,⟨by omega,by omega⟩,?_⟩
    conv=>whnf
    refine ⟨_,f6,?_⟩
    conv=>whnf
    refine ⟨rfl,⟨by omega,by omega⟩,?_⟩
    conv=>whnf
    refine ⟨_,f8,?_⟩
    conv=>whnf
    repeat (refine SeqP.go ?_; conv=>whnf)
    refine ⟨((s + 1:Nat):Int),wie (by omega) (by omega),?_⟩
    conv=>whnf
    exact Rnd.mk (s + 1,b2,ms.set s true,G4) ⟨by dsimp only; omega,sm4,hml4,hms4,hstep b2 (by simp)⟩ (by dsimp only; omega) ⟨rfl,rfl,rfl,rfl,rfl,rfl,rfl,rfl,rfl,rfl,trivial⟩ (Hp.Le.refl _) rfl
 rintro ⟨fd,bf,G3⟩ φ10 _ ⟨rfl,sm,hbl2,hbf,hfd⟩
 dsimp only at sm hbl2 hbf hfd ⊢
 have hfd2:fd = true↔∃ s,RchJ m k' s∧m.o (m.run s (r :: v)) = out:=by
  rw [hfd]
  constructor
  ·rintro ⟨s,h1,h2,h3⟩
   exact ⟨s,(hsb.iff s (by omega)).1 h3,(bk.iff _ (hm.ok.lt s r (by omega) hrb)).1 h2⟩
  ·rintro ⟨s,h1,h2⟩
   have hsl:=rch_lt hm.ok h1
   exact ⟨s,by omega,(bk.iff _ (hm.ok.lt s r hsl hrb)).2 h2,(hsb.iff s hsl).2 h1⟩
 have gH3:=gHK.trans sm.gr
 cases fd with
 | true =>
  have bk2:=bk.next hm.ok hrb (by omega) (fun s hs=>hbf s (by omega)) (hfd2.1 rfl) hno
  have ev:val m.base (r :: v) = r + m.base * val m.base v:=rfl
  have em:((val m.base v:Nat):Int) * (m.base:Int) = ((m.base * val m.base v:Nat):Int):=by rw [Int.natCast_mul,Int.mul_comm]
  have hv2:=val_lt hb1 bk2.wd
  have hv3:m.base ^ (r :: v).length≤m.base ^ (n + 1):=Nat.pow_le_pow_right hb1 (by have:=bk2.len; omega)
  have f0:=gH3.cell c0
  have hexV:∃ V,m.base * val m.base v = V:=⟨_,rfl⟩
  obtain ⟨V,eV⟩:=hexV
  rw [eV] at em ev
  have eW:(V:Int) + (r:Int) = ((val m.base (r :: v):Nat):Int):=by rw [ev]; omega
  conv=>whnf
  repeat (refine SeqP.go ?_; conv=>whnf)
  refine ⟨_,f0,?_⟩
  conv=>whnf
  refine ⟨(V:Int),wie em (by omega),?_⟩
  conv=>whnf
  refine ⟨_,wie eW (by omega),?_⟩
  conv=>whnf
  repeat (refine SeqP.go ?_; conv=>whnf)
  exact ⟨(r,rb,bf,G3),⟨rfl,rfl,rfl,rfl,rfl,rfl,trivial⟩,⟨rfl,gH3,sm.at_,bk2⟩,rfl⟩
 | false =>
  conv=>whnf
  repeat (refine SeqP.go ?_; conv=>whnf)
  refine ⟨((r + 1:Nat):Int),wie (by omega) (by omega),?_⟩
  conv=>whnf
  exact Rnd.mk (r + 1,G3) ⟨by dsimp only; omega,gK.trans sm.gr,fun d hd=>by
   by_cases e:d = r
   ·subst e
    intro k
    have:=hfd2.2 k
    cases this
   ·exact hno d (by dsimp only at hd; omega)⟩ (by dsimp only; omega) ⟨rfl,rfl,rfl,rfl,rfl,rfl,rfl,trivial⟩ (Hp.Le.refl _) rfl
end
end Go.Proofs.Ytedneplaibmppaa
namespace Go.Proofs.Ytedneplaibmppaa
open Go.Rx Go.RowKit
structure StV (H G:Hp) (v:Value) (n:Nat) (rs:List Nat) (L:List (List Bool)):Prop where
 b:BuiltC H G 87 1 v rs.length (rs.map fun r=>slc r 0 n n)
 len:rs.length = L.length
 row:∀ (i:Nat) r,rs[i]? = some r→G.at r = some (.row 4 true ((bl L i).map Value.bool))
theorem StV.ext {H G G':Hp} {v:Value} {n:Nat} {rs:List Nat} {L:List (List Bool)} (k:StV H G v n rs L) (g:Grows G G'):StV H G' v n rs L:=⟨k.b.ext g,k.len,fun i r e=>g.at_ _ _ (k.row i r e)⟩
theorem StV.set {H G:Hp} {v:Value} {n:Nat} {rs:List Nat} {L:List (List Bool)} (k:StV H G v n rs L):SetV G v n L:=by
 have hs:=k.b.slice
 obtain ⟨a,e,-⟩:=hs
 refine ⟨a,L.length,by rw [e,k.len],fun i hi=>?_⟩
 obtain ⟨hl,⟨_,e1⟩ | ⟨r,er,_,y,hr⟩⟩:=k.b
 ·have:=k.len; omega
 rw [er] at e
 injection e with e
 subst e
 have hi':i < rs.length:=by rw [k.len]; exact hi
 exact ⟨r,0,none,rs[i],rfl,rfl,cell_row hr (by rw [List.getElem?_map,List.getElem?_eq_getElem hi']; rfl),k.row i _ (List.getElem?_eq_getElem hi')⟩
theorem bl_app1 {L:List (List Bool)} {x:List Bool} {i:Nat} (h:i < L.length):bl (L ++ [x]) i = bl L i:=by
 unfold bl
 rw [List.getD_eq_getElem?_getD,List.getD_eq_getElem?_getD,List.getElem?_append_left h]
theorem bl_app2 (L:List (List Bool)) (x:List Bool):bl (L ++ [x]) L.length = x:=by
 unfold bl
 rw [List.getD_eq_getElem?_getD,List.getElem?_append_right (Nat.le_refl _)]; simp
attribute [local irreducible] E idxN cellAt cellsAt storeAt callable helems hmoved lookIn findKey keyOk hentries Hp.at Hp.set Hp.lay arBits hupdated setAt CallP YieldP BoolOf IsWrap Rnd LoopP AppP CutP Int.tmod Int.tdiv Int.fdiv
section
variable [Unknowns]
attribute [local irreducible] ResP sameAt
theorem REver_spec (v:Value) (m:Mac) (out:Int) (h:Hp) (hv:MV h v m.i) (hm:OkS m):CallP E 55 [v,int out] h (fun r h'=>(∃ V,r = int V∧EvQ m out V)∧Grows h h'):=by
 obtain ⟨bx,rfl,hbx⟩:=hv.box
 obtain ⟨ao,an,co,cn,hcx⟩:=hbx.cx
 have hn12:=hm.n12
 have hb5:=hm.b5
 have hb1:=hm.ok.b1
 have hil:=hm.ok.ilen
 have hn1:=hm.ok.n1
 have hexn:∃ n,m.out.length = n:=⟨_,rfl⟩
 obtain ⟨n,en⟩:=hexn
 refine enter55 (by simp) ?_
 conv=>whnf
 refine SeqP.cut (α:=Hp) (fun _=>[(2,ptr h.next 0),(1,int out)]) (fun x H=>x = H∧Grows h H∧H.at h.next = some (.row 26 true bx)) ?_ ?_
 ·conv=>whnf
  exact ⟨_,⟨rfl,rfl,trivial⟩,⟨rfl,Grows.lay _ _,Hp.at_lay_self _ _⟩,rfl⟩
 rintro H φ1 _ ⟨rfl,gH,aX⟩
 have kx:=hcx H h.next 26 gH aX
 have c0:cellAt H h.next 0 = some (int (m.base:Int)):=kx.c0
 have c1:cellAt H h.next 1 = some (.slice ao m.out.length co):=kx.c1
 have c2:=kx.c2
 have ho0:=kx.outM (s:=0) hn1
 obtain ⟨r0,o0,sp0,eao,hsp0,hc0⟩:=ho0
 subst eao
 conv=>whnf
 refine SeqP.cut (α:=Unit) (fun _=>[(2,ptr h.next 0),(1,int out)]) (fun x H'=>H = H') ?_ ?_
 ·conv=>whnf
  refine SeqP.go ?_
  conv=>whnf
  refine ⟨_,c1,?_⟩
  conv=>whnf
  refine ⟨hsp0,⟨by omega,by omega⟩,?_⟩
  conv=>whnf
  refine ⟨_,hc0,?_⟩
  conv=>whnf
  refine cmpB (fun q1=>?_) (fun q1=>?_)
  ·conv=>whnf
   repeat (refine SeqP.go ?_; conv=>whnf)
   exact ⟨⟨0,rfl,ev_first q1⟩,gH⟩
  conv=>whnf
  repeat (refine SeqP.go ?_; conv=>whnf)
  exact ⟨(),⟨rfl,rfl,trivial⟩,rfl,rfl⟩
 rintro _ φ2 _ rfl
 rw [en] at c1 hil hn12 hn1
 conv=>whnf
 refine SeqP.cut (α:=Unit) (fun _=>[(5,int n),(2,ptr h.next 0),(1,int out)]) (fun x H'=>H = H') ?_ ?_
 ·conv=>whnf
  refine ⟨_,c1,?_⟩
  conv=>whnf
  exact ⟨(),⟨rfl,rfl,rfl,trivial⟩,rfl,rfl⟩
 rintro _ φ3 _ rfl
 have n1:(H.lay (.row 4 true (times [.bool false] n))).next = H.next + 1:=Hp.next_lay _ _
 conv=>whnf
 refine SeqP.cut (α:=Hp) (fun _=>[(6,slc (H.next + 1) 0 1 1),(5,int n),(2,ptr h.next 0),(1,int out)]) (fun x H'=>x = H'∧SM H H.next (List.replicate n false) x∧x.at (H.next + 1) = some (.row 87 true [slc H.next 0 n n])) ?_ ?_
 ·conv=>whnf
  refine ⟨⟨by omega,by omega,by omega,by omega⟩,?_⟩
  conv=>whnf
  have sm:=sm_start H n
  refine ⟨_,⟨congrArg (fun k=>slc k 0 1 1) n1,rfl,rfl,rfl,trivial⟩,⟨rfl,⟨Hp.at_lay_old _ sm.at_,sm.gr.then_lay _,sm.hr⟩,at_nx2 n1 (Hp.at_lay_self _ _)⟩,rfl⟩
 rintro H2 φ4 _ ⟨rfl,sm0,a6⟩
 have hexg:∃ rg,H.next = rg:=⟨_,rfl⟩
 obtain ⟨rg,erg⟩:=hexg
 rw [erg] at sm0 a6 ⊢
 conv=>whnf
 refine SeqP.cut (α:=Hp) (fun _=>[(6,slc (rg + 1) 0 1 1),(5,int n),(2,ptr h.next 0),(1,int out)]) (fun x H'=>x = H'∧Grows H x∧StV H x (slc (rg + 1) 0 1 1) n [rg] [(List.replicate n false).set 0 true]) ?_ ?_
 ·have c6:=cell_row (k:=0) a6 rfl
  conv=>whnf
  refine ⟨rfl,⟨by omega,by omega⟩,?_⟩
  conv=>whnf
  refine ⟨_,c6,?_⟩
  conv=>whnf
  refine ⟨rfl,⟨by omega,by omega⟩,?_⟩
  conv=>whnf
  refine ⟨rfl,_,sm0.store (by simp; omega) true,?_⟩
  conv=>whnf
  refine ⟨_,⟨rfl,rfl,rfl,rfl,trivial⟩,⟨rfl,(sm0.put _).gr,⟨rfl,.inr ⟨rg + 1,rfl,by omega,true,by rw [Hp.at_set_ne _ (by omega)]; exact a6⟩⟩,rfl,fun i r e=>?_⟩,rfl⟩
  match i,e with
  | 0,e=>cases e; exact (sm0.put _).at_
 rintro H3 φ5 _ ⟨rfl,g3,st0⟩
 have hsb0:=Sb.start hm.ok
 rw [en] at hsb0
 have hS0:∀ i,i≤0→Sb m i (bl [(List.replicate n false).set 0 true] i):=fun i hi=>by
  have:i = 0:=by omega
  subst this
  exact hsb0
 conv=>whnf
 refine SeqP.cut (α:=Unit) (fun _=>[]) (fun x H'=>Grows h H'∧∀ j,j≤m.out.length→¬ ∃ s,RchJ m j s∧m.o s = out) ?_ ?_
 rotate_left
 ·rintro _ φ6 H4 ⟨g4,hno⟩
  conv=>whnf
  repeat (refine SeqP.go ?_; conv=>whnf)
  exact ⟨⟨-1,rfl,ev_none hm hno⟩,g4⟩
 conv=>whnf
 repeat (refine SeqP.go ?_; conv=>whnf)
 refine loop_inv (α:=Nat×Value×List Nat×List (List Bool)×Hp) (fun q=>[(7,int q.1),(6,q.2.1),(5,int n),(2,ptr h.next 0),(1,int out)]) (fun q=>q.2.2.2.2) (fun q=>q.1≤n + 1∧Grows H q.2.2.2.2∧StV H q.2.2.2.2 q.2.1 n q.2.2.1 q.2.2.2.1∧q.2.2.2.1.length = q.1 + 1∧(∀ i,i≤q.1→Sb m i (bl q.2.2.2.1 i))∧∀ i,i < q.1→¬ ∃ s,RchJ m i s∧m.o s = out) (fun q=>n + 1 - q.1) (0,_,[rg],_,H3) ⟨Nat.zero_le _,g3,st0,rfl,hS0,fun i hi=>absurd hi (Nat.not_lt_zero _)⟩ ⟨rfl,rfl,rfl,rfl,rfl,trivial⟩ (Hp.Le.refl _) ?_
 clear st0 hS0 hsb0 sm0 a6 g3
 rintro ⟨j,v6,rs,L,K⟩ φ6 ⟨hj,gK,st,hLl,hSb,hno⟩
 dsimp only at hj gK st hLl hSb hno ⊢
 have hv6:=st.b.slice
 obtain ⟨a6,ev6,-⟩:=hv6
 have hrl:=st.len
 rw [hrl,hLl] at ev6
 subst ev6
 conv=>whnf
 repeat (refine SeqP.go ?_; conv=>whnf)
 refine cmpB (fun q1=>?_) (fun q1=>?_)
 rotate_left
 ·conv=>whnf
  repeat (refine SeqP.go ?_; conv=>whnf)
  exact ⟨(),trivial,⟨gH.trans gK,fun i hi=>hno i (by omega)⟩,rfl⟩
 have hjn:j≤n:=by omega
 have hsb:=hSb j (Nat.le_refl _)
 have hcl:=hsb.len
 have hset:=st.set
 obtain ⟨sa',sc',eS,hS⟩:=hset
 injection eS with eS1 eS2 eS3
 have hSk:=hS j (by omega)
 obtain ⟨r9,o9,sp9,ri,eS4,hsp9,hc9,hr9⟩:=hSk
 rw [← eS1] at eS4
 subst eS4
 have hexc:∃ cur,bl L j = cur:=⟨_,rfl⟩
 obtain ⟨cur,ecur⟩:=hexc
 rw [ecur] at hsb hcl hr9
 conv=>whnf
 refine SeqP.go ?_
 conv=>whnf
 refine SeqP.cut (α:=Hp) (fun q=>[(8,slc K.next 0 n n),(7,int j),(6,.slice (some ⟨r9,o9,sp9⟩) (j + 1) (j + 1)),(5,int n),(2,ptr h.next 0),(1,int out)]) (fun q H'=>q = H'∧SM K K.next (List.replicate n false) q) ?_ ?_
 ·conv=>whnf
  refine ⟨⟨by omega,by omega,by omega,by omega⟩,?_⟩
  conv=>whnf
  exact ⟨_,⟨rfl,rfl,rfl,rfl,rfl,rfl,trivial⟩,⟨rfl,sm_start K n⟩,rfl⟩
 rintro K2 φ7 _ ⟨rfl,sm0⟩
 have hexg:∃ rb,K.next = rb:=⟨_,rfl⟩
 obtain ⟨rb,erb⟩:=hexg
 rw [erb] at sm0 ⊢
 conv=>whnf
 refine SeqP.cut (α:=Unit) (fun q=>[(9,.bool false),(8,slc rb 0 n n),(7,int j),(6,.slice (some ⟨r9,o9,sp9⟩) (j + 1) (j + 1)),(5,int n),(2,ptr h.next 0),(1,int out)]) (fun q H'=>K2 = H') ?_ ?_
 ·conv=>whnf
  exact ⟨(),⟨rfl,rfl,rfl,rfl,rfl,rfl,rfl,trivial⟩,rfl,rfl⟩
 rintro _ φ8 _ rfl
 have nb0:Nb m cur 0 0 (List.replicate n false):=by rw [← en]; exact Nb.start
 conv=>whnf
 refine SeqP.cut (α:=Bool×List Bool×Hp) (fun q=>[(9,.bool q.1),(8,slc rb 0 n n),(7,int j),(6,.slice (some ⟨r9,o9,sp9⟩) (j + 1) (j + 1)),(5,int n),(2,ptr h.next 0),(1,int out)]) (fun q H'=>q.2.2 = H'∧SM K rb q.2.1 q.2.2∧Nb m cur n 0 q.2.1∧(q.1 = true↔∃ s,s < n∧gb cur s = true∧m.o s = out)) ?_ ?_
 ·conv=>whnf
  repeat (refine SeqP.go ?_; conv=>whnf)
  refine loop_inv (α:=Nat×Bool×List Bool×Hp) (fun q=>[(10,int q.1),(9,.bool q.2.1),(8,slc rb 0 n n),(7,int j),(6,.slice (some ⟨r9,o9,sp9⟩) (j + 1) (j + 1)),(5,int n),(2,ptr h.next 0),(1,int out)]) (fun q=>q.2.2.2) (fun q=>q.1≤n∧SM K rb q.2.2.1 q.2.2.2∧Nb m cur q.1 0 q.2.2.1∧(q.2.1 = true↔∃ s,s < q.1∧gb cur s = true∧m.o s = out)) (fun q=>n - q.1) (0,false,_,K2) ⟨Nat.zero_le _,sm0,nb0,fun e=>(by cases e),fun ⟨s,hs,_⟩=>absurd hs (Nat.not_lt_zero _)⟩ ⟨rfl,rfl,rfl,rfl,rfl,rfl,rfl,rfl,trivial⟩ (Hp.Le.refl _) ?_
  rintro ⟨s,fb,ms,G⟩ φ9 ⟨hsn,sm,nb,hfb⟩
  dsimp only at hsn sm nb hfb ⊢
  conv=>whnf
  repeat (refine SeqP.go ?_; conv=>whnf)
  refine cmpB (fun q2=>?_) (fun q2=>?_)
  rotate_left
  ·have:s = n:=by omega
   subst this
   conv=>whnf
   repeat (refine SeqP.go ?_; conv=>whnf)
   exact ⟨(fb,ms,G),⟨rfl,rfl,rfl,rfl,rfl,rfl,rfl,trivial⟩,⟨rfl,sm,nb,hfb⟩,rfl⟩
  have hs':s < n:=by omega
  have gG:=gK.trans sm.gr
  have hoM:=kx.outM (s:=s) (by omega)
  obtain ⟨r5,o5,sp5,ea5,hsp5,hc5⟩:=hoM
  injection ea5 with ea5
  injection ea5 with ea51 ea52 ea53
  subst ea51
  subst ea52
  subst ea53
  have d1:=gG.cell c1
  have d5:=gG.cell hc5
  have d9:=sm.gr.cell hc9
  have d8:=bool_cell (sm.gr.at_ _ _ hr9) (i:=s) (by omega)
  have hexb:∃ b2,gb cur s = b2:=⟨_,rfl⟩
  obtain ⟨b2,eb2⟩:=hexb
  rw [eb2] at d8
  conv=>whnf
  refine SeqP.go ?_
  conv=>whnf
  refine SeqP.cut (α:=Bool) (fun q=>[(10,int s),(9,.bool q),(8,slc rb 0 n n),(7,int j),(6,.slice (some ⟨r9,o9,sp9⟩) (j + 1) (j + 1)),(5,int n),(2,ptr h.next 0),(1,int out)]) (fun q H'=>G = H'∧(q = true↔fb = true∨b2 = true∧m.o s = out)) ?_ ?_
  ·cases fb with
   | true =>
    conv=>whnf
    exact ⟨true,⟨rfl,rfl,rfl,rfl,rfl,rfl,rfl,rfl,trivial⟩,⟨rfl,by simp⟩,rfl⟩
   | false =>
    cases b2 with
    | false =>
     conv=>whnf
     refine ⟨hsp9,⟨by omega,by omega⟩,?_⟩
     conv=>whnf
     refine ⟨_,d9,?_⟩
     conv=>whnf
     refine ⟨rfl,⟨by omega,by omega⟩,?_⟩
     conv=>whnf
     refine ⟨_,d8,?_⟩
     conv=>whnf
     exact ⟨false,⟨rfl,rfl,rfl,rfl,rfl,rfl,rfl,rfl,trivial⟩,⟨rfl,by simp⟩,rfl⟩
    | true =>
     conv=>whnf
     refine ⟨hsp9,⟨by omega,by omega⟩,?_⟩
     conv=>whnf
     refine ⟨_,d9,?_⟩
     conv=>whnf
     refine ⟨rfl,⟨by omega,by omega⟩,?_⟩
     conv=>whnf
     refine ⟨_,d8,?_⟩
     conv=>whnf
     refine ⟨_,d1,?_⟩
     conv=>whnf
     refine ⟨hsp5,⟨by omega,by omega⟩,?_⟩
     conv=>whnf
     refine ⟨_,d5,?_⟩
     conv=>whnf
     refine cmpB (fun q3=>?_) (fun q3=>?_)
     ·conv=>whnf
      exact ⟨true,⟨rfl,rfl,rfl,rfl,rfl,rfl,rfl,rfl,trivial⟩,⟨rfl,fun _=>.inr ⟨rfl,q3⟩,fun _=>rfl⟩,rfl⟩
     ·conv=>whnf
      exact ⟨false,⟨rfl,rfl,rfl,rfl,rfl,rfl,rfl,rfl,trivial⟩,⟨rfl,fun e=>(by cases e),fun k=>absurd k (by simp; exact q3)⟩,rfl⟩
  rintro fb2 φ10 _ ⟨rfl,hfb2⟩
  have hfb3:fb2 = true↔∃ s',s' < s + 1∧gb cur s' = true∧m.o s' = out:=by
   rw [hfb2]
   constructor
   ·rintro (q | ⟨q,q'⟩)
    ·obtain ⟨s',h1,h2⟩:=hfb.1 q
     exact ⟨s',by omega,h2⟩
    ·exact ⟨s,by omega,by rw [eb2]; exact q,q'⟩
   ·rintro ⟨s',h1,h2,h3⟩
    by_cases e:s' = s
    ·subst e
     rw [eb2] at h2
     exact .inr ⟨h2,h3⟩
    ·exact .inl (hfb.2 ⟨s',by omega,h2,h3⟩)
  clear hfb hfb2
  conv=>whnf
  repeat (refine SeqP.go ?_; conv=>whnf)
  refine loop_inv (α:=Nat×List Bool×Hp) (fun q=>[(11,int q.1),(10,int s),(9,.bool fb2),(8,slc rb 0 n n),(7,int j),(6,.slice (some ⟨r9,o9,sp9⟩) (j + 1) (j + 1)),(5,int n),(2,ptr h.next 0),(1,int out)]) (fun q=>q.2.2) (fun q=>q.1≤m.base∧SM K rb q.2.1 q.2.2∧Nb m cur s q.1 q.2.1) (fun q=>m.base - q.1) (0,ms,G) ⟨Nat.zero_le _,sm,nb⟩ ⟨rfl,rfl,rfl,rfl,rfl,rfl,rfl,rfl,rfl,trivial⟩ (Hp.Le.refl _) ?_
  clear sm nb d1 d5 d9 d8
  rintro ⟨r,ms,G⟩ φ11 ⟨hr,sm,nb⟩
  dsimp only at hr sm nb ⊢
  have gG:=gK.trans sm.gr
  have e0:=gG.cell c0
  have d9:=sm.gr.cell hc9
  have d8:=bool_cell (sm.gr.at_ _ _ hr9) (i:=s) (by omega)
  rw [eb2] at d8
  conv=>whnf
  repeat (refine SeqP.go ?_; conv=>whnf)
  refine ⟨_,e0,?_⟩
  conv=>whnf
  refine cmpB (fun q4=>?_) (fun q4=>?_)
  rotate_left
  ·conv=>whnf
   repeat (refine SeqP.go ?_; conv=>whnf)
   refine ⟨((s + 1:Nat):Int),wie (by omega) (by omega),?_⟩
   conv=>whnf
   exact Rnd.mk (s + 1,fb2,ms,G) ⟨by dsimp only; omega,sm,nb.row (.inl (by omega)),hfb3⟩ (by dsimp only; omega) ⟨rfl,rfl,rfl,rfl,rfl,rfl,rfl,rfl,trivial⟩ (Hp.Le.refl _) rfl
  cases b2 with
  | false =>
   conv=>whnf
   refine ⟨hsp9,⟨by omega,by omega⟩,?_⟩
   conv=>whnf
   refine ⟨_,d9,?_⟩
   conv=>whnf
   refine ⟨rfl,⟨by omega,by omega⟩,?_⟩
   conv=>whnf
   refine ⟨_,d8,?_⟩
   conv=>whnf
   repeat (refine SeqP.go ?_; conv=>whnf)
   refine ⟨((s + 1:Nat):Int),wie (by omega) (by omega),?_⟩
   conv=>whnf
   exact Rnd.mk (s + 1,fb2,ms,G) ⟨by dsimp only; omega,sm,nb.row (.inr eb2),hfb3⟩ (by dsimp only; omega) ⟨rfl,rfl,rfl,rfl,rfl,rfl,rfl,rfl,trivial⟩ (Hp.Le.refl _) rfl
  | true =>
   have hrb:r < m.base:=by omega
   have hnx:=kx.nextAt hm.ok (s:=s) (d:=r) (by omega) hrb
   obtain ⟨r1,o1,sp1,r2,o2,sp2,c2',ean,hsp1,hc1,hsp2,hc2⟩:=hnx
   subst ean
   have hnl:=hm.ok.lt s r (by omega) hrb
   have hnbl:=nb.len
   have hnb2:=nb.set eb2 hnl
   have hext:∃ t,m.nx s r = t:=⟨_,rfl⟩
   obtain ⟨t,et⟩:=hext
   rw [et] at hnl hc2 hnb2
   have d2:=gG.cell c2
   have d3:=gG.cell hc1
   have d4:=gG.cell hc2
   conv=>whnf
   refine ⟨hsp9,⟨by omega,by omega⟩,?_⟩
   conv=>whnf
   refine ⟨_,d9,?_⟩
   conv=>whnf
   refine ⟨rfl,⟨by omega,by omega⟩,?_⟩
   conv=>whnf
   refine ⟨_,d8,?_⟩
   conv=>whnf
   repeat (refine SeqP.go ?_; conv=>whnf)
   refine ⟨_,d2,?_⟩
   conv=>whnf
   refine ⟨hsp1,⟨by omega,by omega⟩,?_⟩
   conv=>whnf
   refine ⟨_,d3,?_⟩
   conv=>whnf
   refine ⟨hsp2,⟨by omega,by omega⟩,?_⟩
   conv=>whnf
   refine ⟨_,d4,?_⟩
   conv=>whnf
   refine ⟨rfl,⟨by omega,by omega⟩,?_⟩
   conv=>whnf
   refine ⟨rfl,_,sm.store (by omega) true,?_⟩
   conv=>whnf
   repeat (refine SeqP.go ?_; conv=>whnf)
   refine ⟨((r + 1:Nat):Int),wie (by omega) (by omega),?_⟩
   conv=>whnf
   exact Rnd.mk (r + 1,ms.set t true,_) ⟨by dsimp only; omega,sm.put _,hnb2⟩ (by dsimp only; omega) ⟨rfl,rfl,rfl,rfl,rfl,rfl,rfl,rfl,rfl,trivial⟩ (Hp.Le.refl _) rfl
 rintro ⟨fb,ms,G⟩ φ9 _ ⟨rfl,sm,nb,hfb⟩
 dsimp only at sm nb hfb ⊢
 have hfb2:fb = true↔∃ s,RchJ m j s∧m.o s = out:=by
  rw [hfb]
  constructor
  ·rintro ⟨s,h1,h2,h3⟩
   exact ⟨s,(hsb.iff s (by omega)).1 h2,h3⟩
  ·rintro ⟨s,h1,h2⟩
   have hl:=rch_lt hm.ok h1
   exact ⟨s,by omega,(hsb.iff s hl).2 h1,h2⟩
 have gG:=gK.trans sm.gr
 have st2:=st.ext sm.gr
 rw [← en] at nb
 have sb2:=nb.done hm.ok hsb
 cases fb with
 | true =>
  conv=>whnf
  refine SeqP.go ?_
  conv=>whnf
  repeat (refine SeqP.go ?_; conv=>whnf)
  refine ⟨_,all_cells (gG.at_ _ _ aX) hbx.len,?_⟩
  conv=>whnf
  refine CallP.mono (RBack_spec _ _ m L j out _ (Bx.mv (hbx.ext (gH.trans gG))) (by have:=st2.set; rw [en] at *; exact this) hm (by omega) (by omega) (fun i hi=>hSb i (by omega)) (hfb2.1 rfl)) ?_
  rintro r G2 ⟨⟨V,rfl,hV⟩,g2⟩
  conv=>whnf
  repeat (refine SeqP.go ?_; conv=>whnf)
  exact ⟨⟨V,rfl,hV⟩,(gH.trans gG).trans g2⟩
 | false =>
  have hb6:=st2.b.ext (Grows.lay G (.row 87 true [slc rb 0 n n]))
  conv=>whnf
  repeat (refine SeqP.go ?_; conv=>whnf)
  rw [hrl,hLl] at hb6
  refine AppP.cellsF hb6 (gG.trans (Grows.lay _ _)) (elemsC_one (u:=slc rb 0 n n) rfl) (by omega) (by omega) (by omega) ?_
  intro v' G2 hb' hg' hkeep ⟨r',er,hr'⟩
  have x:=Kx.builtC hb6 hkeep
  have hrow:∀ (ro:Nat) (cs:List Value),G.at ro = some (.row 4 true cs)→G2.at ro = some (.row 4 true cs):=fun ro cs e=>x.at_ (Hp.at_lay_old _ e) fun e2=>by
   obtain ⟨hl,⟨_,e1⟩ | ⟨ra,era,_,y,hra⟩⟩:=hb6
   ·omega
   ·injection era with era
    injection era with era
    injection era with era1 era2 era3
    subst era1
    subst era2
    subst era3
    have e3:r9 = ro:=by
     have e4:some r9 = some ro:=e2
     exact Option.some.inj e4
    subst e3
    rw [Hp.at_lay_old _ e] at hra
    cases hra
  obtain ⟨a9,n9,ev'⟩:∃ a n,v' = .slice a n n:=⟨_,_,er⟩
  subst ev'
  conv=>whnf
  repeat (refine SeqP.go ?_; conv=>whnf)
  refine ⟨((j + 1:Nat):Int),wie (by omega) (by omega),?_⟩
  conv=>whnf
  refine Rnd.mk (j + 1,_,rs ++ [rb],L ++ [ms],G2) ⟨by dsimp only; omega,hg',⟨?_,by simp [hrl],?_⟩,by simp [hLl],?_,?_⟩ (by dsimp only; omega) ⟨rfl,rfl,rfl,rfl,rfl,trivial⟩ (Hp.Le.refl _) rfl
  ·have e1:(rs ++ [rb]).length = j + 1 + 1:=by rw [List.length_append,hrl,hLl]; rfl
   dsimp only
   rw [e1,List.map_append]
   exact hb'
  ·intro i r e
   dsimp only at e ⊢
   by_cases q:i < rs.length
   ·rw [List.getElem?_append_left q] at e
    rw [bl_app1 (by omega)]
    exact hrow _ _ (st2.row i r e)
   ·have hi:=(List.getElem?_eq_some_iff.1 e).1
    rw [List.length_append] at hi
    have:i = rs.length:=by simp at hi; omega
    subst this
    rw [List.getElem?_append_right (Nat.le_refl _)] at e
    simp at e
    subst e
    rw [hrl,bl_app2]
    exact hrow _ _ sm.at_
  ·intro i hi
   dsimp only at hi ⊢
   by_cases q:i = j + 1
   ·subst q
    rw [← hLl,bl_app2,hLl]
    exact sb2
   ·rw [bl_app1 (by omega)]
    exact hSb i (by omega)
  ·intro i hi
   dsimp only at hi
   by_cases q:i = j
   ·subst q
    intro k
    have:=hfb2.2 k
    cases this
   ·exact hno i (by omega)
end
end Go.Proofs.Ytedneplaibmppaa
namespace Go.Proofs.Ytedneplaibmppaa
open Go.Rx Go.RowKit
attribute [local irreducible] E idxN cellAt cellsAt storeAt callable helems hmoved lookIn findKey keyOk hentries Hp.at Hp.set Hp.lay arBits hupdated setAt CallP YieldP BoolOf IsWrap Rnd LoopP AppP CutP Int.tmod Int.tdiv Int.fdiv
section
variable [Unknowns]
attribute [local irreducible] ResP sameAt
theorem evers_law (ts0:List Tr) (hy0:TyT Try.prog 25 ts0) (a1:Int) (w1:Rx.InR a1) (a2:Int) (w2:Rx.InR a2):∀ h vs,AllT h vs [.ag ts0,.num a1,.num a2]→CallP E 12 vs h (fun r _=>r = .bool true):=by
 intro h vs hvs
 match vs,hvs with
 | [v0,v1,v2],hvs =>
 obtain ⟨k0,k1,k2,-⟩:=hvs
 obtain ⟨M,hMb,hML,hM⟩:=mac_arg hy0
 have hM:=hM h v0 k0
 cases k1
 cases k2
 obtain ⟨bx,rfl,hbx⟩:=hM.box
 refine enter12 (by simp) ?_
 conv=>whnf
 refine SeqP.cut (α:=Hp) (fun _=>[(3,ptr h.next 0),(1,int a1),(2,int a2)]) (fun s H=>s = H∧H.at h.next = some (.row 25 true bx)∧Grows h H) ?_ ?_
 ·conv=>whnf
  exact ⟨_,⟨rfl,rfl,rfl,trivial⟩,⟨rfl,Hp.at_lay_self _ _,Grows.lay _ _⟩,rfl⟩
 rintro H0 φ0 _ ⟨rfl,aX,g0⟩
 conv=>whnf
 refine SeqP.cut (α:=Nat×List Value×Mac×Hp) (fun s=>[(7,ptr s.1 0),(2,int a2)]) (fun s H=>s.2.2.2 = H∧OkS s.2.2.1∧H.at s.1 = some (.row 26 true s.2.1)∧Bx H s.2.1 s.2.2.1.i∧Grows H0 H) ?_ ?_
 ·conv=>whnf
  have gl1:Grows H0 (H0.lay (.row 26 true [int 0,nilS,nilS])):=Grows.lay _ _
  have aL:(H0.lay (.row 26 true [int 0,nilS,nilS])).at H0.next = some (.row 26 true [int 0,nilS,nilS]):=Hp.at_lay_self _ _
  have cX:=all_cells (gl1.at_ _ _ aX) hbx.len
  refine ⟨_,cX,?_⟩
  conv=>whnf
  refine CallP.mono (base_spec a1 _) ?_
  rintro r _ ⟨⟨B,rfl,hB1,hB2⟩,rfl⟩
  conv=>whnf
  refine CallP.mono (tame_spec _ M B 12 _ (Bx.mv (hbx.ext (g0.trans gl1))) hML ⟨hB1,hB2⟩ (by omega)) ?_
  rintro r H1 ⟨⟨m,hm,hmb,hml,hw⟩,g1⟩
  have hk:=hw.known
  obtain ⟨p,q,rfl⟩:=hk
  have aL1:=g1.at_ _ _ aL
  have hlt:=Hp.lt_of_at aL1
  have hltL:=Hp.lt_of_at aL
  have cX1:=g1.cells cX
  conv=>whnf
  refine ⟨rfl,_,storeAt_full (vs:=[int m.i.base,.slice p m.i.out.length m.i.out.length,.slice q m.i.next.length m.i.next.length]) aL1 rfl rfl rfl,?_⟩
  have hw2:=hw.put hltL (.row 26 true [int m.i.base,.slice p m.i.out.length m.i.out.length,.slice q m.i.next.length m.i.next.length])
  have aX2:∀ o,(H1.set H0.next o).at h.next = some (.row 25 true bx):=fun o=>by
   have:=Hp.lt_of_at aX
   rw [Hp.at_set_ne _ (by omega)]
   exact g1.at_ _ _ (gl1.at_ _ _ aX)
  have cX2:=fun o=>all_cells (aX2 o) hbx.len
  conv=>whnf
  refine ⟨?_,?_⟩
  ·repeat' (first | exact True.intro | (refine And.intro ?_ ?_ <;> (conv=>whnf)))
   all_goals first
    | exact sameAt_val (h2:=_) rfl (sameV_int _)
    | exact sameAt_val (h2:=_) rfl (sameV_ptr _ _)
    | exact sameAt_val (h2:=_) (congrArg (fun x=>hval _ (aggOf x)) cX) hbx.same
    | exact sameAt_val (h2:=_) (congrArg (fun x=>hval _ (aggOf x)) cX1) hbx.same
    | exact sameAt_val (h2:=_) (congrArg (fun x=>hval _ (aggOf x)) (cX2 _)) hbx.same
    | exact ⟨_,rfl,aL,rfl⟩
    | exact ⟨_,rfl,aL1,rfl⟩
    | exact ⟨_,rfl,Hp.at_set_self _ hlt,rfl⟩
    | trace_state
  exact ⟨(H0.next,_,m,_),⟨rfl,rfl,trivial⟩,⟨rfl,hm,Hp.at_set_self _ hlt,hw2.mv.bx,(gl1.trans g1).then_set _ (Nat.le_refl _)⟩,rfl⟩
 rintro ⟨N7,b7,m,H1⟩ φ1 _ ⟨rfl,hm,a7,hb7,g1⟩
 dsimp only at hm a7 hb7 g1 ⊢
 clear aX hbx g0 g1
 have hn12:=hm.n12
 have hn1:=hm.n1
 conv=>whnf
 refine SeqP.cut (α:=Unit) (fun s=>[]) (fun s H=>True) ?_ ?_
 rotate_left
 ·rintro _ φ3 Hz _
  conv=>whnf
  repeat (refine SeqP.go ?_; conv=>whnf)
  refine CallP.mono (awake_spec _) ?_
  rintro r G3 ⟨rfl,g3⟩
  conv=>whnf
  repeat (refine SeqP.go ?_; conv=>whnf)
  rfl
 conv=>whnf
 repeat (refine SeqP.go ?_; conv=>whnf)
 refine loop_inv (α:=Nat×Int×Hp) (fun q=>[(8,int q.1),(7,ptr N7 0),(2,int q.2.1)]) (fun q=>q.2.2) (fun q=>q.1≤2∧Grows H1 q.2.2) (fun q=>2 - q.1) (0,a2,H1) ⟨by omega,.refl _⟩ ⟨rfl,rfl,rfl,trivial⟩ (Hp.Le.refl _) ?_
 rintro ⟨rd,out,G⟩ φ3 ⟨hrd,gG⟩
 dsimp only at hrd gG ⊢
 have a7:=gG.at_ _ _ a7
 have hb7:=hb7.ext gG
 conv=>whnf
 repeat (refine SeqP.go ?_; conv=>whnf)
 refine cmpB (fun q1=>?_) (fun q1=>?_)
 rotate_left
 ·conv=>whnf
  repeat (refine SeqP.go ?_; conv=>whnf)
  exact ⟨(),trivial,trivial,rfl⟩
 conv=>whnf
 refine SeqP.go ?_
 conv=>whnf
 refine SeqP.cut (α:=Int×Bool×Int×Hp) (fun q=>[(9,int q.1),(10,.bool q.2.1),(11,int q.2.2.1),(8,int rd),(7,ptr N7 0),(2,int out)]) (fun q H=>q.2.2.2 = H∧Grows G H∧(¬ (0≤out∧out≤9)→q.1 = 0∧q.2.1 = false∧q.2.2.1 = 1)∧(0≤out∧out≤9→q.1 = max (gl (m.evK out m.out.length) 0) 0∧BoolOf q.2.1 (0≤gl (m.evK out m.out.length) 0)∧q.2.2.1 = 0)) ?_ ?_
 ·conv=>whnf
  refine ⟨_,all_cells a7 hb7.len,?_⟩
  conv=>whnf
  refine CallP.mono (given_spec _ m.i _ (Bx.mv hb7) (lens_of hm)) ?_
  rintro r H2 ⟨hw,g2⟩
  rw [hm.cut] at hw
  have hk:=hw.known
  obtain ⟨p,q,rfl⟩:=hk
  conv=>whnf
  refine CallP.mono (Ever_spec _ m out _ hw.mv hm) ?_
  rintro r H3 ⟨hr,g3⟩
  by_cases hB:0≤out∧out≤9
  ·have hr:=hr.2 hB
   obtain ⟨b,rfl,hb⟩:=hr
   conv=>whnf
   exact ⟨(_,b,0,H3),⟨rfl,rfl,rfl,rfl,rfl,rfl,trivial⟩,⟨rfl,g2.trans g3,fun q=>absurd hB q,fun _=>⟨rfl,hb,rfl⟩⟩,rfl⟩
  ·have hr:=hr.1 hB
   subst hr
   conv=>whnf
   exact ⟨(0,false,1,H3),⟨rfl,rfl,rfl,rfl,rfl,rfl,trivial⟩,⟨rfl,g2.trans g3,fun _=>⟨rfl,rfl,rfl⟩,fun q=>absurd q hB⟩,rfl⟩
 rintro ⟨n,b,e,G1⟩ φ4 _ ⟨rfl,g,hE1,hE2⟩
 dsimp only at g hE1 hE2 ⊢
 have a7:=g.at_ _ _ a7
 have hb7:=hb7.ext g
 conv=>whnf
 refine SeqP.cut (α:=Hp) (fun q=>[(8,int rd),(7,ptr N7 0),(2,int out)]) (fun q H=>q = H∧Grows G1 H) ?_ ?_
 ·conv=>whnf
  refine SeqP.cut (α:=Bool) (fun q=>[(34,.bool q),(9,int n),(10,.bool b),(11,int e),(8,int rd),(7,ptr N7 0),(2,int out)]) (fun q H=>G1 = H∧(q = true↔¬ (0≤out∧out≤9))) ?_ ?_
  ·conv=>whnf
   refine cmpB (fun c0=>?_) (fun c0=>?_)
   ·conv=>whnf
    exact ⟨true,⟨rfl,rfl,rfl,rfl,rfl,rfl,rfl,trivial⟩,⟨rfl,fun _=>by omega,fun _=>rfl⟩,rfl⟩
   conv=>whnf
   refine cmpB (fun c1=>?_) (fun c1=>?_)
   ·conv=>whnf
    exact ⟨true,⟨rfl,rfl,rfl,rfl,rfl,rfl,rfl,trivial⟩,⟨rfl,fun _=>by omega,fun _=>rfl⟩,rfl⟩
   conv=>whnf
   exact ⟨false,⟨rfl,rfl,rfl,rfl,rfl,rfl,rfl,trivial⟩,⟨rfl,fun e=>(by cases e),fun k=>absurd k (by omega)⟩,rfl⟩
  rintro qb φ5 _ ⟨rfl,hqb⟩
  by_cases hB:0≤out∧out≤9
  rotate_left
  ·have hqt:=hqb.2 hB
   subst hqt
   have hq:=hE1 hB
   obtain ⟨rfl,rfl,rfl⟩:=hq
   conv=>whnf
   repeat (refine SeqP.go ?_; conv=>whnf)
   refine cmpF (by omega) ?_
   conv=>whnf
   refine cmpF (by omega) ?_
   conv=>whnf
   repeat (refine SeqP.go ?_; conv=>whnf)
   exact ⟨G1,⟨rfl,rfl,rfl,trivial⟩,⟨rfl,.refl _⟩,rfl⟩
  have hqf:qb = false:=by
   cases qb with
   | false=>rfl
   | true=>exact absurd hB (hqb.1 rfl)
  subst hqf
  have hq:=hE2 hB
  obtain ⟨rfl,hb,rfl⟩:=hq
  conv=>whnf
  repeat (refine SeqP.go ?_; conv=>whnf)
  refine ⟨_,all_cells a7 hb7.len,?_⟩
  conv=>whnf
  refine CallP.mono (REver_spec _ m out _ (Bx.mv hb7) hm) ?_
  rintro r G2 ⟨⟨V,rfl,hV⟩,g2⟩
  have hsame:=ev_same hm hV
  rw [hsame] at hb ⊢
  cases b with
  | true =>
   have hV0:=hb.t
   conv=>whnf
   repeat (refine SeqP.go ?_; conv=>whnf)
   refine cmpF (by omega) ?_
   conv=>whnf
   refine cmpT (by omega) ?_
   conv=>whnf
   refine resP_val (v:=.bool false) (h:=G2) ?_ ?_
   ·show hval _ (aBin E .neq 4 _ _ (.bool true) (.bool true)) = _
    rw [bool_ne]
    rfl
   conv=>whnf
   refine resP_val (v:=int (max V 0)) (h:=G2) (congrArg (fun v=>HRes.val v G2) (max_eq3 _ _)) ?_
   conv=>whnf
   refine cmpF (by omega) ?_
   conv=>whnf
   repeat (refine SeqP.go ?_; conv=>whnf)
   exact ⟨G2,⟨rfl,rfl,rfl,trivial⟩,⟨rfl,g2⟩,rfl⟩
  | false =>
   have hV0:=hb.f
   conv=>whnf
   repeat (refine SeqP.go ?_; conv=>whnf)
   refine cmpF (by omega) ?_
   conv=>whnf
   refine cmpF (by omega) ?_
   conv=>whnf
   refine resP_val (v:=.bool false) (h:=G2) ?_ ?_
   ·show hval _ (aBin E .neq 4 _ _ (.bool false) (.bool false)) = _
    rw [bool_ne]
    rfl
   conv=>whnf
   refine resP_val (v:=int (max V 0)) (h:=G2) (congrArg (fun v=>HRes.val v G2) (max_eq3 _ _)) ?_
   conv=>whnf
   refine cmpF (by omega) ?_
   conv=>whnf
   repeat (refine SeqP.go ?_; conv=>whnf)
   exact ⟨G2,⟨rfl,rfl,rfl,trivial⟩,⟨rfl,g2⟩,rfl⟩
 rintro G2 φ6 _ ⟨rfl,g2⟩
 have a7:=g2.at_ _ _ a7
 have hb7:=hb7.ext g2
 have hbc:=hb7.cx
 obtain ⟨xo,xn,xc,xd,hcx⟩:=hbc
 have k7:=hcx G2 N7 26 (.refl _) a7
 have c71:cellAt G2 N7 1 = some (.slice xo m.out.length xc):=k7.c1
 have hux:=u64_of out
 obtain ⟨u,u0,u1,hu⟩:=hux
 have e1:=tmod_bd u0 (show (0:Int) < (m.out.length:Int) by omega)
 have hux2:=u64_id (n:=(m.out.length:Int)) (by omega)
 have hexk:∃ k:Nat,u.tmod (m.out.length:Int) = k:=⟨(u.tmod (m.out.length:Int)).toNat,by omega⟩
 obtain ⟨k,ek⟩:=hexk
 have hkl:k < m.out.length:=by omega
 have hoM:=k7.outM hkl
 obtain ⟨r5,o5,sp5,ea,hsp5,hc5⟩:=hoM
 subst ea
 conv=>whnf
 refine ⟨_,c71,?_⟩
 conv=>whnf
 refine ⟨u,hu,?_⟩
 conv=>whnf
 refine ⟨_,c71,?_⟩
 conv=>whnf
 refine ⟨_,hux2,?_⟩
 conv=>whnf
 refine ⟨by omega,?_⟩
 conv=>whnf
 refine ⟨(k:Int),wie ek (by omega),?_⟩
 conv=>whnf
 refine ⟨hsp5,⟨by omega,by omega⟩,?_⟩
 conv=>whnf
 refine ⟨_,hc5,?_⟩
 conv=>whnf
 repeat (refine SeqP.go ?_; conv=>whnf)
 refine ⟨((rd + 1:Nat):Int),wie (by omega) (by omega),?_⟩
 conv=>whnf
 exact Rnd.mk (rd + 1,m.o k,G2) ⟨by show rd + 1≤2; omega,(gG.trans g).trans g2⟩ (by show 2 - (rd + 1) < 2 - rd; omega) ⟨rfl,rfl,rfl,trivial⟩ (Hp.Le.refl _) rfl
end
end Go.Proofs.Ytedneplaibmppaa
