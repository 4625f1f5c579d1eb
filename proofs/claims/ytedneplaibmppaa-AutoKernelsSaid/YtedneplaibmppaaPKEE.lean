/- Contracts of the functions that PKEE comes to. -/
import Derived.Test.YtedneplaibmppaaPKED
import Derived.Test.YtedneplaibmppaaAAwake
import Derived.Test.YtedneplaibmppaaWx19
import Derived.Test.YtedneplaibmppaaWx22
import Derived.Test.YtedneplaibmppaaWx23
set_option maxRecDepth 100000
set_option maxHeartbeats 2000000
set_option linter.unusedVariables false
set_option linter.unusedSectionVars false
set_option linter.unusedSimpArgs false
namespace Go.Proofs.Ytedneplaibmppaa
open Go.Rx Go.RowKit
theorem mac_eq {A B:MacI} (hb:A.base = B.base) (ho:A.out.length = B.out.length) (hn:A.next.length = B.next.length) (hno:A.next.length = A.out.length) (h:∀ k,k < A.out.length→gl A.out k = gl B.out k∧rw_ A.next k = rw_ B.next k):A = B:=by
 obtain ⟨b1,o1,n1⟩:=A
 obtain ⟨b2,o2,n2⟩:=B
 dsimp only at *
 have e1:o1 = o2:=list_gl ho fun j hj=>(h j hj).1
 have e2:n1 = n2:=List.ext_getElem hn fun i h1 h2=>by
  have:=(h i (by omega)).2
  rwa [rw_at h1,rw_at h2] at this
 rw [hb,e1,e2]
attribute [local irreducible] E idxN cellAt cellsAt storeAt callable helems hmoved lookIn findKey keyOk hentries Hp.at Hp.set Hp.lay arBits hupdated setAt CallP YieldP BoolOf IsWrap Rnd LoopP AppP CutP Int.tmod Int.tdiv Int.fdiv
section
variable [Unknowns]
attribute [local irreducible] sameAt
theorem ints_spec (va vb:Value) (a b:List Int) (h:Hp) (ha:View h va a) (hb:View h vb b) (hla:a.length≤1000000):CallP E 61 [va,vb] h (fun r h'=>(∃ x,r = .bool x∧BoolOf x (a = b))∧h' = h):=by
 obtain ⟨aa,ca,rfl⟩:=ha.known
 obtain ⟨ab,cb,rfl⟩:=hb.known
 refine enter61 (by simp) ?_
 conv=>whnf
 repeat (refine SeqP.go ?_; conv=>whnf)
 refine cmpB (fun hne=>?_) (fun heq=>?_)
 ·conv=>whnf
  repeat (refine SeqP.go ?_; conv=>whnf)
  exact ⟨⟨false,rfl,bo_no fun e=>hne (by rw [e])⟩,rfl⟩
 have hlen:a.length = b.length:=by omega
 conv=>whnf
 repeat (refine SeqP.go ?_; conv=>whnf)
 refine loop_inv (α:=Nat) (fun i=>[(5,int i),(0,.slice aa a.length ca),(1,.slice ab b.length cb)]) (fun _=>h) (fun i=>i≤a.length∧∀ j,j < i→gl a j = gl b j) (fun i=>a.length - i) 0 ⟨Nat.zero_le _,fun j hj=>absurd hj (Nat.not_lt_zero _)⟩ ⟨rfl,rfl,rfl,trivial⟩ (Hp.Le.refl _) ?_
 rintro i φ1 ⟨hi,hsame⟩
 conv=>whnf
 repeat (refine SeqP.go ?_; conv=>whnf)
 refine cmpB (fun hlt=>?_) (fun hlt=>?_)
 rotate_left
 ·conv=>whnf
  repeat (refine SeqP.go ?_; conv=>whnf)
  have:i = a.length:=by omega
  subst this
  exact ⟨⟨true,rfl,bo_yes (list_gl hlen hsame)⟩,rfl⟩
 have hi':i < a.length:=by omega
 have hca:=View.cellg ha hi'
 have hcb:=View.cellg hb (i:=i) (by omega)
 obtain ⟨r1,o1,sp1,ea,hsp1,-,hc1⟩:=hca
 obtain ⟨r2,o2,sp2,eb,hsp2,-,hc2⟩:=hcb
 subst ea
 subst eb
 conv=>whnf
 repeat (refine SeqP.go ?_; conv=>whnf)
 refine ⟨hsp1,⟨by omega,by omega⟩,?_⟩
 conv=>whnf
 refine ⟨_,hc1,?_⟩
 conv=>whnf
 refine ⟨hsp2,⟨by omega,by omega⟩,?_⟩
 conv=>whnf
 refine ⟨_,hc2,?_⟩
 conv=>whnf
 refine cmpB (fun hne=>?_) (fun he=>?_)
 ·conv=>whnf
  repeat (refine SeqP.go ?_; conv=>whnf)
  exact ⟨⟨false,rfl,bo_no fun e=>hne (by rw [e])⟩,rfl⟩
 conv=>whnf
 repeat (refine SeqP.go ?_; conv=>whnf)
 refine ⟨_,wid (by omega),?_⟩
 conv=>whnf
 exact Rnd.mk (i + 1) ⟨by omega,fun j hj=>by
  by_cases e:j = i
  ·subst e; omega
  ·exact hsame j (by omega)⟩ (by show a.length - (i + 1) < a.length - i; omega) ⟨rfl,rfl,rfl,trivial⟩ (Hp.Le.refl _) rfl
theorem REqual_spec (va vb:Value) (A B:MacI) (h:Hp) (ha:MV h va A) (hb:MV h vb B) (hn:A.next.length = A.out.length) (hl:A.out.length≤1000000) (hr:∀ s,(rw_ A.next s).length≤1000000):CallP E 41 [va,vb] h (fun r h'=>(∃ x,r = .bool x∧BoolOf x (A = B))∧Grows h h'):=by
 obtain ⟨bxa,rfl,hxa⟩:=ha.box
 obtain ⟨bxb,rfl,hxb⟩:=hb.box
 obtain ⟨aoa,ana,coa,cna,hcxa⟩:=hxa.cx
 obtain ⟨aob,anb,cob,cnb,hcxb⟩:=hxb.cx
 refine enter41 (by simp) ?_
 conv=>whnf
 refine SeqP.cut (α:=Hp) (fun _=>[(4,.bool false),(3,ptr (h.next + 1) 0),(2,ptr h.next 0)]) (fun x H=>x = H∧Grows h H∧H.at h.next = some (.row 26 true bxa)∧H.at (h.next + 1) = some (.row 26 true bxb)) ?_ ?_
 ·conv=>whnf
  have n1:(h.lay (.row 26 true bxa)).next = h.next + 1:=Hp.next_lay _ _
  exact ⟨_,⟨rfl,congrArg (fun k=>ptr k 0) n1,rfl,trivial⟩,⟨rfl,(Grows.lay _ _).then_lay _,Hp.at_lay_old _ (Hp.at_lay_self _ _),at_nx2 n1 (Hp.at_lay_self _ _)⟩,rfl⟩
 rintro H φ1 _ ⟨rfl,gH,aX,aY⟩
 have kx:=hcxa H h.next 26 gH aX
 have ky:=hcxb H (h.next + 1) 26 gH aY
 have x0:=kx.c0
 have x1:=kx.c1
 have x2:=kx.c2
 have y0:=ky.c0
 have y1:=ky.c1
 have y2:=ky.c2
 have no:¬ A = B→∀ v:Value,v = .bool false→(∃ x,v = .bool x∧BoolOf x (A = B))∧Grows h H:=fun k v e=>⟨⟨false,e,bo_no k⟩,gH⟩
 conv=>whnf
 repeat (refine SeqP.go ?_; conv=>whnf)
 refine ⟨_,x0,?_⟩
 conv=>whnf
 refine ⟨_,y0,?_⟩
 conv=>whnf
 refine cmpB (fun hne=>?_) (fun heq=>?_)
 ·conv=>whnf
  repeat (refine SeqP.go ?_; conv=>whnf)
  exact no (fun e=>hne (by rw [e])) _ rfl
 conv=>whnf
 refine ⟨_,x1,?_⟩
 conv=>whnf
 refine ⟨_,y1,?_⟩
 conv=>whnf
 refine cmpB (fun hne=>?_) (fun heq1=>?_)
 ·conv=>whnf
  repeat (refine SeqP.go ?_; conv=>whnf)
  exact no (fun e=>hne (by rw [e])) _ rfl
 conv=>whnf
 refine ⟨_,x2,?_⟩
 conv=>whnf
 refine ⟨_,y2,?_⟩
 conv=>whnf
 refine cmpB (fun hne=>?_) (fun heq2=>?_)
 ·conv=>whnf
  repeat (refine SeqP.go ?_; conv=>whnf)
  exact no (fun e=>hne (by rw [e])) _ rfl
 have heq0:A.base = B.base:=by omega
 have hol:A.out.length = B.out.length:=by omega
 have hnl:A.next.length = B.next.length:=by omega
 conv=>whnf
 repeat (refine SeqP.go ?_; conv=>whnf)
 refine loop_inv (α:=Nat) (fun i=>[(5,int i),(4,.bool false),(3,ptr (h.next + 1) 0),(2,ptr h.next 0)]) (fun _=>H) (fun i=>i≤A.out.length∧∀ j,j < i→gl A.out j = gl B.out j∧rw_ A.next j = rw_ B.next j) (fun i=>A.out.length - i) 0 ⟨Nat.zero_le _,fun j hj=>absurd hj (Nat.not_lt_zero _)⟩ ⟨rfl,rfl,rfl,rfl,trivial⟩ (Hp.Le.refl _) ?_
 rintro i φ2 ⟨hi,hsame⟩
 conv=>whnf
 repeat (refine SeqP.go ?_; conv=>whnf)
 refine ⟨_,x1,?_⟩
 conv=>whnf
 refine cmpB (fun hlt=>?_) (fun hlt=>?_)
 rotate_left
 ·conv=>whnf
  repeat (refine SeqP.go ?_; conv=>whnf)
  have:i = A.out.length:=by omega
  subst this
  exact ⟨⟨true,rfl,bo_yes (mac_eq heq0 hol hnl hn hsame)⟩,gH⟩
 have hi':i < A.out.length:=by omega
 have hca:=kx.outAt hi'
 have hcb:=ky.outAt (i:=i) (by omega)
 have hra:=kx.rowAt (i:=i) (by omega)
 have hrb:=ky.rowAt (i:=i) (by omega)
 obtain ⟨r1,o1,sp1,ea,hsp1,hc1⟩:=hca
 obtain ⟨r2,o2,sp2,eb,hsp2,hc2⟩:=hcb
 obtain ⟨r3,o3,sp3,a3,c3,e3,hsp3,hc3,hv3⟩:=hra
 obtain ⟨r4,o4,sp4,a4,c4,e4,hsp4,hc4,hv4⟩:=hrb
 subst ea
 subst eb
 subst e3
 subst e4
 conv=>whnf
 repeat (refine SeqP.go ?_; conv=>whnf)
 refine ⟨_,x1,?_⟩
 conv=>whnf
 refine ⟨hsp1,⟨by omega,by omega⟩,?_⟩
 conv=>whnf
 refine ⟨_,hc1,?_⟩
 conv=>whnf
 refine ⟨_,y1,?_⟩
 conv=>whnf
 refine ⟨hsp2,⟨by omega,by omega⟩,?_⟩
 conv=>whnf
 refine ⟨_,hc2,?_⟩
 conv=>whnf
 refine cmpB (fun hne=>?_) (fun he1=>?_)
 ·conv=>whnf
  repeat (refine SeqP.go ?_; conv=>whnf)
  exact no (fun e=>hne (by rw [e])) _ rfl
 conv=>whnf
 refine ⟨_,x2,?_⟩
 conv=>whnf
 refine ⟨hsp3,⟨by omega,by omega⟩,?_⟩
 conv=>whnf
 refine ⟨_,hc3,?_⟩
 conv=>whnf
 refine ⟨_,y2,?_⟩
 conv=>whnf
 refine ⟨hsp4,⟨by omega,by omega⟩,?_⟩
 conv=>whnf
 refine ⟨_,hc4,?_⟩
 conv=>whnf
 refine cmpB (fun hne=>?_) (fun he2=>?_)
 ·conv=>whnf
  repeat (refine SeqP.go ?_; conv=>whnf)
  exact no (fun e=>hne (by rw [e])) _ rfl
 have hrl:(rw_ A.next i).length = (rw_ B.next i).length:=by omega
 have hrA:=hr i
 conv=>whnf
 repeat (refine SeqP.go ?_; conv=>whnf)
 refine loop_inv (α:=Nat) (fun j=>[(6,int j),(5,int i),(4,.bool false),(3,ptr (h.next + 1) 0),(2,ptr h.next 0)]) (fun _=>H) (fun j=>j≤(rw_ A.next i).length∧∀ k,k < j→gl (rw_ A.next i) k = gl (rw_ B.next i) k) (fun j=>(rw_ A.next i).length - j) 0 ⟨Nat.zero_le _,fun j hj=>absurd hj (Nat.not_lt_zero _)⟩ ⟨rfl,rfl,rfl,rfl,rfl,trivial⟩ (Hp.Le.refl _) ?_
 rintro j φ3 ⟨hj,hsame2⟩
 conv=>whnf
 repeat (refine SeqP.go ?_; conv=>whnf)
 refine ⟨_,x2,?_⟩
 conv=>whnf
 refine ⟨hsp3,⟨by omega,by omega⟩,?_⟩
 conv=>whnf
 refine ⟨_,hc3,?_⟩
 conv=>whnf
 refine cmpB (fun hlt2=>?_) (fun hlt2=>?_)
 rotate_left
 ·conv=>whnf
  repeat (refine SeqP.go ?_; conv=>whnf)
  refine ⟨_,wid (by omega),?_⟩
  conv=>whnf
  have:j = (rw_ A.next i).length:=by omega
  subst this
  exact Rnd.mk (i + 1) ⟨by omega,fun k hk=>by
   by_cases e:k = i
   ·subst e; exact ⟨by omega,list_gl hrl hsame2⟩
   ·exact hsame k (by omega)⟩ (by show A.out.length - (i + 1) < A.out.length - i; omega) ⟨rfl,rfl,rfl,rfl,trivial⟩ (Hp.Le.refl _) rfl
 have hj':j < (rw_ A.next i).length:=by omega
 have hj3:=View.cellg hv3 hj'
 have hj4:=View.cellg hv4 (i:=j) (by omega)
 obtain ⟨r5,o5,sp5,e5,hsp5,-,hc5⟩:=hj3
 obtain ⟨r6,o6,sp6,e6,hsp6,-,hc6⟩:=hj4
 subst e5
 subst e6
 conv=>whnf
 repeat (refine SeqP.go ?_; conv=>whnf)
 refine ⟨_,x2,?_⟩
 conv=>whnf
 refine ⟨hsp3,⟨by omega,by omega⟩,?_⟩
 conv=>whnf
 refine ⟨_,hc3,?_⟩
 conv=>whnf
 refine ⟨hsp5,⟨by omega,by omega⟩,?_⟩
 conv=>whnf
 refine ⟨_,hc5,?_⟩
 conv=>whnf
 refine ⟨_,y2,?_⟩
 conv=>whnf
 refine ⟨hsp4,⟨by omega,by omega⟩,?_⟩
 conv=>whnf
 refine ⟨_,hc4,?_⟩
 conv=>whnf
 refine ⟨hsp6,⟨by omega,by omega⟩,?_⟩
 conv=>whnf
 refine ⟨_,hc6,?_⟩
 conv=>whnf
 refine cmpB (fun hne=>?_) (fun he3=>?_)
 ·conv=>whnf
  repeat (refine SeqP.go ?_; conv=>whnf)
  exact no (fun e=>hne (by rw [e])) _ rfl
 conv=>whnf
 repeat (refine SeqP.go ?_; conv=>whnf)
 refine ⟨_,wid (by omega),?_⟩
 conv=>whnf
 exact Rnd.mk (j + 1) ⟨by omega,fun k hk=>by
  by_cases e:k = j
  ·subst e; omega
  ·exact hsame2 k (by omega)⟩ (by show (rw_ A.next i).length - (j + 1) < (rw_ A.next i).length - j; omega) ⟨rfl,rfl,rfl,rfl,rfl,trivial⟩ (Hp.Le.refl _) rfl
end
end Go.Proofs.Ytedneplaibmppaa
namespace Go.Proofs.Ytedneplaibmppaa
open Go.Rx Go.RowKit
def EverR (m:Mac) (out:Int) (r:Value):Prop:=(¬ (0≤out∧out≤9)→r = .tuple ⟨[int 0,.bool false,int 1]⟩)∧(0≤out∧out≤9→∃ b,r = .tuple ⟨[int (max (gl (m.evK out m.out.length) 0) 0),.bool b,int 0]⟩∧BoolOf b (0≤gl (m.evK out m.out.length) 0))
attribute [local irreducible] E idxN cellAt cellsAt storeAt callable helems hmoved lookIn findKey keyOk hentries Hp.at Hp.set Hp.lay arBits hupdated setAt CallP YieldP BoolOf IsWrap Rnd LoopP AppP CutP Int.tmod Int.tdiv Int.fdiv
section
variable [Unknowns]
attribute [local irreducible] sameAt
theorem Ever_spec (v:Value) (m:Mac) (out:Int) (h:Hp) (hv:MV h v m.i) (hm:OkS m):CallP E 35 [v,int out] h (fun r h'=>EverR m out r∧Grows h h'):=by
 obtain ⟨bx,rfl,hbx⟩:=hv.box
 have hL:=hm.lens
 refine enter35 (by simp) ?_
 conv=>whnf
 refine SeqP.cut (α:=Hp) (fun _=>[(2,ptr h.next 0),(1,int out)]) (fun x H=>x = H∧Grows h H∧H.at h.next = some (.row 25 true bx)) ?_ ?_
 ·conv=>whnf
  exact ⟨_,⟨rfl,rfl,trivial⟩,⟨rfl,Grows.lay _ _,Hp.at_lay_self _ _⟩,rfl⟩
 rintro H φ1 _ ⟨rfl,gH,aX⟩
 conv=>whnf
 repeat (refine SeqP.go ?_; conv=>whnf)
 refine ⟨_,all_cells aX hbx.len,?_⟩
 conv=>whnf
 refine CallP.mono (Check_spec _ m.i _ (Bx.mv (hbx.ext gH)) hL.1 hL.2.1 hL.2.2) ?_
 rintro r H2 ⟨⟨e,rfl,he,-⟩,g2⟩
 have he:=he hm.ck
 subst he
 have aX2:=g2.at_ _ _ aX
 have gh2:=gH.trans g2
 conv=>whnf
 repeat (refine SeqP.go ?_; conv=>whnf)
 refine cmpF (by omega) ?_
 conv=>whnf
 repeat (refine SeqP.go ?_; conv=>whnf)
 refine CallP.mono (isOut_spec out _) ?_
 rintro r _ ⟨⟨b,rfl,hb⟩,rfl⟩
 cases b with
 | false =>
  have hb:=hb.f
  conv=>whnf
  repeat (refine SeqP.go ?_; conv=>whnf)
  exact ⟨⟨fun _=>rfl,fun k=>absurd k hb⟩,gh2⟩
 | true =>
  have hb:=hb.t
  conv=>whnf
  repeat (refine SeqP.go ?_; conv=>whnf)
  refine ⟨_,all_cells aX2 hbx.len,?_⟩
  conv=>whnf
  refine CallP.mono (ever_spec _ m out _ (Bx.mv (hbx.ext gh2)) hm) ?_
  rintro r H3 ⟨⟨b,rfl,hb2⟩,g3⟩
  conv=>whnf
  repeat (refine SeqP.go ?_; conv=>whnf)
  exact ⟨⟨fun k=>absurd hb k,fun _=>⟨b,rfl,hb2⟩⟩,gh2.trans g3⟩
end
end Go.Proofs.Ytedneplaibmppaa
namespace Go.Proofs.Ytedneplaibmppaa
open Go.Rx Go.RowKit
def tm:Mac:=⟨2,[0,1],[[0,1],[1,0]]⟩
def rd:Mac:=⟨2,[0,0,1],[[1,2],[1,1],[2,2]]⟩
theorem tm_s:OkS tm where
 ok:=⟨by decide,by decide,rfl,by decide,fun s d hs hd=>(show ∀ s < 2,∀ d < 2,tm.nx s d < 2 by decide) s hs d hd⟩
 zer:=by unfold Mac.Zer; decide
 ck:=⟨by decide,by decide,by decide,by decide,by decide,rfl,fun s hs=>by
  have:s = 0∨s = 1:=by have:s < 2:=hs; omega
  rcases this with rfl | rfl
  ·exact ⟨by decide,by decide,rfl⟩
  ·exact ⟨by decide,by decide,rfl⟩⟩
theorem rd_s:OkS rd where
 ok:=⟨by decide,by decide,rfl,by decide,fun s d hs hd=>(show ∀ s < 3,∀ d < 2,rd.nx s d < 3 by decide) s hs d hd⟩
 zer:=by unfold Mac.Zer; decide
 ck:=⟨by decide,by decide,by decide,by decide,by decide,rfl,fun s hs=>by
  have:s = 0∨s = 1∨s = 2:=by have:s < 3:=hs; omega
  rcases this with rfl | rfl | rfl
  ·exact ⟨by decide,by decide,rfl⟩
  ·exact ⟨by decide,by decide,rfl⟩
  ·exact ⟨by decide,by decide,rfl⟩⟩
theorem tm_form:tm.form = tm:=by
 unfold Mac.form built
 rw [show tm.cl 0 = 0 from rfl,bfs_eq (L:=[0,1]) (.step (s:=0) rfl (.step (s:=1) rfl (.done (Nat.le_refl 2))))]
 rfl
theorem rd_form:rd.form = rd:=by
 unfold Mac.form built
 rw [show rd.cl 0 = 0 from rfl,bfs_eq (L:=[0,1,2]) (.step (s:=0) rfl (.step (s:=1) rfl (.step (s:=2) rfl (.done (Nat.le_refl 3)))))]
 rfl
theorem tm_every:(tm.every 2 0).form = tm:=by
 have h1:=Mac.every_ok tm_s.ok 2 0
 rw [Mac.form_uniq h1.1 tm_s.ok rfl ?_,tm_form]
 rw [Mac.alike_at h1.1 tm_s.ok (by decide) rfl (Mac.every_zer tm_s.ok tm_s.b2 tm_s.zer 2 0) tm_s.zer h1.1.n1 tm_s.ok.n1]
 intro n
 rw [Mac.every_at tm_s.ok tm_s.b2 tm_s.zer]
 have:=Mac.at_step tm_s.ok tm_s.b2 tm_s.zer (s:=0) (d:=0) (n:=n) (by decide) (by decide)
 rw [Nat.zero_add] at this
 exact this
theorem ring_rd:ringM 2 [0,1] 0 = rd:=by
 unfold ringM built
 rw [show ((((foldN [(0:Int),1].length 0 1:Nat):Int)),(0:Int)) = ((1:Int),(0:Int)) from rfl,bfs_eq (L:=[((1:Int),(0:Int)),(0,0),(0,1)]) (.step (s:=((1:Int),(0:Int))) rfl (.step (s:=((0:Int),(0:Int))) rfl (.step (s:=((0:Int),(1:Int))) rfl (.done (Nat.le_refl 3)))))]
 rfl
theorem tm_seq:seqL tm 8 = [0,1,1,0,1,0,0,1]:=by kernel_rfl
theorem tm_ever:gl (tm.evK 1 tm.out.length) 0 = 1:=by kernel_rfl
theorem rd_sink:∀ w s,(s = 1∨s = 2)→Mac.Wd 2 w→rd.run s w = s
 | [],s,_,_=>rfl
 | d :: w,s,hs,hw=>by
  have hd:d < 2:=hw d (by simp)
  have hw':Mac.Wd 2 w:=fun x hx=>hw x (by simp [hx])
  have e:rd.nx s d = s:=by
   have hd':d = 0∨d = 1:=by omega
   rcases hs with rfl | rfl <;> rcases hd' with rfl | rfl <;> rfl
  show rd.run (rd.nx s d) w = s
  rw [e]
  exact rd_sink w s hs hw'
theorem rd_at (n:Nat):rd.at_ 0 n = ((n % 2:Nat):Int):=by
 by_cases h:n = 0
 ·subst h; rfl
 ·show rd.o (rd.run 0 (dg 2 n)) = _
  rw [dg_pos (Nat.le_refl 2) h]
  show rd.o (rd.run (rd.nx 0 (n % 2)) (dg 2 (n / 2))) = _
  have hm:n % 2 = 0∨n % 2 = 1:=by omega
  rcases hm with e | e
  ·rw [e,show rd.nx 0 0 = 1 from rfl,rd_sink _ _ (.inl rfl) (dg_wd (Nat.le_refl 2) _)]; rfl
  ·rw [e,show rd.nx 0 1 = 2 from rfl,rd_sink _ _ (.inr rfl) (dg_wd (Nat.le_refl 2) _)]; rfl
theorem rd_find {r:Value} (h:FindR rd r):r = .tuple ⟨[int 0,int 2,.bool true,int 0]⟩:=by
 have h2:RoundP rd 60 2:=fun n=>by rw [rd_at,rd_at,show (n + 60) % 2 = (n + 60 + 2) % 2 by omega]
 have h1:¬ RoundP rd 60 1:=fun k=>by
  have:=k 0
  rw [rd_at,rd_at] at this
  revert this
  decide
 rcases h with ⟨p,hp1,hp30,hp,hmin,e⟩ | ⟨hno,_⟩
 ·have:p = 2:=by
   by_cases h3:p = 2
   ·exact h3
   ·by_cases h4:p = 1
    ·subst h4; exact absurd hp h1
    ·exact absurd h2 (hmin 2 (by omega) (by omega))
  subst this
  rw [e,show startF rd 2 60 = 0 from by kernel_rfl]
  rfl
 ·exact absurd h2 (hno 2 (by omega) (by omega))
end Go.Proofs.Ytedneplaibmppaa
namespace Go.Proofs.Ytedneplaibmppaa
open Go.Rx Go.RowKit
theorem lens_of {m:Mac} (h:OkS m):Lens m.i:=by
 have:=h.lens
 exact ⟨by omega,by omega,fun s=>by have:=this.2.2 s; omega⟩
theorem cut_tm:cutI tm.i = tm.i:=rfl
theorem cut_rd:cutI rd.i = rd.i:=rfl
theorem MV.bx {h:Hp} {cs:List Value} {M:MacI} (k:MV h (.agg ⟨cs⟩) M):Bx h cs M:=by
 obtain ⟨bx,e,hb⟩:=k.box
 injection e with e
 injection e with e
 subst e
 exact hb
theorem rd_mv {H:Hp} {r1 r2 r3 r4 r5:Nat} (h1:H.at r1 = some (.row 3 true [int 0,int 0,int 1])) (h2:H.at r2 = some (.row 3 true [int 1,int 2])) (h3:H.at r3 = some (.row 3 true [int 1,int 1])) (h4:H.at r4 = some (.row 3 true [int 2,int 2])) (h5:H.at r5 = some (.row 22 true [slc r2 0 2 2,slc r3 0 2 2,slc r4 0 2 2])):MV H (.agg ⟨[int 2,slc r1 0 3 3,slc r5 0 3 3]⟩) rd.i:=by
 refine OwnM.mv (h0:=⟨0,H.raw⟩) ⟨_,_,[slc r2 0 2 2,slc r3 0 2 2,slc r4 0 2 2],rfl,⟨rfl,.inr ⟨_,rfl,Nat.zero_le _,true,h1⟩⟩,⟨rfl,.inr ⟨_,rfl,Nat.zero_le _,true,h5⟩⟩,rfl,fun k u l e1 e2=>?_⟩
 match k,e1,e2 with
 | 0,e1,e2=>cases e1; cases e2; exact .inr ⟨_,rfl,Nat.zero_le _,true,h2⟩
 | 1,e1,e2=>cases e1; cases e2; exact .inr ⟨_,rfl,Nat.zero_le _,true,h3⟩
 | 2,e1,e2=>cases e1; cases e2; exact .inr ⟨_,rfl,Nat.zero_le _,true,h4⟩
 | k + 3,e1,e2=>simp at e1
attribute [local irreducible] E idxN cellAt cellsAt storeAt callable helems hmoved lookIn findKey keyOk hentries Hp.at Hp.set Hp.lay arBits hupdated setAt CallP YieldP BoolOf IsWrap Rnd LoopP AppP CutP Int.tmod Int.tdiv Int.fdiv
section
variable [Unknowns]
attribute [local irreducible] sameAt
theorem awake_spec (h:Hp):CallP E 21 [] h (fun r h'=>r = .bool true∧Grows h h'):=by
 refine enter21 (by simp) ?_
 conv=>whnf
 refine SeqP.go ?_
 conv=>whnf
 refine SeqP.cut (α:=Nat×List Value×Hp) (fun s=>[(1,ptr s.1 0)]) (fun s H=>s.2.2 = H∧Grows h H∧H.at s.1 = some (.row 25 true s.2.1)∧Bx H s.2.1 tm.i) ?_ ?_
 ·conv=>whnf
  refine CallP.mono (Morse_spec _) ?_
  rintro w H ⟨hw,g⟩
  have hk:=hw.known
  obtain ⟨a,b,rfl⟩:=hk
  conv=>whnf
  refine ⟨rfl,_,storeAt_all (vs:=[int 2,.slice a _ _,.slice b _ _]) rfl rfl rfl,?_⟩
  conv=>whnf
  refine ⟨(H.next,_,_),⟨rfl,trivial⟩,⟨rfl,g.then_lay _,Hp.at_lay_self _ _,?_⟩,rfl⟩
  exact (hw.mv.ext (Grows.lay _ _)).bx
 rintro ⟨N1,bx,H1⟩ φ1 _ ⟨rfl,g1,a1,b1⟩
 dsimp only at g1 a1 b1 ⊢
 conv=>whnf
 refine SeqP.cut (α:=Nat×Option Addr×Hp) (fun s=>[(1,ptr N1 0),(2,.slice s.2.1 8 8),(3,int 0)]) (fun s H=>s.2.2 = H∧Grows H1 H∧View H (.slice s.2.1 8 8) [0,1,1,0,1,0,0,1]) ?_ ?_
 ·conv=>whnf
  refine ⟨_,all_cells a1 b1.len,?_⟩
  conv=>whnf
  refine CallP.mono (First_spec _ tm 8 _ (Bx.mv b1) tm_s) ?_
  rintro r H2 ⟨⟨-,hw0⟩,g2⟩
  have hw0:=hw0 (by omega) (by omega)
  obtain ⟨w,rfl,hw⟩:=hw0
  have e8:seqL tm (8:Int).toNat = [0,1,1,0,1,0,0,1]:=tm_seq
  rw [e8] at hw
  have hws:=hw.c.slice
  obtain ⟨aw,rfl,-⟩:=hws
  conv=>whnf
  exact ⟨(0,aw,_),⟨rfl,rfl,rfl,trivial⟩,⟨rfl,g2,hw.view⟩,rfl⟩
 rintro ⟨x2,aw,H2⟩ φ2 _ ⟨rfl,g2,v2⟩
 dsimp only at g2 v2 ⊢
 conv=>whnf
 refine SeqP.cut (α:=Nat×List Value×Hp) (fun s=>[(1,ptr N1 0),(2,.slice aw 8 8),(3,int 0),(4,ptr s.1 0),(5,int 0)]) (fun s H=>s.2.2 = H∧Grows H2 H∧H.at s.1 = some (.row 25 true s.2.1)∧Bx H s.2.1 rd.i) ?_ ?_
 ·conv=>whnf
  have gl1:Grows H2 (H2.lay (.row 3 true [int 0,int 1])):=Grows.lay _ _
  have vb:View (H2.lay (.row 3 true [int 0,int 1])) (slc H2.next 0 2 2) [0,1]:=row_view (ls:=[0,1]) (Hp.at_lay_self _ _) rfl
  have vn:View (H2.lay (.row 3 true [int 0,int 1])) nilS []:=Built.view (h0:=H2) (e:=3) (.inl ⟨rfl,rfl⟩)
  refine CallP.mono (Round_spec 2 _ _ [] [0,1] _ vn vb (by simp) (by simp)) ?_
  rintro r H3 ⟨⟨-,hr⟩,g3⟩
  have hnb:¬ BadR 2 ([]:List Int) [0,1]:=by unfold BadR; simp
  have hr:=hr hnb
  obtain ⟨u,e,rfl,hu,-⟩:=hr
  have er:ringM (2:Int).toNat ([] ++ [0,1]) ([]:List Int).length = rd:=ring_rd
  rw [er,rd_form] at hu
  have hu2:=hu (by decide)
  obtain ⟨rfl,hu3⟩:=hu2
  have hk:=hu3.known
  obtain ⟨a,b,rfl⟩:=hk
  conv=>whnf
  refine ⟨rfl,_,storeAt_all (vs:=[int 2,.slice a _ _,.slice b _ _]) rfl rfl rfl,?_⟩
  conv=>whnf
  exact ⟨(H3.next,_,_),⟨rfl,rfl,rfl,rfl,rfl,trivial⟩,⟨rfl,(gl1.trans g3).then_lay _,Hp.at_lay_self _ _,(hu3.mv.ext (Grows.lay _ _)).bx⟩,rfl⟩
 rintro ⟨N4,by4,H3⟩ φ3 _ ⟨rfl,g3,a4,b4⟩
 dsimp only at g3 a4 b4 ⊢
 have g13:=g2.trans g3
 have a1:=g13.at_ _ _ a1
 have b1:=b1.ext g13
 have v2:=v2.ext g3
 have g1:=g1.trans g13
 clear g2 g3 g13
 conv=>whnf
 refine SeqP.cut (α:=Nat×List Value×Hp) (fun s=>[(1,ptr N1 0),(2,.slice aw 8 8),(3,int 0),(4,ptr N4 0),(5,int 0),(6,ptr s.1 0),(7,int 0)]) (fun s H=>s.2.2 = H∧Grows H3 H∧H.at s.1 = some (.row 25 true s.2.1)∧Bx H s.2.1 tm.i) ?_ ?_
 ·conv=>whnf
  refine ⟨_,all_cells a1 b1.len,?_⟩
  conv=>whnf
  refine CallP.mono (Every_spec _ tm 2 0 _ (Bx.mv b1) tm_s) ?_
  rintro r H4 ⟨⟨-,hr⟩,g4⟩
  have hnb:¬ BadE 2 0:=by unfold BadE; omega
  have hr:=hr hnb
  obtain ⟨u,e,rfl,hu,-⟩:=hr
  have er:(tm.every (2:Int).toNat (0:Int).toNat).form = tm:=tm_every
  rw [er] at hu
  have hu2:=hu (by decide)
  obtain ⟨rfl,hu3⟩:=hu2
  have hk:=hu3.known
  obtain ⟨a,b,rfl⟩:=hk
  conv=>whnf
  refine ⟨rfl,_,storeAt_all (vs:=[int 2,.slice a _ _,.slice b _ _]) rfl rfl rfl,?_⟩
  conv=>whnf
  exact ⟨(H4.next,_,_),⟨rfl,rfl,rfl,rfl,rfl,rfl,rfl,trivial⟩,⟨rfl,g4.then_lay _,Hp.at_lay_self _ _,(hu3.mv.ext (Grows.lay _ _)).bx⟩,rfl⟩
 rintro ⟨N6,by6,H4⟩ φ4 _ ⟨rfl,g4,a6,b6⟩
 dsimp only at g4 a6 b6 ⊢
 have a1:=g4.at_ _ _ a1
 have b1:=b1.ext g4
 have a4:=g4.at_ _ _ a4
 have b4:=b4.ext g4
 have v2:=v2.ext g4
 have g1:=g1.trans g4
 clear g4
 conv=>whnf
 refine SeqP.cut (α:=Hp) (fun s=>[(1,ptr N1 0),(2,.slice aw 8 8),(3,int 0),(4,ptr N4 0),(5,int 0),(6,ptr N6 0),(7,int 0),(8,int 1),(9,.bool true),(10,int 0)]) (fun s H=>s = H∧Grows H4 H) ?_ ?_
 ·conv=>whnf
  refine ⟨_,all_cells a1 b1.len,?_⟩
  conv=>whnf
  refine CallP.mono (Ever_spec _ tm 1 _ (Bx.mv b1) tm_s) ?_
  rintro r H5 ⟨⟨-,hr⟩,g5⟩
  have hr:=hr (by omega)
  rw [tm_ever] at hr
  obtain ⟨b,rfl,hb⟩:=hr
  cases b with
  | false=>exact absurd (by omega) hb.f
  | true =>
   conv=>whnf
   exact ⟨_,⟨rfl,rfl,rfl,rfl,rfl,rfl,rfl,rfl,rfl,rfl,trivial⟩,⟨rfl,g5⟩,rfl⟩
 rintro H5 φ5 _ ⟨rfl,g5⟩
 have a1:=g5.at_ _ _ a1
 have b1:=b1.ext g5
 have a4:=g5.at_ _ _ a4
 have b4:=b4.ext g5
 have a6:=g5.at_ _ _ a6
 have b6:=b6.ext g5
 have v2:=v2.ext g5
 have g1:=g1.trans g5
 clear g5
 conv=>whnf
 refine SeqP.cut (α:=Hp) (fun s=>[(1,ptr N1 0),(2,.slice aw 8 8),(3,int 0),(4,ptr N4 0),(5,int 0),(6,ptr N6 0),(7,int 0),(8,int 1),(9,.bool true),(10,int 0),(11,int 0),(12,int 2),(13,.bool true),(14,int 0)]) (fun s H=>s = H∧Grows H5 H) ?_ ?_
 ·conv=>whnf
  refine ⟨_,all_cells a4 b4.len,?_⟩
  conv=>whnf
  refine CallP.mono (FindRound_spec _ rd _ (Bx.mv b4) rd_s) ?_
  rintro r H6 ⟨hr,g6⟩
  have hr:=rd_find hr
  subst hr
  conv=>whnf
  exact ⟨_,⟨rfl,rfl,rfl,rfl,rfl,rfl,rfl,rfl,rfl,rfl,rfl,rfl,rfl,rfl,trivial⟩,⟨rfl,g6⟩,rfl⟩
 rintro H6 φ6 _ ⟨rfl,g6⟩
 have a1:=g6.at_ _ _ a1
 have b1:=b1.ext g6
 have a4:=g6.at_ _ _ a4
 have b4:=b4.ext g6
 have a6:=g6.at_ _ _ a6
 have b6:=b6.ext g6
 have v2:=v2.ext g6
 have g1:=g1.trans g6
 clear g6
 conv=>whnf
 repeat (refine SeqP.go ?_; conv=>whnf)
 refine ⟨_,all_cells a1 b1.len,?_⟩
 conv=>whnf
 refine CallP.mono (own_spec _ tm.i _ (Bx.mv b1) (lens_of tm_s)) ?_
 rintro r H7 ⟨hw,g7⟩
 rw [cut_tm] at hw
 have hk:=hw.known
 obtain ⟨p1,q1,rfl⟩:=hk
 conv=>whnf
 refine CallP.mono (RMorse_spec _) ?_
 rintro r H8 ⟨hw2,g8⟩
 have hk:=hw2.known
 obtain ⟨p2,q2,rfl⟩:=hk
 conv=>whnf
 refine CallP.mono (REqual_spec _ _ tm.i tm.i _ (hw.mv.ext g8) hw2.mv rfl (by decide) tm_s.lens.2.2) ?_
 rintro _ H9 ⟨⟨x,rfl,hx⟩,g9⟩
 cases x with
 | false=>exact absurd rfl hx.f
 | true =>
  have g69:=(g7.trans g8).trans g9
  have a1:=g69.at_ _ _ a1
  have b1:=b1.ext g69
  have a4:=g69.at_ _ _ a4
  have b4:=b4.ext g69
  have a6:=g69.at_ _ _ a6
  have b6:=b6.ext g69
  have v2:=v2.ext g69
  have g1:=g1.trans g69
  clear g69 g7 g8 g9 hw hw2 hx
  conv=>whnf
  refine cmpT rfl ?_
  conv=>whnf
  have gl1:Grows H9 (H9.lay (.row 3 true [int 0,int 1,int 1,int 0,int 1,int 0,int 0,int 1])):=Grows.lay _ _
  have vb:View (H9.lay (.row 3 true [int 0,int 1,int 1,int 0,int 1,int 0,int 0,int 1])) (slc H9.next 0 8 8) [0,1,1,0,1,0,0,1]:=row_view (ls:=[0,1,1,0,1,0,0,1]) (Hp.at_lay_self _ _) rfl
  refine CallP.mono (ints_spec _ _ [0,1,1,0,1,0,0,1] [0,1,1,0,1,0,0,1] _ (v2.ext gl1) vb (by simp)) ?_
  rintro _ _ ⟨⟨x,rfl,hx⟩,rfl⟩
  cases x with
  | false=>exact absurd rfl hx.f
  | true =>
   conv=>whnf
   refine cmpT rfl ?_
   conv=>whnf
   have a4:=gl1.at_ _ _ a4
   have b4:=b4.ext gl1
   have a6:=gl1.at_ _ _ a6
   have b6:=b6.ext gl1
   have g1:=g1.trans gl1
   clear vb v2 hx gl1 a1 b1
   refine ⟨_,all_cells a4 b4.len,?_⟩
   conv=>whnf
   refine CallP.mono (own_spec _ rd.i _ (Bx.mv b4) (lens_of rd_s)) ?_
   rintro r H11 ⟨hw,g11⟩
   rw [cut_rd] at hw
   have hk:=hw.known
   obtain ⟨p1,q1,rfl⟩:=hk
   conv=>whnf
   have h1:=Hp.at_lay_self H11 (.row 3 true [int 0,int 0,int 1])
   have m1:(H11.lay (.row 3 true [int 0,int 0,int 1])).next = H11.next + 1:=Hp.next_lay _ _
   have hexA:∃ A,H11.lay (.row 3 true [int 0,int 0,int 1]) = A:=⟨_,rfl⟩
   have gA:∀ o1 o2 o3 o4 o5,Grows H11 (((((H11.lay o1).lay o2).lay o3).lay o4).lay o5):=fun _ _ _ _ _=>((((Grows.lay _ _).then_lay _).then_lay _).then_lay _).then_lay _
   refine CallP.mono (REqual_spec _ _ rd.i rd.i _ ?_ ?_ rfl (by decide) rd_s.lens.2.2) ?_
   ·exact hw.mv.ext (gA _ _ _ _ _)
   ·exact rd_mv (Hp.at_lay_old _ (Hp.at_lay_old _ (Hp.at_lay_old _ (Hp.at_lay_old _ (Hp.at_lay_self _ _))))) (Hp.at_lay_old _ (Hp.at_lay_old _ (Hp.at_lay_old _ (Hp.at_lay_self _ _)))) (Hp.at_lay_old _ (Hp.at_lay_old _ (Hp.at_lay_self _ _))) (Hp.at_lay_old _ (Hp.at_lay_self _ _)) (Hp.at_lay_self _ _)
   rintro _ H12 ⟨⟨x,rfl,hx⟩,g12⟩
   cases x with
   | false=>exact absurd rfl hx.f
   | true =>
    have g69:=(g11.trans (gA _ _ _ _ _)).trans g12
    have a6:=g69.at_ _ _ a6
    have b6:=b6.ext g69
    have g1:=g1.trans g69
    clear g69 g11 gA g12 hx hw hexA h1 m1
    conv=>whnf
    refine cmpT rfl ?_
    conv=>whnf
    refine ⟨_,all_cells a6 b6.len,?_⟩
    conv=>whnf
    refine CallP.mono (own_spec _ tm.i _ (Bx.mv b6) (lens_of tm_s)) ?_
    rintro r H13 ⟨hw,g13⟩
    rw [cut_tm] at hw
    have hk:=hw.known
    obtain ⟨p3,q3,rfl⟩:=hk
    conv=>whnf
    refine CallP.mono (RMorse_spec _) ?_
    rintro r H14 ⟨hw2,g14⟩
    have hk:=hw2.known
    obtain ⟨p4,q4,rfl⟩:=hk
    conv=>whnf
    refine CallP.mono (REqual_spec _ _ tm.i tm.i _ (hw.mv.ext g14) hw2.mv rfl (by decide) tm_s.lens.2.2) ?_
    rintro _ H15 ⟨⟨x,rfl,hx⟩,g15⟩
    cases x with
    | false=>exact absurd rfl hx.f
    | true =>
     have g1:=((g1.trans g13).trans g14).trans g15
     conv=>whnf
     refine cmpT rfl ?_
     conv=>whnf
     refine cmpT rfl ?_
     conv=>whnf
     refine cmpT rfl ?_
     conv=>whnf
     refine cmpT rfl ?_
     conv=>whnf
     refine cmpT rfl ?_
     conv=>whnf
     have me:MV H15 (.agg ⟨[int 0,nilS,nilS]⟩) ⟨0,[],[]⟩:=⟨nilS,nilS,rfl,Built.view (h0:=H15) (e:=3) (.inl ⟨rfl,rfl⟩),Mat.nil _⟩
     refine CallP.mono (Check_spec _ _ _ me (by simp) (by simp) (by simp [rw_])) ?_
     rintro _ H16 ⟨⟨e,rfl,-,he⟩,g16⟩
     have he:=he (fun k=>by have:=k.b2; dsimp only at this; omega)
     subst he
     conv=>whnf
     refine cmpT rfl ?_
     conv=>whnf
     repeat (refine SeqP.go ?_; conv=>whnf)
     exact ⟨rfl,g1.trans g16⟩
end
end Go.Proofs.Ytedneplaibmppaa
namespace Go.Proofs.Ytedneplaibmppaa
open Go.Rx Go.RowKit
abbrev InR (n:Int):Prop:=-9223372036854775808≤n∧n < 9223372036854775808
end Go.Proofs.Ytedneplaibmppaa
namespace Go.Proofs.Ytedneplaibmppaa
open Go.Rx Go.RowKit
theorem under3:Try.prog.underlying 3 = some (.int .i64):=Try.underlying3
theorem under22:Try.prog.underlying 22 = some (.slice 3):=Try.underlying22
theorem under23:Try.prog.underlying 23 = some (.slice 22):=Try.underlying23
def fieldTy (i:Nat) (t:TypeId):Option TypeDesc→Option (TypeId×Nat)
 | some (.struct fs)=>(fs[i]?).map fun f=>(f.type,f.offset)
 | _=>none
theorem field_of {t ft off i:Nat} (h:fieldTy i t (Try.prog.underlying t) = some (ft,off)) {ts:List Tr} (hy:TyT Try.prog t ts):ts.length = Try.prog.cellsOf t∧TyT Try.prog ft ((ts.drop off).take (Try.prog.cellsOf ft)):=by
 cases hu:Try.prog.underlying t with
 | none=>rw [hu] at h; cases h
 | some d =>
  rw [hu] at h
  cases d with
  | struct fs =>
   have hf:=ty_field hu hy
   unfold fieldTy at h
   dsimp only at h
   cases hg:fs[i]? with
   | none=>rw [hg] at h; cases h
   | some f =>
    rw [hg] at h
    cases h
    exact ⟨hf.1,hf.2 i f hg⟩
  | _=>cases h
theorem cells3:Try.prog.cellsOf 3 = 1:=by kernel_rfl
theorem cells22:Try.prog.cellsOf 22 = 1:=by kernel_rfl
theorem cells23:Try.prog.cellsOf 23 = 1:=by kernel_rfl
theorem one_of {ts:List Tr} {o:Nat} (h:o < ts.length):(ts.drop o).take 1 = [ts[o]]:=by
 rw [List.drop_eq_getElem_cons h]; rfl
theorem ag_inv {h:Hp} {v:Value} {ts:List Tr} (k:AbsT h v (.ag ts)):∃ vs:List Value,v = .agg ⟨vs⟩∧vs.length = ts.length∧∀ (k:Nat) v t,vs[k]? = some v→ts[k]? = some t→AbsT h v t:=by
 cases k with
 | ag vs cs hl ht=>exact ⟨vs,rfl,hl,ht⟩
theorem num_inv {h:Hp} {v:Value} {n:Int} (k:AbsT h v (.num n)):v = int n:=by cases k; rfl
theorem mac_arg {ts:List Tr} (hy:TyT Try.prog 25 ts):∃ M:MacI,InR M.base∧Lens M∧∀ h v,AbsT h v (.ag ts)→MV h v M:=by
 have hmax:maxLen < 9223372036854775808:=by decide
 have f0:=field_of (i:=0) (ft:=3) (off:=0) (by kernel_rfl) hy
 have f1:=field_of (i:=1) (ft:=22) (off:=1) (by kernel_rfl) hy
 have f2:=field_of (i:=2) (ft:=23) (off:=2) (by kernel_rfl) hy
 have hl:ts.length = 3:=f0.1.trans (by kernel_rfl)
 have f0:=f0.2
 have f1:=f1.2
 have f2:=f2.2
 rw [cells3,one_of (by omega)] at f0
 rw [cells22,one_of (by omega)] at f1
 rw [cells23,one_of (by omega)] at f2
 obtain ⟨n,en,hn⟩:=ty_num under3 f0
 obtain ⟨l1,e1,m1,r1⟩:=ty_ints under22 cells3 under3 f1
 obtain ⟨L,e2,m2,r2⟩:=ty_mat under23 cells22 under22 cells3 under3 f2
 refine ⟨⟨n,l1,L⟩,hn,⟨by show l1.length < _; omega,by show L.length < _; omega,fun s=>?_⟩,fun h v k=>?_⟩
 ·show (rw_ L s).length < _
  by_cases hs:s < L.length
  ·rw [rw_at hs]
   have:=(r2 _ (List.getElem_mem hs)).1
   omega
  ·unfold rw_
   rw [List.getD_eq_getElem?_getD,List.getElem?_eq_none (by omega)]
   simp
 obtain ⟨vs,rfl,hvl,hk⟩:=ag_inv k
 match vs,hvl with
 | [v0,v1,v2],_ =>
 have k0:=hk 0 v0 _ rfl (List.getElem?_eq_getElem (by omega))
 have k1:=hk 1 v1 _ rfl (List.getElem?_eq_getElem (by omega))
 have k2:=hk 2 v2 _ rfl (List.getElem?_eq_getElem (by omega))
 rw [show ts[0] = .num n from List.cons.inj en |>.1] at k0
 rw [e1] at k1
 rw [e2] at k2
 have:=num_inv k0
 subst this
 exact ⟨v1,v2,rfl,k1.view,k2.mat⟩
 | [],h | [_],h | [_,_],h | _ :: _ :: _ :: _ :: _,h=>simp [hl] at h
end Go.Proofs.Ytedneplaibmppaa
namespace Go.Proofs.Ytedneplaibmppaa
open Go.Rx Go.RowKit
theorem OkS.cut {m:Mac} (h:OkS m):cutI m.i = m.i:=by
 have h1:=h.n12
 have h2:=h.ok.ilen
 have h5:=h.b5
 refine cutI_id (by show m.out.length≤13; omega) (by omega) fun l hl=>?_
 obtain ⟨i,hi,rfl⟩:=List.getElem_of_mem hl
 have:=h.ok.irow (s:=i) (by omega)
 rw [rw_at hi] at this
 omega
theorem OwnM.bx {h0 h:Hp} {cs:List Value} {M:MacI} (k:OwnM h0 h (.agg ⟨cs⟩) M):Bx h cs M:=k.mv.bx
end Go.Proofs.Ytedneplaibmppaa
namespace Go.Proofs.Ytedneplaibmppaa
open Go.Rx Go.RowKit
namespace Mac
theorem Ok.ck {m:Mac} (h:m.Ok) (z:m.Zer) (b2:2≤m.base) (b5:m.base≤5) (n12:m.out.length≤12) (outs:∀ x ∈ m.out,0≤x∧x≤9):OkS m where
 ok:=h
 zer:=z
 ck:=by
  have hil:=h.ilen
  refine ⟨by show (2:Int)≤m.base; omega,by show (m.base:Int)≤5; omega,h.n1,n12,outs,hil,fun s hs=>?_⟩
  have hs:s < m.out.length:=hs
  have hr:=h.irow hs
  have g0:=m.i_nx s
  refine ⟨by show ((rw_ m.i.next s).length:Int) = (m.base:Int); omega,fun x hx=>?_,?_⟩
  ·obtain ⟨d,hd,rfl⟩:=List.getElem_of_mem hx
   rw [← gl_at hd,g0]
   have:=h.lt s d hs (by omega)
   show (0:Int)≤(m.nx s d:Int)∧(m.nx s d:Int) < (m.out.length:Int)
   omega
  ·rw [g0,Int.toNat_natCast]
   exact z s hs
theorem form_zer {m:Mac} (h:m.Ok) (z:m.Zer):m.form.Zer:=built_zer (form_fin h) (List.mem_of_getElem? (cl_get h h.n1)) h.b1 fun c hc=>by
 obtain ⟨i,hi,rfl⟩:=List.getElem_of_mem hc
 rw [cls_len h] at hi
 have e:=cl_get h hi
 rw [List.getElem?_eq_getElem (by rw [cls_len h]; exact hi)] at e
 injection e with e
 rw [e,nextC_cl h hi h.b1,outC_cl h hi,outC_cl h (h.lt i 0 hi h.b1)]
 exact z i hi
theorem form_outs {m:Mac} (h:m.Ok) {P:Int→Prop} (q:∀ x ∈ m.out,P x):∀ x ∈ m.form.out,P x:=built_outs (form_fin h) (List.mem_of_getElem? (cl_get h h.n1)) fun c hc=>by
 obtain ⟨i,hi,rfl⟩:=List.getElem_of_mem hc
 rw [cls_len h] at hi
 have e:=cl_get h hi
 rw [List.getElem?_eq_getElem (by rw [cls_len h]; exact hi)] at e
 injection e with e
 rw [e,outC_cl h hi]
 have e2:m.o i = m.out[i]:=gl_at hi
 rw [e2]
 exact q _ (List.getElem_mem hi)
theorem form_s {m:Mac} (h:m.Ok) (z:m.Zer) (b2:2≤m.base) (b5:m.base≤5) (outs:∀ x ∈ m.out,0≤x∧x≤9) (n12:m.form.out.length≤12):OkS m.form:=(form_ok h).ck (form_zer h z) b2 b5 n12 (form_outs h outs)
end Mac
end Go.Proofs.Ytedneplaibmppaa
namespace Go.Proofs.Ytedneplaibmppaa
open Go.Rx Go.RowKit
def LenC (M:MacI):Prop:=M.out.length≤1000000∧M.next.length≤1000000∧∀ s,(rw_ M.next s).length≤1000000
abbrev no0:MacI:=⟨0,[],[]⟩
theorem noM_mv (h:Hp):MV h noM no0:=⟨nilS,nilS,rfl,Built.view (h0:=h) (e:=3) (.inl ⟨rfl,rfl⟩),Mat.nil _⟩
end Go.Proofs.Ytedneplaibmppaa
namespace Go.Proofs.Ytedneplaibmppaa
open Go.Rx Go.RowKit
def Slot (H:Hp) (N:Nat) (e:Int) (F:Mac):Prop:=∃ bx:List Value,bx.length = 3∧H.at N = some (.row 25 true bx)∧(e = 0∧F.out.length≤12∧Bx H bx F.i∨e≠0∧bx = [int 0,nilS,nilS])
theorem Slot.ext {H H':Hp} {N:Nat} {e:Int} {F:Mac} (g:Grows H H') (k:Slot H N e F):Slot H' N e F:=by
 obtain ⟨bx,h1,h2,h3⟩:=k
 refine ⟨bx,h1,g.at_ _ _ h2,?_⟩
 rcases h3 with ⟨h3,h4,h5⟩ | h3
 ·exact .inl ⟨h3,h4,h5.ext g⟩
 ·exact .inr h3
theorem Slot.mv {H:Hp} {N:Nat} {e:Int} {F:Mac} (k:Slot H N e F):∃ bx:List Value,bx.length = 3∧H.at N = some (.row 25 true bx)∧sameV 4 (.agg ⟨bx⟩) (.agg ⟨bx⟩) = true∧(e = 0→F.out.length≤12∧MV H (.agg ⟨bx⟩) F.i)∧(e≠0→MV H (.agg ⟨bx⟩) no0):=by
 obtain ⟨bx,h1,h2,h3⟩:=k
 rcases h3 with ⟨h3,h4,h5⟩ | ⟨h3,rfl⟩
 ·exact ⟨bx,h1,h2,h5.same,fun _=>⟨h4,Bx.mv h5⟩,fun q=>absurd h3 q⟩
 ·exact ⟨_,h1,h2,sameV_mac _ _ _ _ _ _ _,fun q=>absurd q h3,fun _=>noM_mv H⟩
end Go.Proofs.Ytedneplaibmppaa
namespace Go.Proofs.Ytedneplaibmppaa
open Go.Rx Go.RowKit
attribute [local irreducible] E idxN cellAt cellsAt storeAt callable helems hmoved lookIn findKey keyOk hentries Hp.at Hp.set Hp.lay arBits hupdated setAt CallP YieldP BoolOf IsWrap Rnd LoopP AppP CutP Int.tmod Int.tdiv Int.fdiv
section
variable [Unknowns]
attribute [local irreducible] sameAt
theorem RCheck_spec (v:Value) (M:MacI) (h:Hp) (hv:MV h v M) (ho:M.out.length < 9223372036854775808) (hn:M.next.length < 9223372036854775808):CallP E 19 [v] h (fun r h'=>(∃ x,r = .bool x∧BoolOf x (OkI M))∧Grows h h'):=by
 obtain ⟨bx,rfl,hbx⟩:=hv.box
 obtain ⟨ao,an,co,cn,hcx⟩:=hbx.cx
 refine enter19 (by simp) ?_
 conv=>whnf
 refine SeqP.cut (α:=Hp) (fun _=>[(1,ptr h.next 0)]) (fun x H=>x = H∧Grows h H∧H.at h.next = some (.row 26 true bx)) ?_ ?_
 ·conv=>whnf
  exact ⟨_,⟨rfl,trivial⟩,⟨rfl,Grows.lay _ _,Hp.at_lay_self _ _⟩,rfl⟩
 rintro H φ1 _ ⟨rfl,gH,aX⟩
 have kx:=hcx H h.next 26 gH aX
 have x0:=kx.c0
 have x1:=kx.c1
 have x2:=kx.c2
 have no:¬ OkI M→∀ v:Value,v = .bool false→(∃ x,v = .bool x∧BoolOf x (OkI M))∧Grows h H:=fun k v e=>⟨⟨false,e,bo_no k⟩,gH⟩
 conv=>whnf
 refine SeqP.cut (α:=Unit) (fun _=>[(3,int M.out.length),(1,ptr h.next 0)]) (fun _ H2=>H = H2) ?_ ?_
 ·conv=>whnf
  refine ⟨_,x1,?_⟩
  conv=>whnf
  exact ⟨(),⟨rfl,rfl,trivial⟩,rfl,rfl⟩
 rintro _ φ2 _ rfl
 conv=>whnf
 repeat (refine SeqP.go ?_; conv=>whnf)
 refine ⟨_,x0,?_⟩
 conv=>whnf
 refine cmpB (fun c=>?_) (fun q1=>?_)
 ·conv=>whnf
  repeat (refine SeqP.go ?_; conv=>whnf)
  exact no (fun e=>by have:=e.b2; omega) _ rfl
 conv=>whnf
 refine ⟨_,x0,?_⟩
 conv=>whnf
 refine cmpB (fun c=>?_) (fun q2=>?_)
 ·conv=>whnf
  repeat (refine SeqP.go ?_; conv=>whnf)
  exact no (fun e=>by have:=e.b5; omega) _ rfl
 conv=>whnf
 refine cmpB (fun c=>?_) (fun q3=>?_)
 ·conv=>whnf
  repeat (refine SeqP.go ?_; conv=>whnf)
  exact no (fun e=>by have:=e.n1; omega) _ rfl
 conv=>whnf
 refine cmpB (fun c=>?_) (fun q4=>?_)
 ·conv=>whnf
  repeat (refine SeqP.go ?_; conv=>whnf)
  exact no (fun e=>by have:=e.n12; omega) _ rfl
 conv=>whnf
 refine ⟨_,x2,?_⟩
 conv=>whnf
 refine cmpB (fun c=>?_) (fun q5=>?_)
 ·conv=>whnf
  repeat (refine SeqP.go ?_; conv=>whnf)
  exact no (fun e=>by have:=e.len; omega) _ rfl
 have hnl:M.next.length = M.out.length:=by omega
 have hexB:∃ b:Nat,M.base = b:=⟨M.base.toNat,by omega⟩
 obtain ⟨b,eb⟩:=hexB
 rw [eb] at q1 q2 x0
 conv=>whnf
 repeat (refine SeqP.go ?_; conv=>whnf)
 refine loop_inv (α:=Nat) (fun i=>[(4,int i),(3,int M.out.length),(1,ptr h.next 0)]) (fun _=>H) (fun i=>i≤M.out.length∧∀ k,k < i→(0≤gl M.out k∧gl M.out k≤9)∧RowOk M k) (fun i=>M.out.length - i) 0 ⟨Nat.zero_le _,fun k hk=>absurd hk (Nat.not_lt_zero _)⟩ ⟨rfl,rfl,rfl,trivial⟩ (Hp.Le.refl _) ?_
 rintro i φ3 ⟨hi,hall⟩
 conv=>whnf
 repeat (refine SeqP.go ?_; conv=>whnf)
 refine cmpB (fun hlt=>?_) (fun hlt=>?_)
 rotate_left
 ·conv=>whnf
  repeat (refine SeqP.go ?_; conv=>whnf)
  have:i = M.out.length:=by omega
  subst this
  exact ⟨⟨true,rfl,bo_yes ⟨by omega,by omega,by omega,by omega,forall_gl fun j hj=>(hall j hj).1,hnl,fun s hs=>(hall s hs).2⟩⟩,gH⟩
 have hi':i < M.out.length:=by omega
 have ha:=kx.outAt hi'
 have hr:=kx.rowAt (i:=i) (by omega)
 obtain ⟨r1,o1,sp1,ea,hsp1,hc1⟩:=ha
 obtain ⟨r3,o3,sp3,a3,c3,e3,hsp3,hc3,hv3⟩:=hr
 subst ea
 subst e3
 conv=>whnf
 repeat (refine SeqP.go ?_; conv=>whnf)
 refine ⟨_,x1,?_⟩
 conv=>whnf
 refine ⟨hsp1,⟨by omega,by omega⟩,?_⟩
 conv=>whnf
 refine ⟨_,hc1,?_⟩
 conv=>whnf
 refine cmpB (fun c=>?_) (fun p1=>?_)
 ·conv=>whnf
  repeat (refine SeqP.go ?_; conv=>whnf)
  exact no (fun e=>by have:=gl_forall (P:=fun x=>0≤x∧x≤9) e.outs hi'; omega) _ rfl
 conv=>whnf
 refine ⟨_,x1,?_⟩
 conv=>whnf
 refine ⟨hsp1,⟨by omega,by omega⟩,?_⟩
 conv=>whnf
 refine ⟨_,hc1,?_⟩
 conv=>whnf
 refine cmpB (fun c=>?_) (fun p2=>?_)
 ·conv=>whnf
  repeat (refine SeqP.go ?_; conv=>whnf)
  exact no (fun e=>by have:=gl_forall (P:=fun x=>0≤x∧x≤9) e.outs hi'; omega) _ rfl
 conv=>whnf
 refine ⟨_,x2,?_⟩
 conv=>whnf
 refine ⟨hsp3,⟨by omega,by omega⟩,?_⟩
 conv=>whnf
 refine ⟨_,hc3,?_⟩
 conv=>whnf
 refine ⟨_,x0,?_⟩
 conv=>whnf
 refine cmpB (fun c=>?_) (fun p3=>?_)
 ·conv=>whnf
  repeat (refine SeqP.go ?_; conv=>whnf)
  exact no (fun e=>by have:=(e.rows i hi').len; omega) _ rfl
 have hrl:(rw_ M.next i).length = b:=by omega
 conv=>whnf
 refine SeqP.cut (α:=Unit) (fun _=>[(4,int i),(3,int M.out.length),(1,ptr h.next 0)]) (fun _ H2=>H = H2∧∀ d,d < b→0≤gl (rw_ M.next i) d∧gl (rw_ M.next i) d < M.out.length) ?_ ?_
 ·conv=>whnf
  repeat (refine SeqP.go ?_; conv=>whnf)
  refine loop_inv (α:=Nat) (fun j=>[(5,int j),(4,int i),(3,int M.out.length),(1,ptr h.next 0)]) (fun _=>H) (fun j=>j≤b∧∀ d,d < j→0≤gl (rw_ M.next i) d∧gl (rw_ M.next i) d < M.out.length) (fun j=>b - j) 0 ⟨Nat.zero_le _,fun d hd=>absurd hd (Nat.not_lt_zero _)⟩ ⟨rfl,rfl,rfl,rfl,trivial⟩ (Hp.Le.refl _) ?_
  rintro j φ4 ⟨hj,hgood⟩
  conv=>whnf
  repeat (refine SeqP.go ?_; conv=>whnf)
  refine ⟨_,x0,?_⟩
  conv=>whnf
  refine cmpB (fun hlt2=>?_) (fun hlt2=>?_)
  rotate_left
  ·conv=>whnf
   repeat (refine SeqP.go ?_; conv=>whnf)
   have:j = b:=by omega
   subst this
   exact ⟨(),⟨rfl,rfl,rfl,trivial⟩,⟨rfl,hgood⟩,rfl⟩
  have hj':j < b:=by omega
  have hj3:=View.cellg hv3 (i:=j) (by omega)
  obtain ⟨r5,o5,sp5,e5,hsp5,-,hc5⟩:=hj3
  subst e5
  have hmem:gl (rw_ M.next i) j ∈ rw_ M.next i:=by rw [gl_at (by omega)]; exact List.getElem_mem _
  conv=>whnf
  repeat (refine SeqP.go ?_; conv=>whnf)
  refine ⟨_,x2,?_⟩
  conv=>whnf
  refine ⟨hsp3,⟨by omega,by omega⟩,?_⟩
  conv=>whnf
  refine ⟨_,hc3,?_⟩
  conv=>whnf
  refine ⟨hsp5,⟨by omega,by omega⟩,?_⟩
  conv=>whnf
  refine ⟨_,hc5,?_⟩
  conv=>whnf
  refine cmpB (fun c=>?_) (fun p4=>?_)
  ·conv=>whnf
   repeat (refine SeqP.go ?_; conv=>whnf)
   exact no (fun e=>by have:=(e.rows i hi').lt _ hmem; omega) _ rfl
  conv=>whnf
  refine ⟨_,x2,?_⟩
  conv=>whnf
  refine ⟨hsp3,⟨by omega,by omega⟩,?_⟩
  conv=>whnf
  refine ⟨_,hc3,?_⟩
  conv=>whnf
  refine ⟨hsp5,⟨by omega,by omega⟩,?_⟩
  conv=>whnf
  refine ⟨_,hc5,?_⟩
  conv=>whnf
  refine cmpB (fun c=>?_) (fun p5=>?_)
  ·conv=>whnf
   repeat (refine SeqP.go ?_; conv=>whnf)
   exact no (fun e=>by have:=(e.rows i hi').lt _ hmem; omega) _ rfl
  conv=>whnf
  repeat (refine SeqP.go ?_; conv=>whnf)
  refine ⟨((j + 1:Nat):Int),wie (by omega) (by omega),?_⟩
  conv=>whnf
  exact Rnd.mk (j + 1) ⟨by omega,fun d hd=>by
   by_cases e:d = j
   ·subst e; omega
   ·exact hgood d (by omega)⟩ (by show b - (j + 1) < b - j; omega) ⟨rfl,rfl,rfl,rfl,trivial⟩ (Hp.Le.refl _) rfl
 rintro _ φ4 _ ⟨rfl,hgood⟩
 have hg0:=hgood 0 (by omega)
 have hj3:=View.cellg hv3 (i:=0) (by omega)
 obtain ⟨r5,o5,sp5,e5,hsp5,-,hc5⟩:=hj3
 subst e5
 have hexg:∃ g:Nat,gl (rw_ M.next i) 0 = g:=⟨(gl (rw_ M.next i) 0).toNat,by omega⟩
 obtain ⟨g,eg⟩:=hexg
 rw [eg] at hc5 hg0
 have hz:=View.cellg kx.o (i:=g) (by omega)
 obtain ⟨r6,o6,sp6,e6,hsp6,-,hc6⟩:=hz
 injection e6 with e6
 injection e6 with e61 e62 e63
 subst e61; subst e62; subst e63
 conv=>whnf
 repeat (refine SeqP.go ?_; conv=>whnf)
 refine ⟨_,x1,?_⟩
 conv=>whnf
 refine ⟨_,x2,?_⟩
 conv=>whnf
 refine ⟨hsp3,⟨by omega,by omega⟩,?_⟩
 conv=>whnf
 refine ⟨_,hc3,?_⟩
 conv=>whnf
 refine ⟨hsp5,⟨by omega,by omega⟩,?_⟩
 conv=>whnf
 refine ⟨_,hc5,?_⟩
 conv=>whnf
 refine ⟨hsp1,⟨by omega,by omega⟩,?_⟩
 conv=>whnf
 refine ⟨_,hc6,?_⟩
 conv=>whnf
 refine ⟨_,x1,?_⟩
 conv=>whnf
 refine ⟨hsp1,⟨by omega,by omega⟩,?_⟩
 conv=>whnf
 refine ⟨_,hc1,?_⟩
 conv=>whnf
 refine cmpB (fun c=>?_) (fun p6=>?_)
 ·conv=>whnf
  repeat (refine SeqP.go ?_; conv=>whnf)
  exact no (fun e=>by
   have:=(e.rows i hi').zer
   rw [eg,Int.toNat_natCast] at this
   exact c this) _ rfl
 have hzz:gl M.out g = gl M.out i:=by omega
 conv=>whnf
 repeat (refine SeqP.go ?_; conv=>whnf)
 refine ⟨((i + 1:Nat):Int),wie (by omega) (by omega),?_⟩
 conv=>whnf
 exact Rnd.mk (i + 1) ⟨by omega,fun k hk=>by
  by_cases e:k = i
  ·subst e
   exact ⟨by omega,by rw [eb]; omega,fun x hx=>by
    obtain ⟨d,hd,rfl⟩:=List.getElem_of_mem hx
    rw [← gl_at hd]
    exact hgood d (by omega),by rw [eg,Int.toNat_natCast]; exact hzz⟩
  ·exact hall k (by omega)⟩ (by show M.out.length - (i + 1) < M.out.length - i; omega) ⟨rfl,rfl,rfl,trivial⟩ (Hp.Le.refl _) rfl
end
end Go.Proofs.Ytedneplaibmppaa
namespace Go.Proofs.Ytedneplaibmppaa
open Go.Rx Go.RowKit
def BothE (A B:MacI) (e:Int):Prop:=(¬ OkI A∨¬ OkI B→e = 50)∧(OkI A→OkI B→(A.base≠B.base→e = 1)∧(A.base = B.base→e = 0))
attribute [local irreducible] E idxN cellAt cellsAt storeAt callable helems hmoved lookIn findKey keyOk hentries Hp.at Hp.set Hp.lay arBits hupdated setAt CallP YieldP BoolOf IsWrap Rnd LoopP AppP CutP Int.tmod Int.tdiv Int.fdiv
section
variable [Unknowns]
attribute [local irreducible] sameAt
theorem checkBoth_spec (va vb:Value) (A B:MacI) (h:Hp) (ha:MV h va A) (hb:MV h vb B) (hA:LenC A) (hB:LenC B):CallP E 64 [va,vb] h (fun r h'=>(∃ e,r = int e∧BothE A B e)∧Grows h h'):=by
 obtain ⟨bxa,rfl,hxa⟩:=ha.box
 obtain ⟨bxb,rfl,hxb⟩:=hb.box
 obtain ⟨aoa,ana,coa,cna,hcxa⟩:=hxa.cx
 obtain ⟨aob,anb,cob,cnb,hcxb⟩:=hxb.cx
 refine enter64 (by simp) ?_
 conv=>whnf
 refine SeqP.cut (α:=Hp) (fun _=>[(2,ptr h.next 0),(3,ptr (h.next + 1) 0)]) (fun x H=>x = H∧Grows h H∧H.at h.next = some (.row 25 true bxa)∧H.at (h.next + 1) = some (.row 25 true bxb)) ?_ ?_
 ·conv=>whnf
  have n1:(h.lay (.row 25 true bxa)).next = h.next + 1:=Hp.next_lay _ _
  exact ⟨_,⟨rfl,congrArg (fun k=>ptr k 0) n1,trivial⟩,⟨rfl,(Grows.lay _ _).then_lay _,Hp.at_lay_old _ (Hp.at_lay_self _ _),at_nx2 n1 (Hp.at_lay_self _ _)⟩,rfl⟩
 rintro H φ1 _ ⟨rfl,gH,aX,aY⟩
 conv=>whnf
 repeat (refine SeqP.go ?_; conv=>whnf)
 refine ⟨_,all_cells aX hxa.len,?_⟩
 conv=>whnf
 refine CallP.mono (Check_spec _ A _ (Bx.mv (hxa.ext gH)) hA.1 hA.2.1 hA.2.2) ?_
 rintro r H2 ⟨⟨e,rfl,he0,he5⟩,g2⟩
 have gh2:=gH.trans g2
 by_cases kA:OkI A
 rotate_left
 ·have:=he5 kA
  subst this
  conv=>whnf
  repeat (refine SeqP.go ?_; conv=>whnf)
  refine cmpT (by omega) ?_
  conv=>whnf
  repeat (refine SeqP.go ?_; conv=>whnf)
  exact ⟨⟨50,rfl,fun _=>rfl,fun q=>absurd q kA⟩,gh2⟩
 have:=he0 kA
 subst this
 conv=>whnf
 repeat (refine SeqP.go ?_; conv=>whnf)
 refine cmpF (by omega) ?_
 conv=>whnf
 repeat (refine SeqP.go ?_; conv=>whnf)
 refine ⟨_,all_cells (g2.at_ _ _ aY) hxb.len,?_⟩
 conv=>whnf
 refine CallP.mono (Check_spec _ B _ (Bx.mv (hxb.ext gh2)) hB.1 hB.2.1 hB.2.2) ?_
 rintro r H3 ⟨⟨e,rfl,he0,he5⟩,g3⟩
 have gh3:=gh2.trans g3
 by_cases kB:OkI B
 rotate_left
 ·have:=he5 kB
  subst this
  conv=>whnf
  repeat (refine SeqP.go ?_; conv=>whnf)
  refine cmpT (by omega) ?_
  conv=>whnf
  repeat (refine SeqP.go ?_; conv=>whnf)
  exact ⟨⟨50,rfl,fun _=>rfl,fun _ q=>absurd q kB⟩,gh3⟩
 have:=he0 kB
 subst this
 have g23:=g2.trans g3
 have x0:=(hcxa H3 h.next 25 gh3 (g23.at_ _ _ aX)).c0
 have y0:=(hcxb H3 (h.next + 1) 25 gh3 (g23.at_ _ _ aY)).c0
 conv=>whnf
 repeat (refine SeqP.go ?_; conv=>whnf)
 refine cmpF (by omega) ?_
 conv=>whnf
 repeat (refine SeqP.go ?_; conv=>whnf)
 refine ⟨_,x0,?_⟩
 conv=>whnf
 refine ⟨_,y0,?_⟩
 conv=>whnf
 refine cmpB (fun hne=>?_) (fun heq=>?_)
 ·conv=>whnf
  repeat (refine SeqP.go ?_; conv=>whnf)
  exact ⟨⟨1,rfl,fun q=>absurd q (by simp [kA,kB]),fun _ _=>⟨fun _=>rfl,fun q=>absurd q hne⟩⟩,gh3⟩
 ·conv=>whnf
  repeat (refine SeqP.go ?_; conv=>whnf)
  exact ⟨⟨0,rfl,fun q=>absurd q (by simp [kA,kB]),fun _ _=>⟨fun q=>absurd q heq,fun _=>rfl⟩⟩,gh3⟩
theorem Same_ok (va vb:Value) (a b:Mac) (h:Hp) (ha:MV h va a.i) (hb:MV h vb b.i) (hA:OkS a) (hB:OkS b) (hbb:a.base = b.base):CallP E 26 [va,vb] h (fun r h'=>(∃ n d,r = .tuple ⟨[int n,.bool (!d),int 0]⟩∧DiffR a b (.tuple ⟨[int n,.bool d]⟩))∧Grows h h'):=by
 obtain ⟨bxa,rfl,hxa⟩:=ha.box
 obtain ⟨bxb,rfl,hxb⟩:=hb.box
 have h12:=hA.n12
 have h12':=hB.n12
 have hmul:=Nat.mul_le_mul h12 h12'
 refine enter26 (by simp) ?_
 conv=>whnf
 refine SeqP.cut (α:=Hp) (fun _=>[(2,ptr h.next 0),(3,ptr (h.next + 1) 0)]) (fun x H=>x = H∧Grows h H∧H.at h.next = some (.row 25 true bxa)∧H.at (h.next + 1) = some (.row 25 true bxb)) ?_ ?_
 ·conv=>whnf
  have n1:(h.lay (.row 25 true bxa)).next = h.next + 1:=Hp.next_lay _ _
  exact ⟨_,⟨rfl,congrArg (fun k=>ptr k 0) n1,trivial⟩,⟨rfl,(Grows.lay _ _).then_lay _,Hp.at_lay_old _ (Hp.at_lay_self _ _),at_nx2 n1 (Hp.at_lay_self _ _)⟩,rfl⟩
 rintro H φ1 _ ⟨rfl,gH,aX,aY⟩
 conv=>whnf
 repeat (refine SeqP.go ?_; conv=>whnf)
 refine ⟨_,all_cells aX hxa.len,?_⟩
 conv=>whnf
 refine ⟨_,all_cells aY hxb.len,?_⟩
 conv=>whnf
 refine CallP.mono (checkBoth_spec _ _ a.i b.i _ (Bx.mv (hxa.ext gH)) (Bx.mv (hxb.ext gH)) hA.lens hB.lens) ?_
 rintro r H2 ⟨⟨e,rfl,he⟩,g2⟩
 have:=(he.2 hA.ck hB.ck).2 (congrArg (fun n:Nat=>(n:Int)) hbb)
 subst this
 conv=>whnf
 repeat (refine SeqP.go ?_; conv=>whnf)
 refine cmpF (by omega) ?_
 conv=>whnf
 repeat (refine SeqP.go ?_; conv=>whnf)
 refine ⟨_,all_cells (g2.at_ _ _ aX) hxa.len,?_⟩
 conv=>whnf
 refine ⟨_,all_cells (g2.at_ _ _ aY) hxb.len,?_⟩
 conv=>whnf
 refine CallP.mono (diff_spec _ _ a b _ (Bx.mv (hxa.ext (gH.trans g2))) (Bx.mv (hxb.ext (gH.trans g2))) hA.ok hB.ok hbb hA.b5 (by omega)) ?_
 rintro r H3 ⟨hr,g3⟩
 have hr0:=hr
 obtain ⟨n,d,rfl,-,-⟩:=hr
 conv=>whnf
 repeat (refine SeqP.go ?_; conv=>whnf)
 exact ⟨⟨n,d,rfl,hr0⟩,(gH.trans g2).trans g3⟩
end
end Go.Proofs.Ytedneplaibmppaa
namespace Go.Proofs.Ytedneplaibmppaa
open Go.Rx Go.RowKit
theorem LenC.lens {M:MacI} (h:LenC M):Lens M:=⟨by have:=h.1; omega,by have:=h.2.1; omega,fun s=>by have:=h.2.2 s; omega⟩
end Go.Proofs.Ytedneplaibmppaa
namespace Go.Proofs.Ytedneplaibmppaa
open Go.Rx Go.RowKit
def swN (s i:Nat):Nat:=if i = 0 then s else if i = s then 0 else i
theorem swN_swN (s i:Nat):swN s (swN s i) = i:=by
 unfold swN
 by_cases h0:i = 0
 ·subst h0
  rw [if_pos rfl]
  by_cases hs:s = 0
  ·rw [if_pos hs,hs]
  ·rw [if_neg hs,if_pos rfl]
 ·rw [if_neg h0]
  by_cases hs:i = s
  ·rw [if_pos hs,if_pos rfl,hs]
  ·rw [if_neg hs,if_neg h0,if_neg hs]
theorem swN_lt {s i n:Nat} (hs:s < n) (hi:i < n):swN s i < n:=by
 unfold swN
 split
 ·exact hs
 ·split
  ·omega
  ·exact hi
def swRow (m:Mac) (s i:Nat):List Nat:=(List.range m.base).map fun d=>swN s (m.nx (swN s i) d)
def Mac.swapM (m:Mac) (s:Nat):Mac:=⟨m.base,(List.range m.out.length).map fun i=>m.o (swN s i),(List.range m.out.length).map fun i=>swRow m s i⟩
theorem swapM_o {m:Mac} {s i:Nat} (hi:i < m.out.length):(m.swapM s).o i = m.o (swN s i):=by
 unfold Mac.o Mac.swapM
 simp [List.getD_eq_getElem?_getD,hi,Mac.o]
theorem swapM_nx {m:Mac} {s i d:Nat} (hi:i < m.out.length) (hd:d < m.base):(m.swapM s).nx i d = swN s (m.nx (swN s i) d):=by
 unfold Mac.nx Mac.swapM swRow
 simp [List.getD_eq_getElem?_getD,hi,hd,Mac.nx]
theorem swapM_n (m:Mac) (s:Nat):(m.swapM s).out.length = m.out.length:=by unfold Mac.swapM; simp
theorem swapM_ok {m:Mac} (hm:m.Ok) {s:Nat} (hs:s < m.out.length):(m.swapM s).Ok where
 b1:=hm.b1
 n1:=by rw [swapM_n]; exact hm.n1
 len:=by unfold Mac.swapM; simp
 row:=fun i hi=>by
  rw [swapM_n] at hi
  unfold Mac.swapM swRow
  simp [List.getD_eq_getElem?_getD,hi]
 lt:=fun i d hi hd=>by
  rw [swapM_n] at hi ⊢
  rw [swapM_nx hi hd]
  exact swN_lt hs (hm.lt _ _ (swN_lt hs hi) hd)
theorem swapM_run {m:Mac} (hm:m.Ok) {s:Nat} (hs:s < m.out.length):∀ (w:List Nat) (i:Nat),i < m.out.length→Mac.Wd m.base w→swN s ((m.swapM s).run i w) = m.run (swN s i) w
 | [],i,_,_=>rfl
 | d :: w,i,hi,hw=>by
  have hd:d < m.base:=hw d (by simp)
  show swN s ((m.swapM s).run ((m.swapM s).nx i d) w) = m.run (m.nx (swN s i) d) w
  rw [swapM_nx hi hd,swapM_run hm hs w _ (swN_lt hs (hm.lt _ _ (swN_lt hs hi) hd)) fun x hx=>hw x (by simp [hx]),swN_swN]
theorem swapM_alike {m:Mac} (hm:m.Ok) {s:Nat} (hs:s < m.out.length):Mac.Alike (m.swapM s) m 0 s:=fun w hw=>by
 have h:=swapM_run hm hs w 0 hm.n1 hw
 have hl:=(swapM_ok hm hs).run (w:=w) (s:=0) (by rw [swapM_n]; exact hm.n1) hw
 rw [swapM_n] at hl
 rw [swapM_o hl,h]
 rfl
theorem swapM_s {m:Mac} (hm:OkS m) {s:Nat} (hs:s < m.out.length):OkS (m.swapM s):=(swapM_ok hm.ok hs).ck (fun i hi=>by
 rw [swapM_n] at hi
 have hb:=hm.ok.b1
 have h1:=swN_lt hs (hm.ok.lt _ _ (swN_lt hs hi) hb)
 rw [swapM_nx hi hb,swapM_o h1,swN_swN,swapM_o hi]
 exact hm.zer _ (swN_lt hs hi)) hm.b2 hm.b5 (by rw [swapM_n]; exact hm.n12) (forall_gl fun j hj=>by
 rw [swapM_n] at hj
 have:gl (m.swapM s).out j = m.o (swN s j):=swapM_o hj
 rw [this]
 exact hm.o (swN_lt hs hj))
attribute [local irreducible] E idxN cellAt cellsAt storeAt callable helems hmoved lookIn findKey keyOk hentries Hp.at Hp.set Hp.lay arBits hupdated setAt CallP YieldP BoolOf IsWrap Rnd LoopP AppP CutP Int.tmod Int.tdiv Int.fdiv
section
variable [Unknowns]
attribute [local irreducible] sameAt
theorem swapped_spec (i s:Nat) (h:Hp):CallP E 88 [int i,int s] h (fun r h'=>r = int (swN s i:Nat)∧h' = h):=by
 refine enter88 (by simp) ?_
 unfold swN
 conv=>whnf
 repeat (refine SeqP.go ?_; conv=>whnf)
 by_cases h0:i = 0
 ·rw [if_pos h0]
  refine cmpT (by omega) ?_
  conv=>whnf
  repeat (refine SeqP.go ?_; conv=>whnf)
  exact ⟨rfl,rfl⟩
 ·rw [if_neg h0]
  refine cmpF (by omega) ?_
  conv=>whnf
  repeat (refine SeqP.go ?_; conv=>whnf)
  by_cases hs:i = s
  ·rw [if_pos hs]
   refine cmpT (by omega) ?_
   conv=>whnf
   repeat (refine SeqP.go ?_; conv=>whnf)
   exact ⟨rfl,rfl⟩
  ·rw [if_neg hs]
   refine cmpF (by omega) ?_
   conv=>whnf
   repeat (refine SeqP.go ?_; conv=>whnf)
   exact ⟨rfl,rfl⟩
end
section
variable [Unknowns]
attribute [local irreducible] ResP sameAt finP
theorem begun_spec (v:Value) (m:Mac) (s:Nat) (h:Hp) (hv:MV h v m.i) (hm:OkS m) (hs:s < m.out.length):CallP E 56 [v,int s] h (fun r h'=>OwnM h h' r (m.swapM s).i∧Grows h h'):=by
 obtain ⟨bx,rfl,hbx⟩:=hv.box
 obtain ⟨ao,an,co,cn,hcx⟩:=hbx.cx
 have hn12:=hm.n12
 have hb5:=hm.b5
 have hil:=hm.ok.ilen
 refine enter56 (by simp) ?_
 conv=>whnf
 refine SeqP.cut (α:=Hp) (fun _=>[(2,ptr h.next 0),(4,ptr (h.next + 1) 0),(1,int s)]) (fun x H=>x = H∧Grows h H∧H.at h.next = some (.row 26 true bx)∧H.at (h.next + 1) = some (.row 26 true [int 0,nilS,nilS])∧H.next = h.next + 2) ?_ ?_
 ·conv=>whnf
  have n1:(h.lay (.row 26 true bx)).next = h.next + 1:=Hp.next_lay _ _
  exact ⟨_,⟨rfl,congrArg (fun k=>ptr k 0) n1,rfl,trivial⟩,⟨rfl,(Grows.lay _ _).then_lay _,Hp.at_lay_old _ (Hp.at_lay_self _ _),at_nx2 n1 (Hp.at_lay_self _ _),by rw [Hp.next_lay,n1]⟩,rfl⟩
 rintro H φ1 _ ⟨rfl,gH,aX,aR,nH⟩
 have c0:=(hcx H h.next 26 gH aX).c0
 conv=>whnf
 refine SeqP.cut (α:=Hp) (fun _=>[(5,ptr H.next 0),(2,ptr h.next 0),(4,ptr (h.next + 1) 0),(1,int s)]) (fun x H2=>x = H2∧MZ H x 26 H.next nilS nilS [] [] [] [int m.base,nilS,nilS] []) ?_ ?_
 ·conv=>whnf
  refine ⟨_,c0,?_⟩
  conv=>whnf
  refine ⟨rfl,_,storeAt_all (vs:=[int m.base,nilS,nilS]) rfl rfl rfl,?_⟩
  conv=>whnf
  exact ⟨_,⟨rfl,rfl,rfl,rfl,trivial⟩,⟨rfl,MZ.start (.refl _)⟩,rfl⟩
 rintro H2 φ2 _ ⟨rfl,hz2⟩
 have hexZ:∃ Z,H.next = Z:=⟨_,rfl⟩
 obtain ⟨Z,eZ⟩:=hexZ
 rw [eZ] at hz2 ⊢
 conv=>whnf
 refine SeqP.cut (α:=Value×Value×List Value×Hp) (fun _=>[(5,ptr Z 0),(4,ptr (h.next + 1) 0)]) (fun q H4=>q.2.2.2 = H4∧MZ H q.2.2.2 26 Z q.1 q.2.1 (m.swapM s).i.out q.2.2.1 (m.swapM s).i.next [int m.base,q.1,q.2.1] [nilS]) ?_ ?_
 rotate_left
 ·rintro ⟨ov,nv,us,H4⟩ φ5 _ ⟨rfl,hz4⟩
  dsimp only at hz4 ⊢
  have hov:=hz4.out_ok
  obtain ⟨ax,rfl⟩:=hov
  have hnv:=hz4.next_ok
  obtain ⟨ay,rfl⟩:=hnv
  have aR4:=hz4.gr.at_ _ _ aR
  conv=>whnf
  repeat (refine SeqP.go ?_; conv=>whnf)
  refine ⟨_,all_cells hz4.z rfl,?_⟩
  conv=>whnf
  refine ⟨rfl,_,storeAt_full (vs:=[int m.base,.slice ax (m.swapM s).i.out.length (m.swapM s).i.out.length,.slice ay (m.swapM s).i.next.length (m.swapM s).i.next.length]) aR4 rfl rfl rfl,?_⟩
  conv=>whnf
  repeat (refine SeqP.go ?_; conv=>whnf)
  obtain ⟨iR,tR,agR,szR⟩:=ty26
  refine leave_cell (r:=h.next + 1) (o:=0) (cs:=[int m.base,.slice ax (m.swapM s).i.out.length (m.swapM s).i.out.length,.slice ay (m.swapM s).i.next.length (m.swapM s).i.next.length]) rfl tR agR ?_ ?_
  ·rw [szR]
   exact all_cells (Hp.at_set_self _ (Hp.lt_of_at aR4)) rfl
  ·exact hz4.leave (h:=h) (R:=h.next + 1) (by omega) (by omega) gH m.base (.row 26 true [int m.base,.slice ax (m.swapM s).i.out.length (m.swapM s).i.out.length,.slice ay (m.swapM s).i.next.length (m.swapM s).i.next.length])
 conv=>whnf
 repeat (refine SeqP.go ?_; conv=>whnf)
 have hz2':MZ H H2 26 Z nilS nilS [] [] [] [int m.base,nilS,nilS] [nilS]:=hz2.more (.refl _) (v:=nilS) fun r e=>by cases e
 refine loop_inv (α:=Nat×Value×Value×List Value×Hp) (fun q=>[(6,int q.1),(5,ptr Z 0),(2,ptr h.next 0),(4,ptr (h.next + 1) 0),(1,int s)]) (fun q=>q.2.2.2.2) (fun q=>q.1≤m.out.length∧MZ H q.2.2.2.2 26 Z q.2.1 q.2.2.1 ((List.range q.1).map fun i=>m.o (swN s i)) q.2.2.2.1 ((List.range q.1).map fun i=>(swRow m s i).map fun n:Nat=>(n:Int)) [int m.base,q.2.1,q.2.2.1] [nilS]) (fun q=>m.out.length - q.1) (0,nilS,nilS,[],H2) ⟨Nat.zero_le _,hz2'⟩ ⟨rfl,rfl,rfl,rfl,rfl,trivial⟩ (Hp.Le.refl _) ?_
 rintro ⟨i,ov,nv,us,H4⟩ φ5 ⟨hi,hz4⟩
 dsimp only at hi hz4 ⊢
 have g4:=gH.trans hz4.gr
 have k4:=hcx H4 h.next 26 g4 (hz4.gr.at_ _ _ aX)
 have d1:cellAt H4 h.next 1 = some (.slice ao m.out.length co):=k4.c1
 conv=>whnf
 repeat (refine SeqP.go ?_; conv=>whnf)
 refine ⟨_,d1,?_⟩
 conv=>whnf
 refine cmpB (fun q1=>?_) (fun q1=>?_)
 rotate_left
 ·have:i = m.out.length:=by omega
  subst this
  conv=>whnf
  repeat (refine SeqP.go ?_; conv=>whnf)
  refine ⟨(ov,nv,us,H4),⟨rfl,rfl,trivial⟩,⟨rfl,?_⟩,rfl⟩
  have e:(m.swapM s).i.next = (List.range m.out.length).map fun i=>(swRow m s i).map fun n:Nat=>(n:Int):=by
   unfold Mac.i Mac.swapM
   dsimp only
   rw [List.map_map]; rfl
  rw [e]
  exact hz4
 have hi':i < m.out.length:=by omega
 have hsi:=swN_lt hs hi'
 have hexj:∃ j,swN s i = j:=⟨_,rfl⟩
 obtain ⟨j,ej⟩:=hexj
 have hsp:=swapped_spec i s H4
 rw [ej] at hsi hsp
 have gHX:=hz4.gr.at_ _ _ aX
 conv=>whnf
 repeat (refine SeqP.go ?_; conv=>whnf)
 refine CallP.mono hsp ?_
 rintro _ H4b ⟨rfl,eH⟩
 have eH:=eH.symm
 subst eH
 conv=>whnf
 refine SeqP.go ?_
 conv=>whnf
 refine SeqP.cut (α:=Value×Hp) (fun q=>[(8,q.1),(7,int j),(6,int i),(5,ptr Z 0),(2,ptr h.next 0),(4,ptr (h.next + 1) 0),(1,int s)]) (fun q H5=>q.2 = H5∧MZ H q.2 26 Z ov nv ((List.range i).map fun i=>m.o (swN s i)) us ((List.range i).map fun i=>(swRow m s i).map fun n:Nat=>(n:Int)) [int m.base,ov,nv] [q.1]∧BuiltC H q.2 3 1 q.1 ((swRow m s i).map fun n:Nat=>(n:Int)).length (((swRow m s i).map fun n:Nat=>(n:Int)).map int)) ?_ ?_
 ·conv=>whnf
  repeat (refine SeqP.go ?_; conv=>whnf)
  refine loop_inv (α:=Nat×Value×Hp) (fun q=>[(9,int q.1),(8,q.2.1),(7,int j),(6,int i),(5,ptr Z 0),(2,ptr h.next 0),(4,ptr (h.next + 1) 0),(1,int s)]) (fun q=>q.2.2) (fun q=>q.1≤m.base∧MZ H q.2.2 26 Z ov nv ((List.range i).map fun i=>m.o (swN s i)) us ((List.range i).map fun i=>(swRow m s i).map fun n:Nat=>(n:Int)) [int m.base,ov,nv] [q.2.1]∧BuiltC H q.2.2 3 1 q.2.1 ((List.range q.1).map fun d=>((swN s (m.nx j d):Nat):Int)).length (((List.range q.1).map fun d=>((swN s (m.nx j d):Nat):Int)).map int)) (fun q=>m.base - q.1) (0,nilS,H4) ⟨Nat.zero_le _,hz4,BuiltC.nil⟩ ⟨rfl,rfl,rfl,rfl,rfl,rfl,rfl,rfl,trivial⟩ (Hp.Le.refl _) ?_
  rintro ⟨d,w,H5⟩ φ6 ⟨hd,hz5,hw⟩
  dsimp only at hd hz5 hw ⊢
  have g5:=gH.trans hz5.gr
  have k5:=hcx H5 h.next 26 g5 (hz5.gr.at_ _ _ aX)
  have e0:cellAt H5 h.next 0 = some (int (m.base:Int)):=k5.c0
  have e2:=k5.c2
  have hws:=hw.slice
  obtain ⟨aw,ew,-⟩:=hws
  subst ew
  conv=>whnf
  repeat (refine SeqP.go ?_; conv=>whnf)
  refine ⟨_,e0,?_⟩
  conv=>whnf
  refine cmpB (fun q2=>?_) (fun q2=>?_)
  rotate_left
  ·have:d = m.base:=by omega
   subst this
   conv=>whnf
   repeat (refine SeqP.go ?_; conv=>whnf)
   refine ⟨(_,H5),⟨rfl,rfl,rfl,rfl,rfl,rfl,rfl,trivial⟩,⟨rfl,hz5,?_⟩,rfl⟩
   have e:(swRow m s i).map (fun n:Nat=>(n:Int)) = (List.range m.base).map fun d=>((swN s (m.nx j d):Nat):Int):=by
    unfold swRow
    rw [List.map_map,ej]; rfl
   rw [e]
   exact hw
  have hd':d < m.base:=by omega
  have hnx:=k5.nextAt hm.ok (s:=j) (d:=d) hsi hd'
  obtain ⟨r1,o1,sp1,r2,o2,sp2,c2',ea,hsp1,hc1,hsp2,hc2⟩:=hnx
  subst ea
  conv=>whnf
  repeat (refine SeqP.go ?_; conv=>whnf)
  refine ⟨_,e2,?_⟩
  conv=>whnf
  refine ⟨hsp1,⟨by omega,by omega⟩,?_⟩
  conv=>whnf
  refine ⟨_,hc1,?_⟩
  conv=>whnf
  refine ⟨hsp2,⟨by omega,by omega⟩,?_⟩
  conv=>whnf
  refine ⟨_,hc2,?_⟩
  conv=>whnf
  refine CallP.mono (swapped_spec (m.nx j d) s H5) ?_
  rintro _ H5b ⟨rfl,eH⟩
  have eH:=eH.symm
  subst eH
  conv=>whnf
  refine hz5.r_app (i:=0) rfl hw (by rw [List.length_map,List.length_range]; omega) ?_
  intro w' H6 hw' hb6 hz6 kv6
  obtain ⟨a6,n6,rfl⟩:=hw'
  conv=>whnf
  repeat (refine SeqP.go ?_; conv=>whnf)
  refine ⟨((d + 1:Nat):Int),wie (by omega) (by omega),?_⟩
  conv=>whnf
  refine Rnd.mk (d + 1,_,H6) ⟨by show d + 1≤m.base; omega,hz6,?_⟩ (by show m.base - (d + 1) < m.base - d; omega) ⟨rfl,rfl,rfl,rfl,rfl,rfl,rfl,rfl,trivial⟩ (Hp.Le.refl _) rfl
  rw [List.range_succ,List.map_append]
  exact hb6
 rintro ⟨w,H5⟩ φ6 _ ⟨rfl,hz5,hw⟩
 dsimp only at hz5 hw ⊢
 have g5:=gH.trans hz5.gr
 have k5:=hcx H5 h.next 26 g5 (hz5.gr.at_ _ _ aX)
 have e1:cellAt H5 h.next 1 = some (.slice ao m.out.length co):=k5.c1
 have ho:=k5.outM hsi
 obtain ⟨r1,o1,sp1,ea,hsp1,hc1⟩:=ho
 subst ea
 have z1:cellAt H5 Z 1 = some ov:=cellAt_row hz5.z rfl
 have z2:cellAt H5 Z 2 = some nv:=cellAt_row hz5.z rfl
 have hws:=hw.slice
 obtain ⟨aw,ew,-⟩:=hws
 subst ew
 have hov:=hz5.out_ok
 obtain ⟨ax,eov⟩:=hov
 subst eov
 have hnv:=hz5.next_ok
 obtain ⟨ay,env⟩:=hnv
 subst env
 conv=>whnf
 repeat (refine SeqP.go ?_; conv=>whnf)
 refine ⟨_,z1,?_⟩
 conv=>whnf
 refine ⟨_,z2,?_⟩
 conv=>whnf
 repeat (refine SeqP.go ?_; conv=>whnf)
 refine ⟨_,e1,?_⟩
 conv=>whnf
 refine ⟨hsp1,⟨by omega,by omega⟩,?_⟩
 conv=>whnf
 refine ⟨_,hc1,?_⟩
 conv=>whnf
 refine hz5.o_app (by rw [List.length_map,List.length_range]; omega) ?_
 intro ov7 H7 hov7 hz7 kv7
 obtain ⟨a7,n7,rfl⟩:=hov7
 have hw7:=kv7.builtC (by simp) hw
 conv=>whnf
 refine ⟨rfl,_,storeAt_row hz7.z (by simp) rfl,?_⟩
 have hz8:=hz7.put [int m.base,.slice a7 n7 n7,.slice ay ((List.range i).map fun i=>(swRow m s i).map fun n:Nat=>(n:Int)).length ((List.range i).map fun i=>(swRow m s i).map fun n:Nat=>(n:Int)).length]
 have hw8:=hz8.2.builtC (by simp) hw7
 conv=>whnf
 repeat (refine SeqP.go ?_; conv=>whnf)
 refine hz8.1.n_app (i:=0) (by rw [List.length_map,List.length_range]; omega) rfl hw8.b ?_
 intro nv9 H9 hnv9 hz9 kv9
 obtain ⟨a9,n9,rfl⟩:=hnv9
 conv=>whnf
 refine ⟨rfl,_,storeAt_row hz9.z (by simp) rfl,?_⟩
 have hz10:=(hz9.put [int m.base,.slice a7 n7 n7,.slice a9 n9 n9]).1
 conv=>whnf
 repeat (refine SeqP.go ?_; conv=>whnf)
 refine ⟨((i + 1:Nat):Int),wie (by omega) (by omega),?_⟩
 conv=>whnf
 have eO:((List.range i).map fun i=>m.o (swN s i)) ++ [m.o j] = (List.range (i + 1)).map fun i=>m.o (swN s i):=by
  rw [List.range_succ,List.map_append,← ej]; rfl
 have eN:((List.range i).map fun i=>(swRow m s i).map fun n:Nat=>(n:Int)) ++ [(swRow m s i).map fun n:Nat=>(n:Int)] = (List.range (i + 1)).map fun i=>(swRow m s i).map fun n:Nat=>(n:Int):=by
  rw [List.range_succ,List.map_append]; rfl
 have hz11:=hz10
 rw [eO,eN] at hz11
 exact Rnd.mk (i + 1,_,_,_,_) ⟨by show i + 1≤m.out.length; omega,hz11⟩ (by show m.out.length - (i + 1) < m.out.length - i; omega) ⟨rfl,rfl,rfl,rfl,rfl,trivial⟩ (Hp.Le.refl _) rfl
end
end Go.Proofs.Ytedneplaibmppaa
namespace Go.Proofs.Ytedneplaibmppaa
open Go.Rx Go.RowKit
abbrev gb (l:List Bool) (i:Nat):Bool:=l.getD i false
theorem gb_set (l:List Bool) (i j:Nat) (h:gb l j = true):gb (l.set i true) j = true:=by
 unfold gb at *
 rw [List.getD_eq_getElem?_getD] at *
 by_cases e:i = j
 ·subst e
  by_cases hi:i < l.length
  ·rw [List.getElem?_set_self hi]; rfl
  ·rw [List.getElem?_eq_none (by omega)] at h; cases h
 ·rw [List.getElem?_set_ne e]; exact h
theorem gb_self (l:List Bool) (i:Nat) (h:i < l.length):gb (l.set i true) i = true:=by
 unfold gb
 rw [List.getD_eq_getElem?_getD,List.getElem?_set_self h]; rfl
structure Rk (F:Mac) (k:Nat) (ms:List Bool):Prop where
 len:ms.length = F.out.length
 all:∀ w,Mac.Wd F.base w→w.length≤k→gb ms (F.run 0 w) = true
def Nk (F:Mac) (k u:Nat):Prop:=∃ w,Mac.Wd F.base w∧w.length≤k∧F.run 0 w = u
theorem Rk.set {F:Mac} {k:Nat} {ms:List Bool} (h:Rk F k ms) (i:Nat):Rk F k (ms.set i true):=⟨by rw [List.length_set]; exact h.len,fun w hw hk=>gb_set _ _ _ (h.all w hw hk)⟩
theorem Rk.start {F:Mac} (hn:1≤F.out.length):Rk F 0 ((List.replicate F.out.length false).set 0 true):=⟨by simp,fun w hw hk=>by
 have:w = []:=List.eq_nil_of_length_eq_zero (by omega)
 subst this
 exact gb_self _ 0 (by simp; omega)⟩
theorem Rk.step {F:Mac} (hm:F.Ok) {k:Nat} {ms:List Bool} (h:Rk F k ms) (hall:∀ u,u < F.out.length→Nk F k u→∀ d,d < F.base→gb ms (F.nx u d) = true):Rk F (k + 1) ms:=⟨h.len,fun w hw hk=>by
 rcases List.eq_nil_or_concat w with rfl | ⟨v,d,rfl⟩
 ·exact h.all [] hw (Nat.zero_le _)
 ·have hv:Mac.Wd F.base v:=fun x hx=>hw x (by simp [hx])
  rw [List.concat_eq_append,List.length_append,List.length_singleton] at hk
  rw [List.concat_eq_append,run_snoc]
  exact hall _ (hm.run hm.n1 hv) ⟨v,hv,by omega,rfl⟩ d (hw d (by simp))⟩
theorem Rk.full {m:Mac} (hm:m.Ok) {ms:List Bool} (h:Rk m.form m.form.out.length ms) {t:Nat} (ht:t < m.form.out.length):gb ms t = true:=by
 obtain ⟨w,hw,e⟩:=Mac.form_reach hm ht
 obtain ⟨w',h1,h2,h3⟩:=Mac.short (Mac.form_ok hm) _ w (Nat.le_refl _) hw
 rw [← e,← h3]
 exact h.all w' h1 (by omega)
theorem times_bool (z:Bool):∀ n:Nat,times [Value.bool z] n = (List.replicate n z).map Value.bool
 | 0=>rfl
 | n + 1=>by
  have:=times_bool z n
  rw [List.replicate_succ,List.map_cons,← this]
  rfl
theorem form_apart {m:Mac} (hm:m.Ok) {i j:Nat} (hi:i < m.form.out.length) (hj:j < m.form.out.length) (h:Mac.Alike (m.form.swapM i) (m.form.swapM j) 0 0):i = j:=by
 have hf:=Mac.form_ok hm
 have h1:=swapM_alike hf hi
 have h2:=swapM_alike hf hj
 refine Mac.form_unlike hm hi hj ?_
 exact Mac.Alike.trans (m':=m.form.swapM i) (t:=0) rfl (Mac.Alike.symm rfl h1) (Mac.Alike.trans (m':=m.form.swapM j) (t:=0) rfl h h2)
theorem gb_at {l:List Bool} {i:Nat} (h:i < l.length):gb l i = l[i]:=by
 unfold gb; rw [List.getD_eq_getElem?_getD,List.getElem?_eq_getElem h]; rfl
structure SM (h:Hp) (r:Nat) (ms:List Bool) (H:Hp):Prop where
 at_:H.at r = some (.row 4 true (ms.map .bool))
 gr:Grows h H
 hr:h.next≤r
theorem SM.put {h:Hp} {r:Nat} {ms:List Bool} {H:Hp} (k:SM h r ms H) (ms':List Bool):SM h r ms' (H.set r (.row 4 true (ms'.map .bool))):=⟨Hp.at_set_self _ (Hp.lt_of_at k.at_),k.gr.then_set _ k.hr,k.hr⟩
theorem SM.load {h:Hp} {r:Nat} {ms:List Bool} {H:Hp} (k:SM h r ms H) {i:Nat} (hi:i < ms.length):cellAt H r (offAt 0 i 1) = some (.bool (gb ms i)):=by
 rw [offAt_eq]
 refine cellAt_row k.at_ ?_
 rw [List.getElem?_map,gb_at hi]
 simp [hi]
theorem SM.store {h:Hp} {r:Nat} {ms:List Bool} {H:Hp} (k:SM h r ms H) {i:Nat} (hi:i < ms.length) (b:Bool):storeAt H r (offAt 0 i 1) [.bool b] = some (H.set r (.row 4 true ((ms.set i b).map .bool))):=by
 have:=storeAt_row k.at_ (o:=i) (v:=.bool b) (by rw [List.length_map]; exact hi) rfl
 rw [show (ms.map Value.bool).set i (.bool b) = (ms.set i b).map .bool from by rw [List.map_set]] at this
 rw [offAt_eq]
 simpa using this
end Go.Proofs.Ytedneplaibmppaa
namespace Go.Proofs.Ytedneplaibmppaa
open Go.Rx Go.RowKit
attribute [local irreducible] E idxN cellAt cellsAt storeAt callable helems hmoved lookIn findKey keyOk hentries Hp.at Hp.set Hp.lay arBits hupdated setAt CallP YieldP BoolOf IsWrap Rnd LoopP AppP CutP Int.tmod Int.tdiv Int.fdiv
section
variable [Unknowns]
attribute [local irreducible] ResP sameAt
theorem kernels_law (ts0:List Tr) (hy0:TyT Try.prog 25 ts0) (a1:Int) (w1:Rx.InR a1):∀ h vs,AllT h vs [.ag ts0,.num a1]→CallP E 13 vs h (fun r _=>r = .bool true):=by
 intro h vs hvs
 match vs,hvs with
 | [v0,v1],hvs =>
 obtain ⟨k0,k1,-⟩:=hvs
 obtain ⟨M,hMb,hML,hM⟩:=mac_arg hy0
 have hM:=hM h v0 k0
 cases k1
 obtain ⟨bx,rfl,hbx⟩:=hM.box
 refine enter13 (by simp) ?_
 conv=>whnf
 refine SeqP.cut (α:=Hp) (fun _=>[(2,ptr h.next 0),(1,int a1)]) (fun s H=>s = H∧H.at h.next = some (.row 25 true bx)∧Grows h H) ?_ ?_
 ·conv=>whnf
  exact ⟨_,⟨rfl,rfl,trivial⟩,⟨rfl,Hp.at_lay_self _ _,Grows.lay _ _⟩,rfl⟩
 rintro H0 φ0 _ ⟨rfl,aX,g0⟩
 conv=>whnf
 refine SeqP.cut (α:=Nat×List Value×Mac×Hp) (fun s=>[(5,ptr s.1 0)]) (fun s H=>s.2.2.2 = H∧OkS s.2.2.1∧H.at s.1 = some (.row 25 true s.2.1)∧Bx H s.2.1 s.2.2.1.i∧Grows H0 H) ?_ ?_
 ·conv=>whnf
  have gl1:Grows H0 (H0.lay (.row 25 true [int 0,nilS,nilS])):=Grows.lay _ _
  have aL:(H0.lay (.row 25 true [int 0,nilS,nilS])).at H0.next = some (.row 25 true [int 0,nilS,nilS]):=Hp.at_lay_self _ _
  have cX:=all_cells (gl1.at_ _ _ aX) hbx.len
  refine ⟨_,cX,?_⟩
  conv=>whnf
  refine CallP.mono (base_spec a1 _) ?_
  rintro r _ ⟨⟨B,rfl,hB1,hB2⟩,rfl⟩
  conv=>whnf
  refine CallP.mono (tame_spec _ M B 12 _ (Bx.mv (hbx.ext (g0.trans gl1))) hML ⟨hB1,hB2⟩ (by omega)) ?_
  rintro r H1 ⟨⟨m,hm,hmb,hml,hw⟩,g1⟩
  have hk:=hw.known
  obtain ⟨p,q,rfl⟩:=hk
  conv=>whnf
  refine CallP.mono (given_spec _ m.i _ hw.mv (lens_of hm)) ?_
  rintro r H2 ⟨hw2,g2⟩
  rw [hm.cut] at hw2
  have hk:=hw2.known
  obtain ⟨p,q,rfl⟩:=hk
  have aL1:=g1.at_ _ _ aL
  have aL2:=g2.at_ _ _ aL1
  have hlt:=Hp.lt_of_at aL2
  have hlt1:=Hp.lt_of_at aL1
  have cX1:=g1.cells cX
  have cX2:=g2.cells cX1
  conv=>whnf
  refine ⟨rfl,_,storeAt_full (vs:=[int m.i.base,.slice p m.i.out.length m.i.out.length,.slice q m.i.next.length m.i.next.length]) aL2 rfl rfl rfl,?_⟩
  have hw3:=hw2.put hlt1 (.row 25 true [int m.i.base,.slice p m.i.out.length m.i.out.length,.slice q m.i.next.length m.i.next.length])
  have aX2:∀ o,(H2.set H0.next o).at h.next = some (.row 25 true bx):=fun o=>by
   have:=Hp.lt_of_at aX
   rw [Hp.at_set_ne _ (by omega)]
   exact g2.at_ _ _ (g1.at_ _ _ (gl1.at_ _ _ aX))
  have cX3:=fun o=>all_cells (aX2 o) hbx.len
  conv=>whnf
  refine ⟨?_,?_⟩
  ·repeat' (first | exact True.intro | (refine And.intro ?_ ?_ <;> (conv=>whnf)))
   all_goals first
    | exact sameAt_val (h2:=_) rfl (sameV_int _)
    | exact sameAt_val (h2:=_) rfl (sameV_ptr _ _)
    | exact sameAt_val (h2:=_) (congrArg (fun x=>hval _ (aggOf x)) cX) hbx.same
    | exact sameAt_val (h2:=_) (congrArg (fun x=>hval _ (aggOf x)) cX1) hbx.same
    | exact sameAt_val (h2:=_) (congrArg (fun x=>hval _ (aggOf x)) cX2) hbx.same
    | exact sameAt_val (h2:=_) (congrArg (fun x=>hval _ (aggOf x)) (cX3 _)) hbx.same
    | exact ⟨_,rfl,aL,rfl⟩
    | exact ⟨_,rfl,aL1,rfl⟩
    | exact ⟨_,rfl,aL2,rfl⟩
    | exact ⟨_,rfl,Hp.at_set_self _ hlt,rfl⟩
    | trace_state
  exact ⟨(H0.next,_,m,_),⟨rfl,trivial⟩,⟨rfl,hm,Hp.at_set_self _ hlt,hw3.mv.bx,((gl1.trans g1).trans g2).then_set _ (Nat.le_refl _)⟩,rfl⟩
 rintro ⟨N5,b5,m,H1⟩ φ1 _ ⟨rfl,hm,a5,hb5,g1⟩
 dsimp only at hm a5 hb5 g1 ⊢
 clear aX hbx g0 g1
 have hlen:=Mac.form_len hm.ok
 have hFs:OkS m.form:=Mac.form_s hm.ok hm.zer hm.b2 hm.b5 hm.outs (by have:=hm.n12; omega)
 have hFF:=Mac.form_form hm.ok
 have hFa:=Mac.form_alike hm.ok
 have hFap:=fun i j=>form_apart hm.ok (i:=i) (j:=j)
 have hFfull:=fun ms t=>Rk.full hm.ok (ms:=ms) (t:=t)
 have hbase:m.base = m.form.base:=rfl
 conv=>whnf
 refine SeqP.cut (α:=Nat×List Value×Hp) (fun s=>[(6,ptr s.1 0),(7,int 0),(5,ptr N5 0)]) (fun s H=>s.2.2 = H∧H.at s.1 = some (.row 25 true s.2.1)∧Bx H s.2.1 m.form.i∧Grows H1 H) ?_ ?_
 ·conv=>whnf
  refine ⟨_,all_cells a5 hb5.len,?_⟩
  conv=>whnf
  refine CallP.mono (Form_spec _ m _ (Bx.mv hb5) hm) ?_
  rintro r H2 ⟨⟨u,rfl,hu⟩,g2⟩
  have hk:=hu.known
  obtain ⟨p,q,rfl⟩:=hk
  conv=>whnf
  refine ⟨rfl,_,storeAt_all (vs:=[int m.form.i.base,.slice p m.form.i.out.length m.form.i.out.length,.slice q m.form.i.next.length m.form.i.next.length]) rfl rfl rfl,?_⟩
  conv=>whnf
  exact ⟨(H2.next,_,_),⟨rfl,rfl,rfl,trivial⟩,⟨rfl,Hp.at_lay_self _ _,(hu.mv.ext (Grows.lay _ _)).bx,g2.then_lay _⟩,rfl⟩
 have hexF:∃ F,m.form = F:=⟨_,rfl⟩
 obtain ⟨F,eF⟩:=hexF
 rw [eF] at hFs hFF hFa hFap hFfull hlen hbase
 rw [eF]
 rintro ⟨N6,b6,H2⟩ φ2 _ ⟨rfl,a6,hb6,g2⟩
 dsimp only at a6 hb6 g2 ⊢
 have a5:=g2.at_ _ _ a5
 have hb5:=hb5.ext g2
 clear g2
 conv=>whnf
 refine SeqP.cut (α:=Nat×List Value×Hp) (fun s=>[(8,ptr s.1 0),(9,int 0),(6,ptr N6 0),(7,int 0),(5,ptr N5 0)]) (fun s H=>s.2.2 = H∧H.at s.1 = some (.row 25 true s.2.1)∧Bx H s.2.1 F.i∧Grows H2 H) ?_ ?_
 ·conv=>whnf
  refine ⟨_,all_cells a6 hb6.len,?_⟩
  conv=>whnf
  refine CallP.mono (Form_spec _ F _ (Bx.mv hb6) hFs) ?_
  rintro r H3 ⟨⟨u,rfl,hu⟩,g3⟩
  rw [hFF] at hu
  have hk:=hu.known
  obtain ⟨p,q,rfl⟩:=hk
  conv=>whnf
  refine ⟨rfl,_,storeAt_all (vs:=[int F.i.base,.slice p F.i.out.length F.i.out.length,.slice q F.i.next.length F.i.next.length]) rfl rfl rfl,?_⟩
  conv=>whnf
  exact ⟨(H3.next,_,_),⟨rfl,rfl,rfl,rfl,rfl,trivial⟩,⟨rfl,Hp.at_lay_self _ _,(hu.mv.ext (Grows.lay _ _)).bx,g3.then_lay _⟩,rfl⟩
 rintro ⟨N8,b8,H3⟩ φ3 _ ⟨rfl,a8,hb8,g3⟩
 dsimp only at a8 hb8 g3 ⊢
 have a5:=g3.at_ _ _ a5
 have hb5:=hb5.ext g3
 have a6:=g3.at_ _ _ a6
 have hb6:=hb6.ext g3
 clear g3
 conv=>whnf
 refine SeqP.cut (α:=Hp) (fun s=>[(10,int F.out.length),(11,int 0),(8,ptr N8 0),(9,int 0),(6,ptr N6 0),(7,int 0),(5,ptr N5 0)]) (fun s H=>s = H∧Grows H3 H) ?_ ?_
 ·conv=>whnf
  refine ⟨_,all_cells a6 hb6.len,?_⟩
  conv=>whnf
  refine CallP.mono (Kernel_spec _ F _ (Bx.mv hb6) hFs) ?_
  rintro r H4 ⟨hr,g4⟩
  rw [hFF] at hr
  subst hr
  conv=>whnf
  exact ⟨_,⟨rfl,rfl,rfl,rfl,rfl,rfl,rfl,trivial⟩,⟨rfl,g4⟩,rfl⟩
 rintro H4 φ4 _ ⟨rfl,g4⟩
 have a5:=g4.at_ _ _ a5
 have hb5:=hb5.ext g4
 have a6:=g4.at_ _ _ a6
 have hb6:=hb6.ext g4
 have a8:=g4.at_ _ _ a8
 have hb8:=hb8.ext g4
 clear g4
 conv=>whnf
 refine SeqP.cut (α:=Int×Hp) (fun s=>[(12,int s.1),(13,.bool true),(14,int 0),(10,int F.out.length),(11,int 0),(8,ptr N8 0),(9,int 0),(6,ptr N6 0),(7,int 0)]) (fun s H=>s.2 = H∧Grows H4 H) ?_ ?_
 ·conv=>whnf
  refine ⟨_,all_cells a5 hb5.len,?_⟩
  conv=>whnf
  refine ⟨_,all_cells a6 hb6.len,?_⟩
  conv=>whnf
  refine CallP.mono (Same_ok _ _ m F _ (Bx.mv hb5) (Bx.mv hb6) hm hFs hbase) ?_
  rintro r H5 ⟨⟨n,d,rfl,hd⟩,g5⟩
  cases d with
  | true =>
   exfalso
   obtain ⟨n',d',e,-,h2⟩:=hd
   injection e with e
   injection e with e
   injection e with e1 e2
   injection e2 with e2 _
   injection e2 with e2
   obtain ⟨w,hw,_,hne,_⟩:=h2 e2.symm
   exact hne (hFa w (by rw [← hbase]; exact hw)).symm
  | false =>
   conv=>whnf
   exact ⟨(n,H5),⟨rfl,rfl,rfl,rfl,rfl,rfl,rfl,rfl,rfl,trivial⟩,⟨rfl,g5⟩,rfl⟩
 rintro ⟨z12,H5⟩ φ5 _ ⟨rfl,g5⟩
 dsimp only at g5 ⊢
 have a6:=g5.at_ _ _ a6
 have hb6:=hb6.ext g5
 have a8:=g5.at_ _ _ a8
 have hb8:=hb8.ext g5
 clear g5 a5 hb5
 conv=>whnf
 refine SeqP.cut (α:=Nat×List Value×Hp) (fun s=>[(15,ptr s.1 0),(13,.bool true),(14,int 0),(10,int F.out.length),(11,int 0),(8,ptr N8 0),(9,int 0),(7,int 0)]) (fun s H=>s.2.2 = H∧H.at s.1 = some (.row 26 true s.2.1)∧Bx H s.2.1 F.i∧Grows H5 H) ?_ ?_
 ·conv=>whnf
  refine ⟨_,all_cells a6 hb6.len,?_⟩
  conv=>whnf
  refine CallP.mono (own_spec _ F.i _ (Bx.mv hb6) (lens_of hFs)) ?_
  rintro r H6 ⟨hw,g6⟩
  rw [hFs.cut] at hw
  have hk:=hw.known
  obtain ⟨p,q,rfl⟩:=hk
  conv=>whnf
  refine ⟨rfl,_,storeAt_all (vs:=[int F.i.base,.slice p F.i.out.length F.i.out.length,.slice q F.i.next.length F.i.next.length]) rfl rfl rfl,?_⟩
  conv=>whnf
  exact ⟨(H6.next,_,_),⟨rfl,rfl,rfl,rfl,rfl,rfl,rfl,rfl,trivial⟩,⟨rfl,Hp.at_lay_self _ _,(hw.mv.ext (Grows.lay _ _)).bx,g6.then_lay _⟩,rfl⟩
 rintro ⟨N15,b15,H6⟩ φ6 _ ⟨rfl,a15,hb15,g6⟩
 dsimp only at a15 hb15 g6 ⊢
 have a8:=g6.at_ _ _ a8
 have hb8:=hb8.ext g6
 clear g6 a6 hb6
 obtain ⟨ao,an,co,cn,hcx⟩:=hb15.cx
 conv=>whnf
 refine SeqP.cut (α:=Hp) (fun s=>[(15,ptr N15 0),(10,int F.out.length)]) (fun s H=>s = H∧Grows H6 H) ?_ ?_
 ·have c15:=all_cells a15 hb15.len
  have c8:=all_cells a8 hb8.len
  conv=>whnf
  repeat (refine SeqP.go ?_; conv=>whnf)
  refine cmpF (fun q=>q rfl) ?_
  conv=>whnf
  refine cmpF (fun q=>q rfl) ?_
  conv=>whnf
  refine cmpF (fun q=>q rfl) ?_
  conv=>whnf
  refine cmpF (fun q=>q rfl) ?_
  conv=>whnf
  refine ⟨_,c15,?_⟩
  conv=>whnf
  refine CallP.mono (RCheck_spec _ F.i _ (Bx.mv hb15) (lens_of hFs).o (lens_of hFs).n) ?_
  rintro _ G1 ⟨⟨x,rfl,hx⟩,g1⟩
  cases x with
  | false=>exact absurd hFs.ck hx.f
  | true =>
   have c15a:=g1.cells c15
   have c8a:=g1.cells c8
   conv=>whnf
   refine ⟨_,c15a,?_⟩
   conv=>whnf
   refine ⟨_,c8a,?_⟩
   conv=>whnf
   refine CallP.mono (own_spec _ F.i _ (Bx.mv (hb8.ext g1)) (lens_of hFs)) ?_
   rintro r G2 ⟨hw,g2⟩
   rw [hFs.cut] at hw
   have hk:=hw.known
   obtain ⟨p,q,rfl⟩:=hk
   have c15b:=g2.cells c15a
   have c8b:=g2.cells c8a
   conv=>whnf
   refine CallP.mono (REqual_spec _ _ F.i F.i _ (Bx.mv (hb15.ext (g1.trans g2))) hw.mv hFs.ok.ilen hFs.lens.1 hFs.lens.2.2) ?_
   rintro _ G3 ⟨⟨x,rfl,hx2⟩,g3⟩
   cases x with
   | false=>exact absurd rfl hx2.f
   | true =>
    have g13:=(g1.trans g2).trans g3
    have c15c:=g3.cells c15b
    have c8c:=g3.cells c8b
    have d1:cellAt G3 N15 1 = some (.slice ao F.out.length co):=(hcx G3 N15 26 g13 (g13.at_ _ _ a15)).c1
    conv=>whnf
    refine ⟨_,d1,?_⟩
    conv=>whnf
    refine cmpF (fun q=>q rfl) ?_
    conv=>whnf
    refine ⟨?_,?_⟩
    ·repeat' (first | exact True.intro | (refine And.intro ?_ ?_ <;> (conv=>whnf)))
     all_goals first
      | exact sameAt_val (h2:=_) rfl (sameV_int _)
      | exact sameAt_val (h2:=_) rfl (sameV_ptr _ _)
      | exact sameAt_val (h2:=_) (congrArg (fun x=>hval _ (aggOf x)) c15) hb15.same
      | exact sameAt_val (h2:=_) (congrArg (fun x=>hval _ (aggOf x)) c15a) hb15.same
      | exact sameAt_val (h2:=_) (congrArg (fun x=>hval _ (aggOf x)) c15b) hb15.same
      | exact sameAt_val (h2:=_) (congrArg (fun x=>hval _ (aggOf x)) c15c) hb15.same
      | exact sameAt_val (h2:=_) (congrArg (fun x=>hval _ (aggOf x)) c8a) hb8.same
      | exact sameAt_val (h2:=_) (congrArg (fun x=>hval _ (aggOf x)) c8b) hb8.same
      | exact sameAt_val (h2:=_) (congrArg (fun x=>hval _ (aggOf x)) c8c) hb8.same
      | trace_state
    exact ⟨G3,⟨rfl,rfl,trivial⟩,⟨rfl,g13⟩,rfl⟩
 rintro K0 φ7 _ ⟨rfl,g⟩
 have a15:=g.at_ _ _ a15
 have hb15:=hb15.ext g
 have hcx:=fun H r t (q:Grows K0 H)=>hcx H r t (g.trans q)
 clear a8 hb8 g
 have hn12:=hFs.n12
 have hexn:∃ n,F.out.length = n:=⟨_,rfl⟩
 obtain ⟨n,en⟩:=hexn
 have hsz:∀ i,i < n→OkS (F.swapM i):=fun i hi=>swapM_s hFs (by omega)
 rw [en] at hn12 ⊢
 rw [en] at hFap hFfull
 conv=>whnf
 refine SeqP.cut (α:=Hp) (fun s=>[(15,ptr N15 0),(10,int n)]) (fun s H=>s = H∧Grows K0 H) ?_ ?_
 ·conv=>whnf
  repeat (refine SeqP.go ?_; conv=>whnf)
  refine loop_inv (α:=Nat×Hp) (fun q=>[(16,int q.1),(15,ptr N15 0),(10,int n)]) (fun q=>q.2) (fun q=>q.1≤n∧Grows K0 q.2) (fun q=>n - q.1) (0,K0) ⟨Nat.zero_le _,.refl _⟩ ⟨rfl,rfl,rfl,trivial⟩ (Hp.Le.refl _) ?_
  rintro ⟨i,G0⟩ φ8 ⟨hi,gG0⟩
  dsimp only at hi gG0 ⊢
  conv=>whnf
  repeat (refine SeqP.go ?_; conv=>whnf)
  refine cmpB (fun hlt=>?_) (fun hlt=>?_)
  rotate_left
  ·conv=>whnf
   repeat (refine SeqP.go ?_; conv=>whnf)
   exact ⟨G0,⟨rfl,rfl,trivial⟩,⟨rfl,gG0⟩,rfl⟩
  have hi':i < n:=by omega
  conv=>whnf
  repeat (refine SeqP.go ?_; conv=>whnf)
  refine loop_inv (α:=Nat×Hp) (fun q=>[(17,int q.1),(16,int i),(15,ptr N15 0),(10,int n)]) (fun q=>q.2) (fun q=>q.1≤i∧Grows K0 q.2) (fun q=>i - q.1) (0,G0) ⟨Nat.zero_le _,gG0⟩ ⟨rfl,rfl,rfl,rfl,trivial⟩ (Hp.Le.refl _) ?_
  rintro ⟨j,G⟩ φ9 ⟨hj,gG⟩
  dsimp only at hj gG ⊢
  conv=>whnf
  repeat (refine SeqP.go ?_; conv=>whnf)
  refine cmpB (fun hlt2=>?_) (fun hlt2=>?_)
  rotate_left
  ·conv=>whnf
   repeat (refine SeqP.go ?_; conv=>whnf)
   refine ⟨((i + 1:Nat):Int),wie (by omega) (by omega),?_⟩
   conv=>whnf
   exact Rnd.mk (i + 1,G) ⟨by show i + 1≤n; omega,gG⟩ (by show n - (i + 1) < n - i; omega) ⟨rfl,rfl,rfl,trivial⟩ (Hp.Le.refl _) rfl
  have hj':j < i:=by omega
  have aG:=gG.at_ _ _ a15
  have hbG:=hb15.ext gG
  conv=>whnf
  refine SeqP.go ?_
  conv=>whnf
  refine SeqP.cut (α:=List Value×List Value×Hp) (fun q=>[(18,ptr G.next 0),(19,ptr (G.next + 1) 0),(17,int j),(16,int i),(15,ptr N15 0),(10,int n)]) (fun q H=>q.2.2 = H∧H.at G.next = some (.row 26 true q.1)∧Bx H q.1 (F.swapM i).i∧H.at (G.next + 1) = some (.row 26 true q.2.1)∧Bx H q.2.1 (F.swapM j).i∧Grows G H) ?_ ?_
  ·conv=>whnf
   have gl1:Grows G (G.lay (.row 26 true [int 0,nilS,nilS])):=Grows.lay _ _
   have gl2:Grows G ((G.lay (.row 26 true [int 0,nilS,nilS])).lay (.row 26 true [int 0,nilS,nilS])):=gl1.then_lay _
   have nP:(G.lay (.row 26 true [int 0,nilS,nilS])).next = G.next + 1:=Hp.next_lay _ _
   have aP:((G.lay (.row 26 true [int 0,nilS,nilS])).lay (.row 26 true [int 0,nilS,nilS])).at G.next = some (.row 26 true [int 0,nilS,nilS]):=Hp.at_lay_old _ (Hp.at_lay_self _ _)
   have aQ:((G.lay (.row 26 true [int 0,nilS,nilS])).lay (.row 26 true [int 0,nilS,nilS])).at (G.next + 1) = some (.row 26 true [int 0,nilS,nilS]):=at_nx2 nP (Hp.at_lay_self _ _)
   have c15:=all_cells (gl2.at_ _ _ aG) hbG.len
   refine ⟨_,c15,?_⟩
   conv=>whnf
   refine CallP.mono (begun_spec _ F i _ (Bx.mv (hbG.ext gl2)) hFs (by omega)) ?_
   rintro r K1 ⟨w1,g1⟩
   have hk:=w1.known
   obtain ⟨p1,r1,rfl⟩:=hk
   have c15a:=g1.cells c15
   have aP1:=g1.at_ _ _ aP
   have aQ1:=g1.at_ _ _ aQ
   conv=>whnf
   refine ⟨_,c15a,?_⟩
   conv=>whnf
   refine CallP.mono (begun_spec _ F j _ (Bx.mv (hbG.ext (gl2.trans g1))) hFs (by omega)) ?_
   rintro r K2 ⟨w2,g2⟩
   have hk:=w2.known
   obtain ⟨p2,r2,rfl⟩:=hk
   have c15b:=g2.cells c15a
   have aP2:=g2.at_ _ _ aP1
   have aQ2:=g2.at_ _ _ aQ1
   have ltP:=Hp.lt_of_at aP2
   have ltQ:=Hp.lt_of_at aQ2
   have ltP0:=Hp.lt_of_at aP
   have ltQ0:=Hp.lt_of_at aQ
   have ltP1:=Hp.lt_of_at aP1
   have ltQ1:=Hp.lt_of_at aQ1
   have ltN:=Hp.lt_of_at aG
   conv=>whnf
   refine ⟨rfl,_,storeAt_full (vs:=[int (F.swapM i).i.base,.slice p1 (F.swapM i).i.out.length (F.swapM i).i.out.length,.slice r1 (F.swapM i).i.next.length (F.swapM i).i.next.length]) aP2 rfl rfl rfl,?_⟩
   have aP3:(K2.set G.next (.row 26 true [int (F.swapM i).i.base,.slice p1 (F.swapM i).i.out.length (F.swapM i).i.out.length,.slice r1 (F.swapM i).i.next.length (F.swapM i).i.next.length])).at G.next = some (.row 26 true [int (F.swapM i).i.base,.slice p1 (F.swapM i).i.out.length (F.swapM i).i.out.length,.slice r1 (F.swapM i).i.next.length (F.swapM i).i.next.length]):=Hp.at_set_self _ ltP
   have aQ3:(K2.set G.next (.row 26 true [int (F.swapM i).i.base,.slice p1 (F.swapM i).i.out.length (F.swapM i).i.out.length,.slice r1 (F.swapM i).i.next.length (F.swapM i).i.next.length])).at (G.next + 1) = some (.row 26 true [int 0,nilS,nilS]):=by
    rw [Hp.at_set_ne _ (by omega)]; exact aQ2
   have aG3:(K2.set G.next (.row 26 true [int (F.swapM i).i.base,.slice p1 (F.swapM i).i.out.length (F.swapM i).i.out.length,.slice r1 (F.swapM i).i.next.length (F.swapM i).i.next.length])).at N15 = some (.row 26 true b15):=by
    rw [Hp.at_set_ne _ (by omega)]; exact g2.at_ _ _ (g1.at_ _ _ (gl2.at_ _ _ aG))
   have ltQ3:=Hp.lt_of_at aQ3
   have w1':=(w1.ext g2).put ltP0 (.row 26 true [int (F.swapM i).i.base,.slice p1 (F.swapM i).i.out.length (F.swapM i).i.out.length,.slice r1 (F.swapM i).i.next.length (F.swapM i).i.next.length])
   have w2':=w2.put ltP1 (.row 26 true [int (F.swapM i).i.base,.slice p1 (F.swapM i).i.out.length (F.swapM i).i.out.length,.slice r1 (F.swapM i).i.next.length (F.swapM i).i.next.length])
   conv=>whnf
   refine ⟨rfl,_,storeAt_full (vs:=[int (F.swapM j).i.base,.slice p2 (F.swapM j).i.out.length (F.swapM j).i.out.length,.slice r2 (F.swapM j).i.next.length (F.swapM j).i.next.length]) aQ3 rfl rfl rfl,?_⟩
   have aQ4:((K2.set G.next (.row 26 true [int (F.swapM i).i.base,.slice p1 (F.swapM i).i.out.length (F.swapM i).i.out.length,.slice r1 (F.swapM i).i.next.length (F.swapM i).i.next.length])).set (G.next + 1) (.row 26 true [int (F.swapM j).i.base,.slice p2 (F.swapM j).i.out.length (F.swapM j).i.out.length,.slice r2 (F.swapM j).i.next.length (F.swapM j).i.next.length])).at (G.next + 1) = some (.row 26 true [int (F.swapM j).i.base,.slice p2 (F.swapM j).i.out.length (F.swapM j).i.out.length,.slice r2 (F.swapM j).i.next.length (F.swapM j).i.next.length]):=Hp.at_set_self _ ltQ3
   have aP4:((K2.set G.next (.row 26 true [int (F.swapM i).i.base,.slice p1 (F.swapM i).i.out.length (F.swapM i).i.out.length,.slice r1 (F.swapM i).i.next.length (F.swapM i).i.next.length])).set (G.next + 1) (.row 26 true [int (F.swapM j).i.base,.slice p2 (F.swapM j).i.out.length (F.swapM j).i.out.length,.slice r2 (F.swapM j).i.next.length (F.swapM j).i.next.length])).at G.next = some (.row 26 true [int (F.swapM i).i.base,.slice p1 (F.swapM i).i.out.length (F.swapM i).i.out.length,.slice r1 (F.swapM i).i.next.length (F.swapM i).i.next.length]):=by
    rw [Hp.at_set_ne _ (by omega)]; exact aP3
   have aG4:((K2.set G.next (.row 26 true [int (F.swapM i).i.base,.slice p1 (F.swapM i).i.out.length (F.swapM i).i.out.length,.slice r1 (F.swapM i).i.next.length (F.swapM i).i.next.length])).set (G.next + 1) (.row 26 true [int (F.swapM j).i.base,.slice p2 (F.swapM j).i.out.length (F.swapM j).i.out.length,.slice r2 (F.swapM j).i.next.length (F.swapM j).i.next.length])).at N15 = some (.row 26 true b15):=by
    rw [Hp.at_set_ne _ (by omega)]; exact aG3
   have c15c:=all_cells aG3 hbG.len
   have c15d:=all_cells aG4 hbG.len
   have w1'':=w1'.put ltQ0 (.row 26 true [int (F.swapM j).i.base,.slice p2 (F.swapM j).i.out.length (F.swapM j).i.out.length,.slice r2 (F.swapM j).i.next.length (F.swapM j).i.next.length])
   have w2'':=w2'.put ltQ1 (.row 26 true [int (F.swapM j).i.base,.slice p2 (F.swapM j).i.out.length (F.swapM j).i.out.length,.slice r2 (F.swapM j).i.next.length (F.swapM j).i.next.length])
   conv=>whnf
   refine ⟨?_,?_⟩
   ·repeat' (first | exact True.intro | (refine And.intro ?_ ?_ <;> (conv=>whnf)))
    all_goals first
     | exact sameAt_val (h2:=_) rfl (sameV_int _)
     | exact sameAt_val (h2:=_) rfl (sameV_ptr _ _)
     | exact sameAt_val (h2:=_) (congrArg (fun x=>hval _ (aggOf x)) c15) hbG.same
     | exact sameAt_val (h2:=_) (congrArg (fun x=>hval _ (aggOf x)) c15a) hbG.same
     | exact sameAt_val (h2:=_) (congrArg (fun x=>hval _ (aggOf x)) c15b) hbG.same
     | exact sameAt_val (h2:=_) (congrArg (fun x=>hval _ (aggOf x)) c15c) hbG.same
     | exact sameAt_val (h2:=_) (congrArg (fun x=>hval _ (aggOf x)) c15d) hbG.same
     | exact ⟨_,rfl,aP,rfl⟩
     | exact ⟨_,rfl,aP1,rfl⟩
     | exact ⟨_,rfl,aP2,rfl⟩
     | exact ⟨_,rfl,aP3,rfl⟩
     | exact ⟨_,rfl,aP4,rfl⟩
     | exact ⟨_,rfl,aQ,rfl⟩
     | exact ⟨_,rfl,aQ1,rfl⟩
     | exact ⟨_,rfl,aQ2,rfl⟩
     | exact ⟨_,rfl,aQ3,rfl⟩
     | exact ⟨_,rfl,aQ4,rfl⟩
     | trace_state
   exact ⟨(_,_,_),⟨rfl,rfl,rfl,rfl,rfl,rfl,trivial⟩,⟨rfl,aP4,w1''.mv.bx,aQ4,w2''.mv.bx,(((gl2.trans g1).trans g2).then_set _ (Nat.le_refl _)).then_set _ (by omega)⟩,rfl⟩
  rintro ⟨bP,bQ,G1⟩ φ10 _ ⟨rfl,aP,hbP,aQ,hbQ,gG1⟩
  dsimp only at aP hbP aQ hbQ gG1 ⊢
  have gKG:=gG.trans gG1
  have sP:=hsz i hi'
  have sQ:=hsz j (by omega)
  conv=>whnf
  refine SeqP.cut (α:=Int×Hp) (fun q=>[(21,.bool false),(22,int 0),(17,int j),(16,int i),(15,ptr N15 0),(10,int n)]) (fun q H=>q.2 = H∧Grows G1 H) ?_ ?_
  ·have cP:=all_cells aP hbP.len
   have cQ:=all_cells aQ hbQ.len
   conv=>whnf
   refine ⟨_,cP,?_⟩
   conv=>whnf
   refine CallP.mono (given_spec _ (F.swapM i).i _ (Bx.mv hbP) (lens_of sP)) ?_
   rintro r K1 ⟨w1,g1⟩
   rw [sP.cut] at w1
   have hk:=w1.known
   obtain ⟨p1,r1,rfl⟩:=hk
   have cPa:=g1.cells cP
   have cQa:=g1.cells cQ
   conv=>whnf
   refine ⟨_,cQa,?_⟩
   conv=>whnf
   refine CallP.mono (given_spec _ (F.swapM j).i _ (Bx.mv (hbQ.ext g1)) (lens_of sQ)) ?_
   rintro r K2 ⟨w2,g2⟩
   rw [sQ.cut] at w2
   have hk:=w2.known
   obtain ⟨p2,r2,rfl⟩:=hk
   have cPb:=g2.cells cPa
   have cQb:=g2.cells cQa
   conv=>whnf
   refine CallP.mono (Same_ok _ _ (F.swapM i) (F.swapM j) _ (w1.mv.ext g2) w2.mv sP sQ rfl) ?_
   rintro r K3 ⟨⟨z,d,rfl,hd⟩,g3⟩
   have cPc:=g3.cells cPb
   have cQc:=g3.cells cQb
   cases d with
   | false =>
    exfalso
    obtain ⟨n',d',e,h1,-⟩:=hd
    injection e with e
    injection e with e
    injection e with e1 e2
    injection e2 with e2 _
    injection e2 with e2
    have:=hFap i j hi' (by omega) (h1 e2.symm).2
    omega
   | true =>
    conv=>whnf
    refine ⟨?_,?_⟩
    ·repeat' (first | exact True.intro | (refine And.intro ?_ ?_ <;> (conv=>whnf)))
     all_goals first
      | exact sameAt_val (h2:=_) (congrArg (fun x=>hval _ (aggOf x)) cP) hbP.same
      | exact sameAt_val (h2:=_) (congrArg (fun x=>hval _ (aggOf x)) cPa) hbP.same
      | exact sameAt_val (h2:=_) (congrArg (fun x=>hval _ (aggOf x)) cPb) hbP.same
      | exact sameAt_val (h2:=_) (congrArg (fun x=>hval _ (aggOf x)) cPc) hbP.same
      | exact sameAt_val (h2:=_) (congrArg (fun x=>hval _ (aggOf x)) cQ) hbQ.same
      | exact sameAt_val (h2:=_) (congrArg (fun x=>hval _ (aggOf x)) cQa) hbQ.same
      | exact sameAt_val (h2:=_) (congrArg (fun x=>hval _ (aggOf x)) cQb) hbQ.same
      | exact sameAt_val (h2:=_) (congrArg (fun x=>hval _ (aggOf x)) cQc) hbQ.same
      | trace_state
    exact ⟨(z,K3),⟨rfl,rfl,rfl,rfl,rfl,rfl,trivial⟩,⟨rfl,(g1.trans g2).trans g3⟩,rfl⟩
  rintro ⟨z20,G2⟩ φ11 _ ⟨rfl,gG2⟩
  dsimp only at gG2 ⊢
  conv=>whnf
  repeat (refine SeqP.go ?_; conv=>whnf)
  refine cmpF (fun q=>q rfl) ?_
  conv=>whnf
  repeat (refine SeqP.go ?_; conv=>whnf)
  refine ⟨((j + 1:Nat):Int),wie (by omega) (by omega),?_⟩
  conv=>whnf
  exact Rnd.mk (j + 1,G2) ⟨by show j + 1≤i; omega,gKG.trans gG2⟩ (by show i - (j + 1) < i - j; omega) ⟨rfl,rfl,rfl,rfl,trivial⟩ (Hp.Le.refl _) rfl
 rintro K1 φ8 _ ⟨rfl,g⟩
 have a15:=g.at_ _ _ a15
 have hcx:=fun H r t (q:Grows K1 H)=>hcx H r t (g.trans q)
 clear g hb15
 have hb5F:=hFs.b5
 have kc:∀ H,Grows K1 H→Cx H N15 F.i ao an co cn:=fun H q=>hcx H N15 26 q (q.at_ _ _ a15)
 conv=>whnf
 refine SeqP.cut (α:=Hp) (fun s=>[(23,slc K1.next 0 n n),(15,ptr N15 0),(10,int n)]) (fun s H=>s = H∧SM K1 K1.next (List.replicate n false) H) ?_ ?_
 ·conv=>whnf
  refine ⟨⟨by omega,by omega,by omega,by omega⟩,?_⟩
  conv=>whnf
  refine ⟨_,⟨rfl,rfl,rfl,trivial⟩,⟨rfl,?_,Grows.lay _ _,Nat.le_refl _⟩,rfl⟩
  rw [← times_bool]
  exact Hp.at_lay_self _ _
 rintro H0b φ9 _ ⟨rfl,sm0⟩
 have hexr:∃ r,K1.next = r:=⟨_,rfl⟩
 obtain ⟨r,er⟩:=hexr
 rw [er] at sm0 ⊢
 have hn1:=hFs.ok.n1
 conv=>whnf
 refine SeqP.cut (α:=Hp) (fun s=>[(23,slc r 0 n n),(15,ptr N15 0),(10,int n)]) (fun s H=>s = H∧SM K1 r ((List.replicate n false).set 0 true) H) ?_ ?_
 ·conv=>whnf
  refine ⟨rfl,⟨by omega,by omega⟩,?_⟩
  conv=>whnf
  refine ⟨rfl,_,sm0.store (i:=0) (by rw [List.length_replicate]; omega) true,?_⟩
  conv=>whnf
  exact ⟨_,⟨rfl,rfl,rfl,trivial⟩,⟨rfl,sm0.put _⟩,rfl⟩
 rintro H1b φ10 _ ⟨rfl,sm1⟩
 have rk0:Rk F 0 ((List.replicate n false).set 0 true):=by rw [← en]; exact Rk.start hn1
 conv=>whnf
 refine SeqP.cut (α:=List Bool×Hp) (fun s=>[(23,slc r 0 n n),(10,int n)]) (fun s H=>s.2 = H∧SM K1 r s.1 H∧Rk F n s.1) ?_ ?_
 ·conv=>whnf
  repeat (refine SeqP.go ?_; conv=>whnf)
  refine loop_inv (α:=Nat×List Bool×Hp) (fun q=>[(24,int q.1),(23,slc r 0 n n),(15,ptr N15 0),(10,int n)]) (fun q=>q.2.2) (fun q=>q.1≤n∧SM K1 r q.2.1 q.2.2∧Rk F q.1 q.2.1) (fun q=>n - q.1) (0,_,H1b) ⟨Nat.zero_le _,sm1,rk0⟩ ⟨rfl,rfl,rfl,rfl,trivial⟩ (Hp.Le.refl _) ?_
  rintro ⟨k,ms,G⟩ φ11 ⟨hk,sm,rk⟩
  dsimp only at hk sm rk ⊢
  conv=>whnf
  repeat (refine SeqP.go ?_; conv=>whnf)
  refine cmpB (fun hlt=>?_) (fun hlt=>?_)
  rotate_left
  ·have:k = n:=by omega
   subst this
   conv=>whnf
   repeat (refine SeqP.go ?_; conv=>whnf)
   exact ⟨(ms,G),⟨rfl,rfl,trivial⟩,⟨rfl,sm,rk⟩,rfl⟩
  conv=>whnf
  repeat (refine SeqP.go ?_; conv=>whnf)
  refine loop_inv (α:=Nat×List Bool×Hp) (fun q=>[(25,int q.1),(24,int k),(23,slc r 0 n n),(15,ptr N15 0),(10,int n)]) (fun q=>q.2.2) (fun q=>q.1≤n∧SM K1 r q.2.1 q.2.2∧Rk F k q.2.1∧∀ u,u < q.1→Nk F k u→∀ d,d < F.base→gb q.2.1 (F.nx u d) = true) (fun q=>n - q.1) (0,ms,G) ⟨Nat.zero_le _,sm,rk,fun u hu=>absurd hu (Nat.not_lt_zero _)⟩ ⟨rfl,rfl,rfl,rfl,rfl,trivial⟩ (Hp.Le.refl _) ?_
  rintro ⟨t,ms,G⟩ φ12 ⟨ht,sm,rk,mid⟩
  dsimp only at ht sm rk mid ⊢
  conv=>whnf
  repeat (refine SeqP.go ?_; conv=>whnf)
  refine cmpB (fun hlt2=>?_) (fun hlt2=>?_)
  rotate_left
  ·have:t = n:=by omega
   subst this
   conv=>whnf
   repeat (refine SeqP.go ?_; conv=>whnf)
   refine ⟨((k + 1:Nat):Int),wie (by omega) (by omega),?_⟩
   conv=>whnf
   exact Rnd.mk (k + 1,ms,G) ⟨by show k + 1≤_; omega,sm,rk.step hFs.ok fun u hu=>mid u (by omega)⟩ (by show t - (k + 1) < t - k; omega) ⟨rfl,rfl,rfl,rfl,trivial⟩ (Hp.Le.refl _) rfl
  have ht':t < n:=by omega
  conv=>whnf
  repeat (refine SeqP.go ?_; conv=>whnf)
  refine loop_inv (α:=Nat×List Bool×Hp) (fun q=>[(26,int q.1),(25,int t),(24,int k),(23,slc r 0 n n),(15,ptr N15 0),(10,int n)]) (fun q=>q.2.2) (fun q=>q.1≤F.base∧SM K1 r q.2.1 q.2.2∧Rk F k q.2.1∧(∀ u,u < t→Nk F k u→∀ d,d < F.base→gb q.2.1 (F.nx u d) = true)∧∀ d,d < q.1→gb q.2.1 (F.nx t d) = true) (fun q=>F.base - q.1) (0,ms,G) ⟨Nat.zero_le _,sm,rk,mid,fun u hu=>absurd hu (Nat.not_lt_zero _)⟩ ⟨rfl,rfl,rfl,rfl,rfl,rfl,trivial⟩ (Hp.Le.refl _) ?_
  rintro ⟨d,ms,G⟩ φ13 ⟨hd,sm,rk,mid,inn⟩
  dsimp only at hd sm rk mid inn ⊢
  have hml:=rk.len
  have kG:=kc G sm.gr
  have e0:cellAt G N15 0 = some (int (F.base:Int)):=kG.c0
  have e2:=kG.c2
  have done:(d = F.base∨gb ms t = false)→∀ u,u < t + 1→Nk F k u→∀ d',d' < F.base→gb ms (F.nx u d') = true:=fun hc u hu hN d' hd'=>by
   by_cases e:u = t
   ·subst e
    rcases hc with rfl | hc
    ·exact inn d' hd'
    ·obtain ⟨w,hw1,hw2,hw3⟩:=hN
     have:=rk.all w hw1 hw2
     rw [hw3,hc] at this
     cases this
   ·exact mid u (by omega) hN d' hd'
  conv=>whnf
  repeat (refine SeqP.go ?_; conv=>whnf)
  refine ⟨_,e0,?_⟩
  conv=>whnf
  refine cmpB (fun hlt3=>?_) (fun hlt3=>?_)
  rotate_left
  ·conv=>whnf
   repeat (refine SeqP.go ?_; conv=>whnf)
   refine ⟨((t + 1:Nat):Int),wie (by omega) (by omega),?_⟩
   conv=>whnf
   exact Rnd.mk (t + 1,ms,G) ⟨by show t + 1≤n; omega,sm,rk,done (.inl (by omega))⟩ (by show n - (t + 1) < n - t; omega) ⟨rfl,rfl,rfl,rfl,rfl,trivial⟩ (Hp.Le.refl _) rfl
  have hd':d < F.base:=by omega
  have cm:=sm.load (i:=t) (by omega)
  have hnx:=kG.nextAt hFs.ok (s:=t) (d:=d) (by omega) hd'
  obtain ⟨r1,o1,sp1,r2,o2,sp2,c2',ea,hsp1,hc1,hsp2,hc2⟩:=hnx
  subst ea
  have hnl:=hFs.ok.lt t d (by omega) hd'
  have hil:=hFs.ok.ilen
  conv=>whnf
  refine ⟨rfl,⟨by omega,by omega⟩,?_⟩
  conv=>whnf
  refine ⟨_,cm,?_⟩
  cases hgb:gb ms t with
  | false =>
   conv=>whnf
   repeat (refine SeqP.go ?_; conv=>whnf)
   refine ⟨((t + 1:Nat):Int),wie (by omega) (by omega),?_⟩
   conv=>whnf
   exact Rnd.mk (t + 1,ms,G) ⟨by show t + 1≤n; omega,sm,rk,done (.inr hgb)⟩ (by show n - (t + 1) < n - t; omega) ⟨rfl,rfl,rfl,rfl,rfl,trivial⟩ (Hp.Le.refl _) rfl
  | true =>
   conv=>whnf
   repeat (refine SeqP.go ?_; conv=>whnf)
   refine ⟨_,e2,?_⟩
   conv=>whnf
   refine ⟨hsp1,⟨by omega,by omega⟩,?_⟩
   conv=>whnf
   refine ⟨_,hc1,?_⟩
   conv=>whnf
   refine ⟨hsp2,⟨by omega,by omega⟩,?_⟩
   conv=>whnf
   refine ⟨_,hc2,?_⟩
   conv=>whnf
   refine ⟨rfl,⟨by omega,by omega⟩,?_⟩
   conv=>whnf
   refine ⟨rfl,_,sm.store (i:=F.nx t d) (by omega) true,?_⟩
   conv=>whnf
   repeat (refine SeqP.go ?_; conv=>whnf)
   refine ⟨((d + 1:Nat):Int),wie (by omega) (by omega),?_⟩
   conv=>whnf
   exact Rnd.mk (d + 1,ms.set (F.nx t d) true,_) ⟨by show d + 1≤F.base; omega,sm.put _,rk.set _,fun u hu hN d' hd'=>gb_set _ _ _ (mid u hu hN d' hd'),fun d' hd2=>by
    by_cases e:d' = d
    ·subst e; exact gb_self _ _ (by omega)
    ·exact gb_set _ _ _ (inn d' (by have:d' < d + 1:=hd2; omega))⟩ (by show F.base - (d + 1) < F.base - d; omega) ⟨rfl,rfl,rfl,rfl,rfl,rfl,trivial⟩ (Hp.Le.refl _) rfl
 rintro ⟨ms,G⟩ φ11 _ ⟨rfl,sm,rk⟩
 dsimp only at sm rk ⊢
 have hml:=rk.len
 have hall:∀ t,t < n→gb ms t = true:=fun t ht=>hFfull ms t rk ht
 conv=>whnf
 refine SeqP.cut (α:=Unit) (fun _=>[]) (fun _ H=>True) ?_ ?_
 rotate_left
 ·rintro _ φ12 H _
  conv=>whnf
  repeat (refine SeqP.go ?_; conv=>whnf)
  refine CallP.mono (awake_spec _) ?_
  rintro r H5 ⟨rfl,-⟩
  conv=>whnf
  repeat (refine SeqP.go ?_; conv=>whnf)
  rfl
 conv=>whnf
 repeat (refine SeqP.go ?_; conv=>whnf)
 refine loop_inv (α:=Nat) (fun q=>[(27,int q),(23,slc r 0 n n),(10,int n)]) (fun _=>G) (fun q=>q≤n) (fun q=>n - q) 0 (Nat.zero_le _) ⟨rfl,rfl,rfl,trivial⟩ (Hp.Le.refl _) ?_
 rintro t φ12 ht
 conv=>whnf
 repeat (refine SeqP.go ?_; conv=>whnf)
 refine cmpB (fun hlt=>?_) (fun hlt=>?_)
 rotate_left
 ·conv=>whnf
  repeat (refine SeqP.go ?_; conv=>whnf)
  exact ⟨(),trivial,trivial,rfl⟩
 have cm:=sm.load (i:=t) (by omega)
 rw [hall t (by omega)] at cm
 conv=>whnf
 repeat (refine SeqP.go ?_; conv=>whnf)
 refine ⟨rfl,⟨by omega,by omega⟩,?_⟩
 conv=>whnf
 refine ⟨_,cm,?_⟩
 conv=>whnf
 repeat (refine SeqP.go ?_; conv=>whnf)
 refine ⟨((t + 1:Nat):Int),wie (by omega) (by omega),?_⟩
 conv=>whnf
 exact Rnd.mk (t + 1) (by show t + 1≤n; omega) (by show n - (t + 1) < n - t; omega) ⟨rfl,rfl,rfl,trivial⟩ (Hp.Le.refl _) rfl
end
end Go.Proofs.Ytedneplaibmppaa
