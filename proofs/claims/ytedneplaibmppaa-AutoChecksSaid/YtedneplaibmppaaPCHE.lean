/- Contracts of the functions that PCHE comes to. -/
import Derived.Test.YtedneplaibmppaaPCHD
import Derived.Test.YtedneplaibmppaaAAwake
import Derived.Test.YtedneplaibmppaaWx19
import Derived.Test.YtedneplaibmppaaWx22
import Derived.Test.YtedneplaibmppaaWx23
set_option maxRecDepth 100000
set_option maxHeartbeats 2000000
set_option linter.unusedVariables false
set_option linter.unusedSectionVars false
set_option linter.unusedSimpArgs false
namespace Go.Proofs.Ytedneplaibmppaa
open Go.Rx Go.RowKit
theorem mac_eq {A B:MacI} (hb:A.base = B.base) (ho:A.out.length = B.out.length) (hn:A.next.length = B.next.length) (hno:A.next.length = A.out.length) (h:∀ k,k < A.out.length→gl A.out k = gl B.out k∧rw_ A.next k = rw_ B.next k):A = B:=by
 obtain ⟨b1,o1,n1⟩:=A
 obtain ⟨b2,o2,n2⟩:=B
 dsimp only at *
 have e1:o1 = o2:=list_gl ho fun j hj=>(h j hj).1
 have e2:n1 = n2:=List.ext_getElem hn fun i h1 h2=>by
  have:=(h i (by omega)).2
  rwa [rw_at h1,rw_at h2] at this
 rw [hb,e1,e2]
attribute [local irreducible] E idxN cellAt cellsAt storeAt callable helems hmoved lookIn findKey keyOk hentries Hp.at Hp.set Hp.lay arBits hupdated setAt CallP YieldP BoolOf IsWrap Rnd LoopP AppP CutP Int.tmod Int.tdiv Int.fdiv
section
variable [Unknowns]
attribute [local irreducible] sameAt
theorem ints_spec (va vb:Value) (a b:List Int) (h:Hp) (ha:View h va a) (hb:View h vb b) (hla:a.length≤1000000):CallP E 61 [va,vb] h (fun r h'=>(∃ x,r = .bool x∧BoolOf x (a = b))∧h' = h):=by
 obtain ⟨aa,ca,rfl⟩:=ha.known
 obtain ⟨ab,cb,rfl⟩:=hb.known
 refine enter61 (by simp) ?_
 conv=>whnf
 repeat (refine SeqP.go ?_; conv=>whnf)
 refine cmpB (fun hne=>?_) (fun heq=>?_)
 ·conv=>whnf
  repeat (refine SeqP.go ?_; conv=>whnf)
  exact ⟨⟨false,rfl,bo_no fun e=>hne (by rw [e])⟩,rfl⟩
 have hlen:a.length = b.length:=by omega
 conv=>whnf
 repeat (refine SeqP.go ?_; conv=>whnf)
 refine loop_inv (α:=Nat) (fun i=>[(5,int i),(0,.slice aa a.length ca),(1,.slice ab b.length cb)]) (fun _=>h) (fun i=>i≤a.length∧∀ j,j < i→gl a j = gl b j) (fun i=>a.length - i) 0 ⟨Nat.zero_le _,fun j hj=>absurd hj (Nat.not_lt_zero _)⟩ ⟨rfl,rfl,rfl,trivial⟩ (Hp.Le.refl _) ?_
 rintro i φ1 ⟨hi,hsame⟩
 conv=>whnf
 repeat (refine SeqP.go ?_; conv=>whnf)
 refine cmpB (fun hlt=>?_) (fun hlt=>?_)
 rotate_left
 ·conv=>whnf
  repeat (refine SeqP.go ?_; conv=>whnf)
  have:i = a.length:=by omega
  subst this
  exact ⟨⟨true,rfl,bo_yes (list_gl hlen hsame)⟩,rfl⟩
 have hi':i < a.length:=by omega
 have hca:=View.cellg ha hi'
 have hcb:=View.cellg hb (i:=i) (by omega)
 obtain ⟨r1,o1,sp1,ea,hsp1,-,hc1⟩:=hca
 obtain ⟨r2,o2,sp2,eb,hsp2,-,hc2⟩:=hcb
 subst ea
 subst eb
 conv=>whnf
 repeat (refine SeqP.go ?_; conv=>whnf)
 refine ⟨hsp1,⟨by omega,by omega⟩,?_⟩
 conv=>whnf
 refine ⟨_,hc1,?_⟩
 conv=>whnf
 refine ⟨hsp2,⟨by omega,by omega⟩,?_⟩
 conv=>whnf
 refine ⟨_,hc2,?_⟩
 conv=>whnf
 refine cmpB (fun hne=>?_) (fun he=>?_)
 ·conv=>whnf
  repeat (refine SeqP.go ?_; conv=>whnf)
  exact ⟨⟨false,rfl,bo_no fun e=>hne (by rw [e])⟩,rfl⟩
 conv=>whnf
 repeat (refine SeqP.go ?_; conv=>whnf)
 refine ⟨_,wid (by omega),?_⟩
 conv=>whnf
 exact Rnd.mk (i + 1) ⟨by omega,fun j hj=>by
  by_cases e:j = i
  ·subst e; omega
  ·exact hsame j (by omega)⟩ (by show a.length - (i + 1) < a.length - i; omega) ⟨rfl,rfl,rfl,trivial⟩ (Hp.Le.refl _) rfl
theorem REqual_spec (va vb:Value) (A B:MacI) (h:Hp) (ha:MV h va A) (hb:MV h vb B) (hn:A.next.length = A.out.length) (hl:A.out.length≤1000000) (hr:∀ s,(rw_ A.next s).length≤1000000):CallP E 41 [va,vb] h (fun r h'=>(∃ x,r = .bool x∧BoolOf x (A = B))∧Grows h h'):=by
 obtain ⟨bxa,rfl,hxa⟩:=ha.box
 obtain ⟨bxb,rfl,hxb⟩:=hb.box
 obtain ⟨aoa,ana,coa,cna,hcxa⟩:=hxa.cx
 obtain ⟨aob,anb,cob,cnb,hcxb⟩:=hxb.cx
 refine enter41 (by simp) ?_
 conv=>whnf
 refine SeqP.cut (α:=Hp) (fun _=>[(4,.bool false),(3,ptr (h.next + 1) 0),(2,ptr h.next 0)]) (fun x H=>x = H∧Grows h H∧H.at h.next = some (.row 26 true bxa)∧H.at (h.next + 1) = some (.row 26 true bxb)) ?_ ?_
 ·conv=>whnf
  have n1:(h.lay (.row 26 true bxa)).next = h.next + 1:=Hp.next_lay _ _
  exact ⟨_,⟨rfl,congrArg (fun k=>ptr k 0) n1,rfl,trivial⟩,⟨rfl,(Grows.lay _ _).then_lay _,Hp.at_lay_old _ (Hp.at_lay_self _ _),at_nx2 n1 (Hp.at_lay_self _ _)⟩,rfl⟩
 rintro H φ1 _ ⟨rfl,gH,aX,aY⟩
 have kx:=hcxa H h.next 26 gH aX
 have ky:=hcxb H (h.next + 1) 26 gH aY
 have x0:=kx.c0
 have x1:=kx.c1
 have x2:=kx.c2
 have y0:=ky.c0
 have y1:=ky.c1
 have y2:=ky.c2
 have no:¬ A = B→∀ v:Value,v = .bool false→(∃ x,v = .bool x∧BoolOf x (A = B))∧Grows h H:=fun k v e=>⟨⟨false,e,bo_no k⟩,gH⟩
 conv=>whnf
 repeat (refine SeqP.go ?_; conv=>whnf)
 refine ⟨_,x0,?_⟩
 conv=>whnf
 refine ⟨_,y0,?_⟩
 conv=>whnf
 refine cmpB (fun hne=>?_) (fun heq=>?_)
 ·conv=>whnf
  repeat (refine SeqP.go ?_; conv=>whnf)
  exact no (fun e=>hne (by rw [e])) _ rfl
 conv=>whnf
 refine ⟨_,x1,?_⟩
 conv=>whnf
 refine ⟨_,y1,?_⟩
 conv=>whnf
 refine cmpB (fun hne=>?_) (fun heq1=>?_)
 ·conv=>whnf
  repeat (refine SeqP.go ?_; conv=>whnf)
  exact no (fun e=>hne (by rw [e])) _ rfl
 conv=>whnf
 refine ⟨_,x2,?_⟩
 conv=>whnf
 refine ⟨_,y2,?_⟩
 conv=>whnf
 refine cmpB (fun hne=>?_) (fun heq2=>?_)
 ·conv=>whnf
  repeat (refine SeqP.go ?_; conv=>whnf)
  exact no (fun e=>hne (by rw [e])) _ rfl
 have heq0:A.base = B.base:=by omega
 have hol:A.out.length = B.out.length:=by omega
 have hnl:A.next.length = B.next.length:=by omega
 conv=>whnf
 repeat (refine SeqP.go ?_; conv=>whnf)
 refine loop_inv (α:=Nat) (fun i=>[(5,int i),(4,.bool false),(3,ptr (h.next + 1) 0),(2,ptr h.next 0)]) (fun _=>H) (fun i=>i≤A.out.length∧∀ j,j < i→gl A.out j = gl B.out j∧rw_ A.next j = rw_ B.next j) (fun i=>A.out.length - i) 0 ⟨Nat.zero_le _,fun j hj=>absurd hj (Nat.not_lt_zero _)⟩ ⟨rfl,rfl,rfl,rfl,trivial⟩ (Hp.Le.refl _) ?_
 rintro i φ2 ⟨hi,hsame⟩
 conv=>whnf
 repeat (refine SeqP.go ?_; conv=>whnf)
 refine ⟨_,x1,?_⟩
 conv=>whnf
 refine cmpB (fun hlt=>?_) (fun hlt=>?_)
 rotate_left
 ·conv=>whnf
  repeat (refine SeqP.go ?_; conv=>whnf)
  have:i = A.out.length:=by omega
  subst this
  exact ⟨⟨true,rfl,bo_yes (mac_eq heq0 hol hnl hn hsame)⟩,gH⟩
 have hi':i < A.out.length:=by omega
 have hca:=kx.outAt hi'
 have hcb:=ky.outAt (i:=i) (by omega)
 have hra:=kx.rowAt (i:=i) (by omega)
 have hrb:=ky.rowAt (i:=i) (by omega)
 obtain ⟨r1,o1,sp1,ea,hsp1,hc1⟩:=hca
 obtain ⟨r2,o2,sp2,eb,hsp2,hc2⟩:=hcb
 obtain ⟨r3,o3,sp3,a3,c3,e3,hsp3,hc3,hv3⟩:=hra
 obtain ⟨r4,o4,sp4,a4,c4,e4,hsp4,hc4,hv4⟩:=hrb
 subst ea
 subst eb
 subst e3
 subst e4
 conv=>whnf
 repeat (refine SeqP.go ?_; conv=>whnf)
 refine ⟨_,x1,?_⟩
 conv=>whnf
 refine ⟨hsp1,⟨by omega,by omega⟩,?_⟩
 conv=>whnf
 refine ⟨_,hc1,?_⟩
 conv=>whnf
 refine ⟨_,y1,?_⟩
 conv=>whnf
 refine ⟨hsp2,⟨by omega,by omega⟩,?_⟩
 conv=>whnf
 refine ⟨_,hc2,?_⟩
 conv=>whnf
 refine cmpB (fun hne=>?_) (fun he1=>?_)
 ·conv=>whnf
  repeat (refine SeqP.go ?_; conv=>whnf)
  exact no (fun e=>hne (by rw [e])) _ rfl
 conv=>whnf
 refine ⟨_,x2,?_⟩
 conv=>whnf
 refine ⟨hsp3,⟨by omega,by omega⟩,?_⟩
 conv=>whnf
 refine ⟨_,hc3,?_⟩
 conv=>whnf
 refine ⟨_,y2,?_⟩
 conv=>whnf
 refine ⟨hsp4,⟨by omega,by omega⟩,?_⟩
 conv=>whnf
 refine ⟨_,hc4,?_⟩
 conv=>whnf
 refine cmpB (fun hne=>?_) (fun he2=>?_)
 ·conv=>whnf
  repeat (refine SeqP.go ?_; conv=>whnf)
  exact no (fun e=>hne (by rw [e])) _ rfl
 have hrl:(rw_ A.next i).length = (rw_ B.next i).length:=by omega
 have hrA:=hr i
 conv=>whnf
 repeat (refine SeqP.go ?_; conv=>whnf)
 refine loop_inv (α:=Nat) (fun j=>[(6,int j),(5,int i),(4,.bool false),(3,ptr (h.next + 1) 0),(2,ptr h.next 0)]) (fun _=>H) (fun j=>j≤(rw_ A.next i).length∧∀ k,k < j→gl (rw_ A.next i) k = gl (rw_ B.next i) k) (fun j=>(rw_ A.next i).length - j) 0 ⟨Nat.zero_le _,fun j hj=>absurd hj (Nat.not_lt_zero _)⟩ ⟨rfl,rfl,rfl,rfl,rfl,trivial⟩ (Hp.Le.refl _) ?_
 rintro j φ3 ⟨hj,hsame2⟩
 conv=>whnf
 repeat (refine SeqP.go ?_; conv=>whnf)
 refine ⟨_,x2,?_⟩
 conv=>whnf
 refine ⟨hsp3,⟨by omega,by omega⟩,?_⟩
 conv=>whnf
 refine ⟨_,hc3,?_⟩
 conv=>whnf
 refine cmpB (fun hlt2=>?_) (fun hlt2=>?_)
 rotate_left
 ·conv=>whnf
  repeat (refine SeqP.go ?_; conv=>whnf)
  refine ⟨_,wid (by omega),?_⟩
  conv=>whnf
  have:j = (rw_ A.next i).length:=by omega
  subst this
  exact Rnd.mk (i + 1) ⟨by omega,fun k hk=>by
   by_cases e:k = i
   ·subst e; exact ⟨by omega,list_gl hrl hsame2⟩
   ·exact hsame k (by omega)⟩ (by show A.out.length - (i + 1) < A.out.length - i; omega) ⟨rfl,rfl,rfl,rfl,trivial⟩ (Hp.Le.refl _) rfl
 have hj':j < (rw_ A.next i).length:=by omega
 have hj3:=View.cellg hv3 hj'
 have hj4:=View.cellg hv4 (i:=j) (by omega)
 obtain ⟨r5,o5,sp5,e5,hsp5,-,hc5⟩:=hj3
 obtain ⟨r6,o6,sp6,e6,hsp6,-,hc6⟩:=hj4
 subst e5
 subst e6
 conv=>whnf
 repeat (refine SeqP.go ?_; conv=>whnf)
 refine ⟨_,x2,?_⟩
 conv=>whnf
 refine ⟨hsp3,⟨by omega,by omega⟩,?_⟩
 conv=>whnf
 refine ⟨_,hc3,?_⟩
 conv=>whnf
 refine ⟨hsp5,⟨by omega,by omega⟩,?_⟩
 conv=>whnf
 refine ⟨_,hc5,?_⟩
 conv=>whnf
 refine ⟨_,y2,?_⟩
 conv=>whnf
 refine ⟨hsp4,⟨by omega,by omega⟩,?_⟩
 conv=>whnf
 refine ⟨_,hc4,?_⟩
 conv=>whnf
 refine ⟨hsp6,⟨by omega,by omega⟩,?_⟩
 conv=>whnf
 refine ⟨_,hc6,?_⟩
 conv=>whnf
 refine cmpB (fun hne=>?_) (fun he3=>?_)
 ·conv=>whnf
  repeat (refine SeqP.go ?_; conv=>whnf)
  exact no (fun e=>hne (by rw [e])) _ rfl
 conv=>whnf
 repeat (refine SeqP.go ?_; conv=>whnf)
 refine ⟨_,wid (by omega),?_⟩
 conv=>whnf
 exact Rnd.mk (j + 1) ⟨by omega,fun k hk=>by
  by_cases e:k = j
  ·subst e; omega
  ·exact hsame2 k (by omega)⟩ (by show (rw_ A.next i).length - (j + 1) < (rw_ A.next i).length - j; omega) ⟨rfl,rfl,rfl,rfl,rfl,trivial⟩ (Hp.Le.refl _) rfl
end
end Go.Proofs.Ytedneplaibmppaa
namespace Go.Proofs.Ytedneplaibmppaa
open Go.Rx Go.RowKit
def EverR (m:Mac) (out:Int) (r:Value):Prop:=(¬ (0≤out∧out≤9)→r = .tuple ⟨[int 0,.bool false,int 1]⟩)∧(0≤out∧out≤9→∃ b,r = .tuple ⟨[int (max (gl (m.evK out m.out.length) 0) 0),.bool b,int 0]⟩∧BoolOf b (0≤gl (m.evK out m.out.length) 0))
attribute [local irreducible] E idxN cellAt cellsAt storeAt callable helems hmoved lookIn findKey keyOk hentries Hp.at Hp.set Hp.lay arBits hupdated setAt CallP YieldP BoolOf IsWrap Rnd LoopP AppP CutP Int.tmod Int.tdiv Int.fdiv
section
variable [Unknowns]
attribute [local irreducible] sameAt
theorem Ever_spec (v:Value) (m:Mac) (out:Int) (h:Hp) (hv:MV h v m.i) (hm:OkS m):CallP E 35 [v,int out] h (fun r h'=>EverR m out r∧Grows h h'):=by
 obtain ⟨bx,rfl,hbx⟩:=hv.box
 have hL:=hm.lens
 refine enter35 (by simp) ?_
 conv=>whnf
 refine SeqP.cut (α:=Hp) (fun _=>[(2,ptr h.next 0),(1,int out)]) (fun x H=>x = H∧Grows h H∧H.at h.next = some (.row 25 true bx)) ?_ ?_
 ·conv=>whnf
  exact ⟨_,⟨rfl,rfl,trivial⟩,⟨rfl,Grows.lay _ _,Hp.at_lay_self _ _⟩,rfl⟩
 rintro H φ1 _ ⟨rfl,gH,aX⟩
 conv=>whnf
 repeat (refine SeqP.go ?_; conv=>whnf)
 refine ⟨_,all_cells aX hbx.len,?_⟩
 conv=>whnf
 refine CallP.mono (Check_spec _ m.i _ (Bx.mv (hbx.ext gH)) hL.1 hL.2.1 hL.2.2) ?_
 rintro r H2 ⟨⟨e,rfl,he,-⟩,g2⟩
 have he:=he hm.ck
 subst he
 have aX2:=g2.at_ _ _ aX
 have gh2:=gH.trans g2
 conv=>whnf
 repeat (refine SeqP.go ?_; conv=>whnf)
 refine cmpF (by omega) ?_
 conv=>whnf
 repeat (refine SeqP.go ?_; conv=>whnf)
 refine CallP.mono (isOut_spec out _) ?_
 rintro r _ ⟨⟨b,rfl,hb⟩,rfl⟩
 cases b with
 | false =>
  have hb:=hb.f
  conv=>whnf
  repeat (refine SeqP.go ?_; conv=>whnf)
  exact ⟨⟨fun _=>rfl,fun k=>absurd k hb⟩,gh2⟩
 | true =>
  have hb:=hb.t
  conv=>whnf
  repeat (refine SeqP.go ?_; conv=>whnf)
  refine ⟨_,all_cells aX2 hbx.len,?_⟩
  conv=>whnf
  refine CallP.mono (ever_spec _ m out _ (Bx.mv (hbx.ext gh2)) hm) ?_
  rintro r H3 ⟨⟨b,rfl,hb2⟩,g3⟩
  conv=>whnf
  repeat (refine SeqP.go ?_; conv=>whnf)
  exact ⟨⟨fun k=>absurd hb k,fun _=>⟨b,rfl,hb2⟩⟩,gh2.trans g3⟩
end
end Go.Proofs.Ytedneplaibmppaa
namespace Go.Proofs.Ytedneplaibmppaa
open Go.Rx Go.RowKit
def tm:Mac:=⟨2,[0,1],[[0,1],[1,0]]⟩
def rd:Mac:=⟨2,[0,0,1],[[1,2],[1,1],[2,2]]⟩
theorem tm_s:OkS tm where
 ok:=⟨by decide,by decide,rfl,by decide,fun s d hs hd=>(show ∀ s < 2,∀ d < 2,tm.nx s d < 2 by decide) s hs d hd⟩
 zer:=by unfold Mac.Zer; decide
 ck:=⟨by decide,by decide,by decide,by decide,by decide,rfl,fun s hs=>by
  have:s = 0∨s = 1:=by have:s < 2:=hs; omega
  rcases this with rfl | rfl
  ·exact ⟨by decide,by decide,rfl⟩
  ·exact ⟨by decide,by decide,rfl⟩⟩
theorem rd_s:OkS rd where
 ok:=⟨by decide,by decide,rfl,by decide,fun s d hs hd=>(show ∀ s < 3,∀ d < 2,rd.nx s d < 3 by decide) s hs d hd⟩
 zer:=by unfold Mac.Zer; decide
 ck:=⟨by decide,by decide,by decide,by decide,by decide,rfl,fun s hs=>by
  have:s = 0∨s = 1∨s = 2:=by have:s < 3:=hs; omega
  rcases this with rfl | rfl | rfl
  ·exact ⟨by decide,by decide,rfl⟩
  ·exact ⟨by decide,by decide,rfl⟩
  ·exact ⟨by decide,by decide,rfl⟩⟩
theorem tm_form:tm.form = tm:=by
 unfold Mac.form built
 rw [show tm.cl 0 = 0 from rfl,bfs_eq (L:=[0,1]) (.step (s:=0) rfl (.step (s:=1) rfl (.done (Nat.le_refl 2))))]
 rfl
theorem rd_form:rd.form = rd:=by
 unfold Mac.form built
 rw [show rd.cl 0 = 0 from rfl,bfs_eq (L:=[0,1,2]) (.step (s:=0) rfl (.step (s:=1) rfl (.step (s:=2) rfl (.done (Nat.le_refl 3)))))]
 rfl
theorem tm_every:(tm.every 2 0).form = tm:=by
 have h1:=Mac.every_ok tm_s.ok 2 0
 rw [Mac.form_uniq h1.1 tm_s.ok rfl ?_,tm_form]
 rw [Mac.alike_at h1.1 tm_s.ok (by decide) rfl (Mac.every_zer tm_s.ok tm_s.b2 tm_s.zer 2 0) tm_s.zer h1.1.n1 tm_s.ok.n1]
 intro n
 rw [Mac.every_at tm_s.ok tm_s.b2 tm_s.zer]
 have:=Mac.at_step tm_s.ok tm_s.b2 tm_s.zer (s:=0) (d:=0) (n:=n) (by decide) (by decide)
 rw [Nat.zero_add] at this
 exact this
theorem ring_rd:ringM 2 [0,1] 0 = rd:=by
 unfold ringM built
 rw [show ((((foldN [(0:Int),1].length 0 1:Nat):Int)),(0:Int)) = ((1:Int),(0:Int)) from rfl,bfs_eq (L:=[((1:Int),(0:Int)),(0,0),(0,1)]) (.step (s:=((1:Int),(0:Int))) rfl (.step (s:=((0:Int),(0:Int))) rfl (.step (s:=((0:Int),(1:Int))) rfl (.done (Nat.le_refl 3)))))]
 rfl
theorem tm_seq:seqL tm 8 = [0,1,1,0,1,0,0,1]:=by kernel_rfl
theorem tm_ever:gl (tm.evK 1 tm.out.length) 0 = 1:=by kernel_rfl
theorem rd_sink:∀ w s,(s = 1∨s = 2)→Mac.Wd 2 w→rd.run s w = s
 | [],s,_,_=>rfl
 | d :: w,s,hs,hw=>by
  have hd:d < 2:=hw d (by simp)
  have hw':Mac.Wd 2 w:=fun x hx=>hw x (by simp [hx])
  have e:rd.nx s d = s:=by
   have hd':d = 0∨d = 1:=by omega
   rcases hs with rfl | rfl <;> rcases hd' with rfl | rfl <;> rfl
  show rd.run (rd.nx s d) w = s
  rw [e]
  exact rd_sink w s hs hw'
theorem rd_at (n:Nat):rd.at_ 0 n = ((n % 2:Nat):Int):=by
 by_cases h:n = 0
 ·subst h; rfl
 ·show rd.o (rd.run 0 (dg 2 n)) = _
  rw [dg_pos (Nat.le_refl 2) h]
  show rd.o (rd.run (rd.nx 0 (n % 2)) (dg 2 (n / 2))) = _
  have hm:n % 2 = 0∨n % 2 = 1:=by omega
  rcases hm with e | e
  ·rw [e,show rd.nx 0 0 = 1 from rfl,rd_sink _ _ (.inl rfl) (dg_wd (Nat.le_refl 2) _)]; rfl
  ·rw [e,show rd.nx 0 1 = 2 from rfl,rd_sink _ _ (.inr rfl) (dg_wd (Nat.le_refl 2) _)]; rfl
theorem rd_find {r:Value} (h:FindR rd r):r = .tuple ⟨[int 0,int 2,.bool true,int 0]⟩:=by
 have h2:RoundP rd 60 2:=fun n=>by rw [rd_at,rd_at,show (n + 60) % 2 = (n + 60 + 2) % 2 by omega]
 have h1:¬ RoundP rd 60 1:=fun k=>by
  have:=k 0
  rw [rd_at,rd_at] at this
  revert this
  decide
 rcases h with ⟨p,hp1,hp30,hp,hmin,e⟩ | ⟨hno,_⟩
 ·have:p = 2:=by
   by_cases h3:p = 2
   ·exact h3
   ·by_cases h4:p = 1
    ·subst h4; exact absurd hp h1
    ·exact absurd h2 (hmin 2 (by omega) (by omega))
  subst this
  rw [e,show startF rd 2 60 = 0 from by kernel_rfl]
  rfl
 ·exact absurd h2 (hno 2 (by omega) (by omega))
end Go.Proofs.Ytedneplaibmppaa
namespace Go.Proofs.Ytedneplaibmppaa
open Go.Rx Go.RowKit
theorem lens_of {m:Mac} (h:OkS m):Lens m.i:=by
 have:=h.lens
 exact ⟨by omega,by omega,fun s=>by have:=this.2.2 s; omega⟩
theorem cut_tm:cutI tm.i = tm.i:=rfl
theorem cut_rd:cutI rd.i = rd.i:=rfl
theorem MV.bx {h:Hp} {cs:List Value} {M:MacI} (k:MV h (.agg ⟨cs⟩) M):Bx h cs M:=by
 obtain ⟨bx,e,hb⟩:=k.box
 injection e with e
 injection e with e
 subst e
 exact hb
theorem rd_mv {H:Hp} {r1 r2 r3 r4 r5:Nat} (h1:H.at r1 = some (.row 3 true [int 0,int 0,int 1])) (h2:H.at r2 = some (.row 3 true [int 1,int 2])) (h3:H.at r3 = some (.row 3 true [int 1,int 1])) (h4:H.at r4 = some (.row 3 true [int 2,int 2])) (h5:H.at r5 = some (.row 22 true [slc r2 0 2 2,slc r3 0 2 2,slc r4 0 2 2])):MV H (.agg ⟨[int 2,slc r1 0 3 3,slc r5 0 3 3]⟩) rd.i:=by
 refine OwnM.mv (h0:=⟨0,H.raw⟩) ⟨_,_,[slc r2 0 2 2,slc r3 0 2 2,slc r4 0 2 2],rfl,⟨rfl,.inr ⟨_,rfl,Nat.zero_le _,true,h1⟩⟩,⟨rfl,.inr ⟨_,rfl,Nat.zero_le _,true,h5⟩⟩,rfl,fun k u l e1 e2=>?_⟩
 match k,e1,e2 with
 | 0,e1,e2=>cases e1; cases e2; exact .inr ⟨_,rfl,Nat.zero_le _,true,h2⟩
 | 1,e1,e2=>cases e1; cases e2; exact .inr ⟨_,rfl,Nat.zero_le _,true,h3⟩
 | 2,e1,e2=>cases e1; cases e2; exact .inr ⟨_,rfl,Nat.zero_le _,true,h4⟩
 | k + 3,e1,e2=>simp at e1
attribute [local irreducible] E idxN cellAt cellsAt storeAt callable helems hmoved lookIn findKey keyOk hentries Hp.at Hp.set Hp.lay arBits hupdated setAt CallP YieldP BoolOf IsWrap Rnd LoopP AppP CutP Int.tmod Int.tdiv Int.fdiv
section
variable [Unknowns]
attribute [local irreducible] sameAt
theorem awake_spec (h:Hp):CallP E 21 [] h (fun r h'=>r = .bool true∧Grows h h'):=by
 refine enter21 (by simp) ?_
 conv=>whnf
 refine SeqP.go ?_
 conv=>whnf
 refine SeqP.cut (α:=Nat×List Value×Hp) (fun s=>[(1,ptr s.1 0)]) (fun s H=>s.2.2 = H∧Grows h H∧H.at s.1 = some (.row 25 true s.2.1)∧Bx H s.2.1 tm.i) ?_ ?_
 ·conv=>whnf
  refine CallP.mono (Morse_spec _) ?_
  rintro w H ⟨hw,g⟩
  have hk:=hw.known
  obtain ⟨a,b,rfl⟩:=hk
  conv=>whnf
  refine ⟨rfl,_,storeAt_all (vs:=[int 2,.slice a _ _,.slice b _ _]) rfl rfl rfl,?_⟩
  conv=>whnf
  refine ⟨(H.next,_,_),⟨rfl,trivial⟩,⟨rfl,g.then_lay _,Hp.at_lay_self _ _,?_⟩,rfl⟩
  exact (hw.mv.ext (Grows.lay _ _)).bx
 rintro ⟨N1,bx,H1⟩ φ1 _ ⟨rfl,g1,a1,b1⟩
 dsimp only at g1 a1 b1 ⊢
 conv=>whnf
 refine SeqP.cut (α:=Nat×Option Addr×Hp) (fun s=>[(1,ptr N1 0),(2,.slice s.2.1 8 8),(3,int 0)]) (fun s H=>s.2.2 = H∧Grows H1 H∧View H (.slice s.2.1 8 8) [0,1,1,0,1,0,0,1]) ?_ ?_
 ·conv=>whnf
  refine ⟨_,all_cells a1 b1.len,?_⟩
  conv=>whnf
  refine CallP.mono (First_spec _ tm 8 _ (Bx.mv b1) tm_s) ?_
  rintro r H2 ⟨⟨-,hw0⟩,g2⟩
  have hw0:=hw0 (by omega) (by omega)
  obtain ⟨w,rfl,hw⟩:=hw0
  have e8:seqL tm (8:Int).toNat = [0,1,1,0,1,0,0,1]:=tm_seq
  rw [e8] at hw
  have hws:=hw.c.slice
  obtain ⟨aw,rfl,-⟩:=hws
  conv=>whnf
  exact ⟨(0,aw,_),⟨rfl,rfl,rfl,trivial⟩,⟨rfl,g2,hw.view⟩,rfl⟩
 rintro ⟨x2,aw,H2⟩ φ2 _ ⟨rfl,g2,v2⟩
 dsimp only at g2 v2 ⊢
 conv=>whnf
 refine SeqP.cut (α:=Nat×List Value×Hp) (fun s=>[(1,ptr N1 0),(2,.slice aw 8 8),(3,int 0),(4,ptr s.1 0),(5,int 0)]) (fun s H=>s.2.2 = H∧Grows H2 H∧H.at s.1 = some (.row 25 true s.2.1)∧Bx H s.2.1 rd.i) ?_ ?_
 ·conv=>whnf
  have gl1:Grows H2 (H2.lay (.row 3 true [int 0,int 1])):=Grows.lay _ _
  have vb:View (H2.lay (.row 3 true [int 0,int 1])) (slc H2.next 0 2 2) [0,1]:=row_view (ls:=[0,1]) (Hp.at_lay_self _ _) rfl
  have vn:View (H2.lay (.row 3 true [int 0,int 1])) nilS []:=Built.view (h0:=H2) (e:=3) (.inl ⟨rfl,rfl⟩)
  refine CallP.mono (Round_spec 2 _ _ [] [0,1] _ vn vb (by simp) (by simp)) ?_
  rintro r H3 ⟨⟨-,hr⟩,g3⟩
  have hnb:¬ BadR 2 ([]:List Int) [0,1]:=by unfold BadR; simp
  have hr:=hr hnb
  obtain ⟨u,e,rfl,hu,-⟩:=hr
  have er:ringM (2:Int).toNat ([] ++ [0,1]) ([]:List Int).length = rd:=ring_rd
  rw [er,rd_form] at hu
  have hu2:=hu (by decide)
  obtain ⟨rfl,hu3⟩:=hu2
  have hk:=hu3.known
  obtain ⟨a,b,rfl⟩:=hk
  conv=>whnf
  refine ⟨rfl,_,storeAt_all (vs:=[int 2,.slice a _ _,.slice b _ _]) rfl rfl rfl,?_⟩
  conv=>whnf
  exact ⟨(H3.next,_,_),⟨rfl,rfl,rfl,rfl,rfl,trivial⟩,⟨rfl,(gl1.trans g3).then_lay _,Hp.at_lay_self _ _,(hu3.mv.ext (Grows.lay _ _)).bx⟩,rfl⟩
 rintro ⟨N4,by4,H3⟩ φ3 _ ⟨rfl,g3,a4,b4⟩
 dsimp only at g3 a4 b4 ⊢
 have g13:=g2.trans g3
 have a1:=g13.at_ _ _ a1
 have b1:=b1.ext g13
 have v2:=v2.ext g3
 have g1:=g1.trans g13
 clear g2 g3 g13
 conv=>whnf
 refine SeqP.cut (α:=Nat×List Value×Hp) (fun s=>[(1,ptr N1 0),(2,.slice aw 8 8),(3,int 0),(4,ptr N4 0),(5,int 0),(6,ptr s.1 0),(7,int 0)]) (fun s H=>s.2.2 = H∧Grows H3 H∧H.at s.1 = some (.row 25 true s.2.1)∧Bx H s.2.1 tm.i) ?_ ?_
 ·conv=>whnf
  refine ⟨_,all_cells a1 b1.len,?_⟩
  conv=>whnf
  refine CallP.mono (Every_spec _ tm 2 0 _ (Bx.mv b1) tm_s) ?_
  rintro r H4 ⟨⟨-,hr⟩,g4⟩
  have hnb:¬ BadE 2 0:=by unfold BadE; omega
  have hr:=hr hnb
  obtain ⟨u,e,rfl,hu,-⟩:=hr
  have er:(tm.every (2:Int).toNat (0:Int).toNat).form = tm:=tm_every
  rw [er] at hu
  have hu2:=hu (by decide)
  obtain ⟨rfl,hu3⟩:=hu2
  have hk:=hu3.known
  obtain ⟨a,b,rfl⟩:=hk
  conv=>whnf
  refine ⟨rfl,_,storeAt_all (vs:=[int 2,.slice a _ _,.slice b _ _]) rfl rfl rfl,?_⟩
  conv=>whnf
  exact ⟨(H4.next,_,_),⟨rfl,rfl,rfl,rfl,rfl,rfl,rfl,trivial⟩,⟨rfl,g4.then_lay _,Hp.at_lay_self _ _,(hu3.mv.ext (Grows.lay _ _)).bx⟩,rfl⟩
 rintro ⟨N6,by6,H4⟩ φ4 _ ⟨rfl,g4,a6,b6⟩
 dsimp only at g4 a6 b6 ⊢
 have a1:=g4.at_ _ _ a1
 have b1:=b1.ext g4
 have a4:=g4.at_ _ _ a4
 have b4:=b4.ext g4
 have v2:=v2.ext g4
 have g1:=g1.trans g4
 clear g4
 conv=>whnf
 refine SeqP.cut (α:=Hp) (fun s=>[(1,ptr N1 0),(2,.slice aw 8 8),(3,int 0),(4,ptr N4 0),(5,int 0),(6,ptr N6 0),(7,int 0),(8,int 1),(9,.bool true),(10,int 0)]) (fun s H=>s = H∧Grows H4 H) ?_ ?_
 ·conv=>whnf
  refine ⟨_,all_cells a1 b1.len,?_⟩
  conv=>whnf
  refine CallP.mono (Ever_spec _ tm 1 _ (Bx.mv b1) tm_s) ?_
  rintro r H5 ⟨⟨-,hr⟩,g5⟩
  have hr:=hr (by omega)
  rw [tm_ever] at hr
  obtain ⟨b,rfl,hb⟩:=hr
  cases b with
  | false=>exact absurd (by omega) hb.f
  | true =>
   conv=>whnf
   exact ⟨_,⟨rfl,rfl,rfl,rfl,rfl,rfl,rfl,rfl,rfl,rfl,trivial⟩,⟨rfl,g5⟩,rfl⟩
 rintro H5 φ5 _ ⟨rfl,g5⟩
 have a1:=g5.at_ _ _ a1
 have b1:=b1.ext g5
 have a4:=g5.at_ _ _ a4
 have b4:=b4.ext g5
 have a6:=g5.at_ _ _ a6
 have b6:=b6.ext g5
 have v2:=v2.ext g5
 have g1:=g1.trans g5
 clear g5
 conv=>whnf
 refine SeqP.cut (α:=Hp) (fun s=>[(1,ptr N1 0),(2,.slice aw 8 8),(3,int 0),(4,ptr N4 0),(5,int 0),(6,ptr N6 0),(7,int 0),(8,int 1),(9,.bool true),(10,int 0),(11,int 0),(12,int 2),(13,.bool true),(14,int 0)]) (fun s H=>s = H∧Grows H5 H) ?_ ?_
 ·conv=>whnf
  refine ⟨_,all_cells a4 b4.len,?_⟩
  conv=>whnf
  refine CallP.mono (FindRound_spec _ rd _ (Bx.mv b4) rd_s) ?_
  rintro r H6 ⟨hr,g6⟩
  have hr:=rd_find hr
  subst hr
  conv=>whnf
  exact ⟨_,⟨rfl,rfl,rfl,rfl,rfl,rfl,rfl,rfl,rfl,rfl,rfl,rfl,rfl,rfl,trivial⟩,⟨rfl,g6⟩,rfl⟩
 rintro H6 φ6 _ ⟨rfl,g6⟩
 have a1:=g6.at_ _ _ a1
 have b1:=b1.ext g6
 have a4:=g6.at_ _ _ a4
 have b4:=b4.ext g6
 have a6:=g6.at_ _ _ a6
 have b6:=b6.ext g6
 have v2:=v2.ext g6
 have g1:=g1.trans g6
 clear g6
 conv=>whnf
 repeat (refine SeqP.go ?_; conv=>whnf)
 refine ⟨_,all_cells a1 b1.len,?_⟩
 conv=>whnf
 refine CallP.mono (own_spec _ tm.i _ (Bx.mv b1) (lens_of tm_s)) ?_
 rintro r H7 ⟨hw,g7⟩
 rw [cut_tm] at hw
 have hk:=hw.known
 obtain ⟨p1,q1,rfl⟩:=hk
 conv=>whnf
 refine CallP.mono (RMorse_spec _) ?_
 rintro r H8 ⟨hw2,g8⟩
 have hk:=hw2.known
 obtain ⟨p2,q2,rfl⟩:=hk
 conv=>whnf
 refine CallP.mono (REqual_spec _ _ tm.i tm.i _ (hw.mv.ext g8) hw2.mv rfl (by decide) tm_s.lens.2.2) ?_
 rintro _ H9 ⟨⟨x,rfl,hx⟩,g9⟩
 cases x with
 | false=>exact absurd rfl hx.f
 | true =>
  have g69:=(g7.trans g8).trans g9
  have a1:=g69.at_ _ _ a1
  have b1:=b1.ext g69
  have a4:=g69.at_ _ _ a4
  have b4:=b4.ext g69
  have a6:=g69.at_ _ _ a6
  have b6:=b6.ext g69
  have v2:=v2.ext g69
  have g1:=g1.trans g69
  clear g69 g7 g8 g9 hw hw2 hx
  conv=>whnf
  refine cmpT rfl ?_
  conv=>whnf
  have gl1:Grows H9 (H9.lay (.row 3 true [int 0,int 1,int 1,int 0,int 1,int 0,int 0,int 1])):=Grows.lay _ _
  have vb:View (H9.lay (.row 3 true [int 0,int 1,int 1,int 0,int 1,int 0,int 0,int 1])) (slc H9.next 0 8 8) [0,1,1,0,1,0,0,1]:=row_view (ls:=[0,1,1,0,1,0,0,1]) (Hp.at_lay_self _ _) rfl
  refine CallP.mono (ints_spec _ _ [0,1,1,0,1,0,0,1] [0,1,1,0,1,0,0,1] _ (v2.ext gl1) vb (by simp)) ?_
  rintro _ _ ⟨⟨x,rfl,hx⟩,rfl⟩
  cases x with
  | false=>exact absurd rfl hx.f
  | true =>
   conv=>whnf
   refine cmpT rfl ?_
   conv=>whnf
   have a4:=gl1.at_ _ _ a4
   have b4:=b4.ext gl1
   have a6:=gl1.at_ _ _ a6
   have b6:=b6.ext gl1
   have g1:=g1.trans gl1
   clear vb v2 hx gl1 a1 b1
   refine ⟨_,all_cells a4 b4.len,?_⟩
   conv=>whnf
   refine CallP.mono (own_spec _ rd.i _ (Bx.mv b4) (lens_of rd_s)) ?_
   rintro r H11 ⟨hw,g11⟩
   rw [cut_rd] at hw
   have hk:=hw.known
   obtain ⟨p1,q1,rfl⟩:=hk
   conv=>whnf
   have h1:=Hp.at_lay_self H11 (.row 3 true [int 0,int 0,int 1])
   have m1:(H11.lay (.row 3 true [int 0,int 0,int 1])).next = H11.next + 1:=Hp.next_lay _ _
   have hexA:∃ A,H11.lay (.row 3 true [int 0,int 0,int 1]) = A:=⟨_,rfl⟩
   have gA:∀ o1 o2 o3 o4 o5,Grows H11 (((((H11.lay o1).lay o2).lay o3).lay o4).lay o5):=fun _ _ _ _ _=>((((Grows.lay _ _).then_lay _).then_lay _).then_lay _).then_lay _
   refine CallP.mono (REqual_spec _ _ rd.i rd.i _ ?_ ?_ rfl (by decide) rd_s.lens.2.2) ?_
   ·exact hw.mv.ext (gA _ _ _ _ _)
   ·exact rd_mv (Hp.at_lay_old _ (Hp.at_lay_old _ (Hp.at_lay_old _ (Hp.at_lay_old _ (Hp.at_lay_self _ _))))) (Hp.at_lay_old _ (Hp.at_lay_old _ (Hp.at_lay_old _ (Hp.at_lay_self _ _)))) (Hp.at_lay_old _ (Hp.at_lay_old _ (Hp.at_lay_self _ _))) (Hp.at_lay_old _ (Hp.at_lay_self _ _)) (Hp.at_lay_self _ _)
   rintro _ H12 ⟨⟨x,rfl,hx⟩,g12⟩
   cases x with
   | false=>exact absurd rfl hx.f
   | true =>
    have g69:=(g11.trans (gA _ _ _ _ _)).trans g12
    have a6:=g69.at_ _ _ a6
    have b6:=b6.ext g69
    have g1:=g1.trans g69
    clear g69 g11 gA g12 hx hw hexA h1 m1
    conv=>whnf
    refine cmpT rfl ?_
    conv=>whnf
    refine ⟨_,all_cells a6 b6.len,?_⟩
    conv=>whnf
    refine CallP.mono (own_spec _ tm.i _ (Bx.mv b6) (lens_of tm_s)) ?_
    rintro r H13 ⟨hw,g13⟩
    rw [cut_tm] at hw
    have hk:=hw.known
    obtain ⟨p3,q3,rfl⟩:=hk
    conv=>whnf
    refine CallP.mono (RMorse_spec _) ?_
    rintro r H14 ⟨hw2,g14⟩
    have hk:=hw2.known
    obtain ⟨p4,q4,rfl⟩:=hk
    conv=>whnf
    refine CallP.mono (REqual_spec _ _ tm.i tm.i _ (hw.mv.ext g14) hw2.mv rfl (by decide) tm_s.lens.2.2) ?_
    rintro _ H15 ⟨⟨x,rfl,hx⟩,g15⟩
    cases x with
    | false=>exact absurd rfl hx.f
    | true =>
     have g1:=((g1.trans g13).trans g14).trans g15
     conv=>whnf
     refine cmpT rfl ?_
     conv=>whnf
     refine cmpT rfl ?_
     conv=>whnf
     refine cmpT rfl ?_
     conv=>whnf
     refine cmpT rfl ?_
     conv=>whnf
     refine cmpT rfl ?_
     conv=>whnf
     have me:MV H15 (.agg ⟨[int 0,nilS,nilS]⟩) ⟨0,[],[]⟩:=⟨nilS,nilS,rfl,Built.view (h0:=H15) (e:=3) (.inl ⟨rfl,rfl⟩),Mat.nil _⟩
     refine CallP.mono (Check_spec _ _ _ me (by simp) (by simp) (by simp [rw_])) ?_
     rintro _ H16 ⟨⟨e,rfl,-,he⟩,g16⟩
     have he:=he (fun k=>by have:=k.b2; dsimp only at this; omega)
     subst he
     conv=>whnf
     refine cmpT rfl ?_
     conv=>whnf
     repeat (refine SeqP.go ?_; conv=>whnf)
     exact ⟨rfl,g1.trans g16⟩
end
end Go.Proofs.Ytedneplaibmppaa
namespace Go.Proofs.Ytedneplaibmppaa
open Go.Rx Go.RowKit
abbrev InR (n:Int):Prop:=-9223372036854775808≤n∧n < 9223372036854775808
end Go.Proofs.Ytedneplaibmppaa
namespace Go.Proofs.Ytedneplaibmppaa
open Go.Rx Go.RowKit
theorem under3:Try.prog.underlying 3 = some (.int .i64):=Try.underlying3
theorem under22:Try.prog.underlying 22 = some (.slice 3):=Try.underlying22
theorem under23:Try.prog.underlying 23 = some (.slice 22):=Try.underlying23
def fieldTy (i:Nat) (t:TypeId):Option TypeDesc→Option (TypeId×Nat)
 | some (.struct fs)=>(fs[i]?).map fun f=>(f.type,f.offset)
 | _=>none
theorem field_of {t ft off i:Nat} (h:fieldTy i t (Try.prog.underlying t) = some (ft,off)) {ts:List Tr} (hy:TyT Try.prog t ts):ts.length = Try.prog.cellsOf t∧TyT Try.prog ft ((ts.drop off).take (Try.prog.cellsOf ft)):=by
 cases hu:Try.prog.underlying t with
 | none=>rw [hu] at h; cases h
 | some d =>
  rw [hu] at h
  cases d with
  | struct fs =>
   have hf:=ty_field hu hy
   unfold fieldTy at h
   dsimp only at h
   cases hg:fs[i]? with
   | none=>rw [hg] at h; cases h
   | some f =>
    rw [hg] at h
    cases h
    exact ⟨hf.1,hf.2 i f hg⟩
  | _=>cases h
theorem cells3:Try.prog.cellsOf 3 = 1:=by kernel_rfl
theorem cells22:Try.prog.cellsOf 22 = 1:=by kernel_rfl
theorem cells23:Try.prog.cellsOf 23 = 1:=by kernel_rfl
theorem one_of {ts:List Tr} {o:Nat} (h:o < ts.length):(ts.drop o).take 1 = [ts[o]]:=by
 rw [List.drop_eq_getElem_cons h]; rfl
theorem ag_inv {h:Hp} {v:Value} {ts:List Tr} (k:AbsT h v (.ag ts)):∃ vs:List Value,v = .agg ⟨vs⟩∧vs.length = ts.length∧∀ (k:Nat) v t,vs[k]? = some v→ts[k]? = some t→AbsT h v t:=by
 cases k with
 | ag vs cs hl ht=>exact ⟨vs,rfl,hl,ht⟩
theorem num_inv {h:Hp} {v:Value} {n:Int} (k:AbsT h v (.num n)):v = int n:=by cases k; rfl
theorem mac_arg {ts:List Tr} (hy:TyT Try.prog 25 ts):∃ M:MacI,InR M.base∧Lens M∧∀ h v,AbsT h v (.ag ts)→MV h v M:=by
 have hmax:maxLen < 9223372036854775808:=by decide
 have f0:=field_of (i:=0) (ft:=3) (off:=0) (by kernel_rfl) hy
 have f1:=field_of (i:=1) (ft:=22) (off:=1) (by kernel_rfl) hy
 have f2:=field_of (i:=2) (ft:=23) (off:=2) (by kernel_rfl) hy
 have hl:ts.length = 3:=f0.1.trans (by kernel_rfl)
 have f0:=f0.2
 have f1:=f1.2
 have f2:=f2.2
 rw [cells3,one_of (by omega)] at f0
 rw [cells22,one_of (by omega)] at f1
 rw [cells23,one_of (by omega)] at f2
 obtain ⟨n,en,hn⟩:=ty_num under3 f0
 obtain ⟨l1,e1,m1,r1⟩:=ty_ints under22 cells3 under3 f1
 obtain ⟨L,e2,m2,r2⟩:=ty_mat under23 cells22 under22 cells3 under3 f2
 refine ⟨⟨n,l1,L⟩,hn,⟨by show l1.length < _; omega,by show L.length < _; omega,fun s=>?_⟩,fun h v k=>?_⟩
 ·show (rw_ L s).length < _
  by_cases hs:s < L.length
  ·rw [rw_at hs]
   have:=(r2 _ (List.getElem_mem hs)).1
   omega
  ·unfold rw_
   rw [List.getD_eq_getElem?_getD,List.getElem?_eq_none (by omega)]
   simp
 obtain ⟨vs,rfl,hvl,hk⟩:=ag_inv k
 match vs,hvl with
 | [v0,v1,v2],_ =>
 have k0:=hk 0 v0 _ rfl (List.getElem?_eq_getElem (by omega))
 have k1:=hk 1 v1 _ rfl (List.getElem?_eq_getElem (by omega))
 have k2:=hk 2 v2 _ rfl (List.getElem?_eq_getElem (by omega))
 rw [show ts[0] = .num n from List.cons.inj en |>.1] at k0
 rw [e1] at k1
 rw [e2] at k2
 have:=num_inv k0
 subst this
 exact ⟨v1,v2,rfl,k1.view,k2.mat⟩
 | [],h | [_],h | [_,_],h | _ :: _ :: _ :: _ :: _,h=>simp [hl] at h
end Go.Proofs.Ytedneplaibmppaa
namespace Go.Proofs.Ytedneplaibmppaa
open Go.Rx Go.RowKit
theorem OkS.cut {m:Mac} (h:OkS m):cutI m.i = m.i:=by
 have h1:=h.n12
 have h2:=h.ok.ilen
 have h5:=h.b5
 refine cutI_id (by show m.out.length≤13; omega) (by omega) fun l hl=>?_
 obtain ⟨i,hi,rfl⟩:=List.getElem_of_mem hl
 have:=h.ok.irow (s:=i) (by omega)
 rw [rw_at hi] at this
 omega
theorem OwnM.bx {h0 h:Hp} {cs:List Value} {M:MacI} (k:OwnM h0 h (.agg ⟨cs⟩) M):Bx h cs M:=k.mv.bx
end Go.Proofs.Ytedneplaibmppaa
namespace Go.Proofs.Ytedneplaibmppaa
open Go.Rx Go.RowKit
namespace Mac
theorem Ok.ck {m:Mac} (h:m.Ok) (z:m.Zer) (b2:2≤m.base) (b5:m.base≤5) (n12:m.out.length≤12) (outs:∀ x ∈ m.out,0≤x∧x≤9):OkS m where
 ok:=h
 zer:=z
 ck:=by
  have hil:=h.ilen
  refine ⟨by show (2:Int)≤m.base; omega,by show (m.base:Int)≤5; omega,h.n1,n12,outs,hil,fun s hs=>?_⟩
  have hs:s < m.out.length:=hs
  have hr:=h.irow hs
  have g0:=m.i_nx s
  refine ⟨by show ((rw_ m.i.next s).length:Int) = (m.base:Int); omega,fun x hx=>?_,?_⟩
  ·obtain ⟨d,hd,rfl⟩:=List.getElem_of_mem hx
   rw [← gl_at hd,g0]
   have:=h.lt s d hs (by omega)
   show (0:Int)≤(m.nx s d:Int)∧(m.nx s d:Int) < (m.out.length:Int)
   omega
  ·rw [g0,Int.toNat_natCast]
   exact z s hs
end Mac
end Go.Proofs.Ytedneplaibmppaa
namespace Go.Proofs.Ytedneplaibmppaa
open Go.Rx Go.RowKit
def LenC (M:MacI):Prop:=M.out.length≤1000000∧M.next.length≤1000000∧∀ s,(rw_ M.next s).length≤1000000
abbrev no0:MacI:=⟨0,[],[]⟩
theorem noM_mv (h:Hp):MV h noM no0:=⟨nilS,nilS,rfl,Built.view (h0:=h) (e:=3) (.inl ⟨rfl,rfl⟩),Mat.nil _⟩
attribute [local irreducible] E idxN cellAt cellsAt storeAt callable helems hmoved lookIn findKey keyOk hentries Hp.at Hp.set Hp.lay arBits hupdated setAt CallP YieldP BoolOf IsWrap Rnd LoopP AppP CutP Int.tmod Int.tdiv Int.fdiv
section
variable [Unknowns]
attribute [local irreducible] sameAt
theorem At_bad (v:Value) (M:MacI) (a:Int) (h:Hp) (hv:MV h v M) (hL:LenC M) (hno:¬ OkI M):CallP E 23 [v,int a] h (fun r h'=>r = .tuple ⟨[int 0,int 50]⟩∧Grows h h'):=by
 obtain ⟨bx,rfl,hbx⟩:=hv.box
 refine enter23 (by simp) ?_
 conv=>whnf
 refine SeqP.cut (α:=Hp) (fun _=>[(2,ptr h.next 0)]) (fun x H=>x = H∧Grows h H∧H.at h.next = some (.row 25 true bx)) ?_ ?_
 ·conv=>whnf
  exact ⟨_,⟨rfl,trivial⟩,⟨rfl,Grows.lay _ _,Hp.at_lay_self _ _⟩,rfl⟩
 rintro H φ1 _ ⟨rfl,gH,aX⟩
 conv=>whnf
 repeat (refine SeqP.go ?_; conv=>whnf)
 refine ⟨_,all_cells aX hbx.len,?_⟩
 conv=>whnf
 refine CallP.mono (Check_spec _ M _ (Bx.mv (hbx.ext gH)) hL.1 hL.2.1 hL.2.2) ?_
 rintro r H2 ⟨⟨e,rfl,-,he⟩,g2⟩
 have he:=he hno
 subst he
 conv=>whnf
 repeat (refine SeqP.go ?_; conv=>whnf)
 refine cmpT (by omega) ?_
 conv=>whnf
 repeat (refine SeqP.go ?_; conv=>whnf)
 exact ⟨rfl,gH.trans g2⟩
theorem First_bad (v:Value) (M:MacI) (a:Int) (h:Hp) (hv:MV h v M) (hL:LenC M) (hno:¬ OkI M):CallP E 24 [v,int a] h (fun r h'=>r = .tuple ⟨[nilS,int 50]⟩∧Grows h h'):=by
 obtain ⟨bx,rfl,hbx⟩:=hv.box
 refine enter24 (by simp) ?_
 conv=>whnf
 refine SeqP.cut (α:=Hp) (fun _=>[(2,ptr h.next 0)]) (fun x H=>x = H∧Grows h H∧H.at h.next = some (.row 25 true bx)) ?_ ?_
 ·conv=>whnf
  exact ⟨_,⟨rfl,trivial⟩,⟨rfl,Grows.lay _ _,Hp.at_lay_self _ _⟩,rfl⟩
 rintro H φ1 _ ⟨rfl,gH,aX⟩
 conv=>whnf
 repeat (refine SeqP.go ?_; conv=>whnf)
 refine ⟨_,all_cells aX hbx.len,?_⟩
 conv=>whnf
 refine CallP.mono (Check_spec _ M _ (Bx.mv (hbx.ext gH)) hL.1 hL.2.1 hL.2.2) ?_
 rintro r H2 ⟨⟨e,rfl,-,he⟩,g2⟩
 have he:=he hno
 subst he
 conv=>whnf
 repeat (refine SeqP.go ?_; conv=>whnf)
 refine cmpT (by omega) ?_
 conv=>whnf
 repeat (refine SeqP.go ?_; conv=>whnf)
 exact ⟨rfl,gH.trans g2⟩
theorem IsRound_bad (v:Value) (M:MacI) (a b:Int) (h:Hp) (hv:MV h v M) (hL:LenC M) (hno:¬ OkI M):CallP E 32 [v,int a,int b] h (fun r h'=>r = .tuple ⟨[.bool false,int 50]⟩∧Grows h h'):=by
 obtain ⟨bx,rfl,hbx⟩:=hv.box
 refine enter32 (by simp) ?_
 conv=>whnf
 refine SeqP.cut (α:=Hp) (fun _=>[(3,ptr h.next 0)]) (fun x H=>x = H∧Grows h H∧H.at h.next = some (.row 25 true bx)) ?_ ?_
 ·conv=>whnf
  exact ⟨_,⟨rfl,trivial⟩,⟨rfl,Grows.lay _ _,Hp.at_lay_self _ _⟩,rfl⟩
 rintro H φ1 _ ⟨rfl,gH,aX⟩
 conv=>whnf
 repeat (refine SeqP.go ?_; conv=>whnf)
 refine ⟨_,all_cells aX hbx.len,?_⟩
 conv=>whnf
 refine CallP.mono (Check_spec _ M _ (Bx.mv (hbx.ext gH)) hL.1 hL.2.1 hL.2.2) ?_
 rintro r H2 ⟨⟨e,rfl,-,he⟩,g2⟩
 have he:=he hno
 subst he
 conv=>whnf
 repeat (refine SeqP.go ?_; conv=>whnf)
 refine cmpT (by omega) ?_
 conv=>whnf
 repeat (refine SeqP.go ?_; conv=>whnf)
 exact ⟨rfl,gH.trans g2⟩
theorem FindRound_bad (v:Value) (M:MacI) (h:Hp) (hv:MV h v M) (hL:LenC M) (hno:¬ OkI M):CallP E 33 [v] h (fun r h'=>r = .tuple ⟨[int 0,int 0,.bool false,int 50]⟩∧Grows h h'):=by
 obtain ⟨bx,rfl,hbx⟩:=hv.box
 refine enter33 (by simp) ?_
 conv=>whnf
 refine SeqP.cut (α:=Hp) (fun _=>[(1,ptr h.next 0)]) (fun x H=>x = H∧Grows h H∧H.at h.next = some (.row 25 true bx)) ?_ ?_
 ·conv=>whnf
  exact ⟨_,⟨rfl,trivial⟩,⟨rfl,Grows.lay _ _,Hp.at_lay_self _ _⟩,rfl⟩
 rintro H φ1 _ ⟨rfl,gH,aX⟩
 conv=>whnf
 repeat (refine SeqP.go ?_; conv=>whnf)
 refine ⟨_,all_cells aX hbx.len,?_⟩
 conv=>whnf
 refine CallP.mono (Check_spec _ M _ (Bx.mv (hbx.ext gH)) hL.1 hL.2.1 hL.2.2) ?_
 rintro r H2 ⟨⟨e,rfl,-,he⟩,g2⟩
 have he:=he hno
 subst he
 conv=>whnf
 repeat (refine SeqP.go ?_; conv=>whnf)
 refine cmpT (by omega) ?_
 conv=>whnf
 repeat (refine SeqP.go ?_; conv=>whnf)
 exact ⟨rfl,gH.trans g2⟩
theorem Kernel_bad (v:Value) (M:MacI) (h:Hp) (hv:MV h v M) (hL:LenC M) (hno:¬ OkI M):CallP E 34 [v] h (fun r h'=>r = .tuple ⟨[int 0,int 50]⟩∧Grows h h'):=by
 obtain ⟨bx,rfl,hbx⟩:=hv.box
 refine enter34 (by simp) ?_
 conv=>whnf
 refine SeqP.cut (α:=Hp) (fun _=>[(1,ptr h.next 0)]) (fun x H=>x = H∧Grows h H∧H.at h.next = some (.row 25 true bx)) ?_ ?_
 ·conv=>whnf
  exact ⟨_,⟨rfl,trivial⟩,⟨rfl,Grows.lay _ _,Hp.at_lay_self _ _⟩,rfl⟩
 rintro H φ1 _ ⟨rfl,gH,aX⟩
 conv=>whnf
 repeat (refine SeqP.go ?_; conv=>whnf)
 refine ⟨_,all_cells aX hbx.len,?_⟩
 conv=>whnf
 refine CallP.mono (Check_spec _ M _ (Bx.mv (hbx.ext gH)) hL.1 hL.2.1 hL.2.2) ?_
 rintro r H2 ⟨⟨e,rfl,-,he⟩,g2⟩
 have he:=he hno
 subst he
 conv=>whnf
 repeat (refine SeqP.go ?_; conv=>whnf)
 refine cmpT (by omega) ?_
 conv=>whnf
 repeat (refine SeqP.go ?_; conv=>whnf)
 exact ⟨rfl,gH.trans g2⟩
theorem Ever_bad (v:Value) (M:MacI) (a:Int) (h:Hp) (hv:MV h v M) (hL:LenC M) (hno:¬ OkI M):CallP E 35 [v,int a] h (fun r h'=>r = .tuple ⟨[int 0,.bool false,int 50]⟩∧Grows h h'):=by
 obtain ⟨bx,rfl,hbx⟩:=hv.box
 refine enter35 (by simp) ?_
 conv=>whnf
 refine SeqP.cut (α:=Hp) (fun _=>[(2,ptr h.next 0)]) (fun x H=>x = H∧Grows h H∧H.at h.next = some (.row 25 true bx)) ?_ ?_
 ·conv=>whnf
  exact ⟨_,⟨rfl,trivial⟩,⟨rfl,Grows.lay _ _,Hp.at_lay_self _ _⟩,rfl⟩
 rintro H φ1 _ ⟨rfl,gH,aX⟩
 conv=>whnf
 repeat (refine SeqP.go ?_; conv=>whnf)
 refine ⟨_,all_cells aX hbx.len,?_⟩
 conv=>whnf
 refine CallP.mono (Check_spec _ M _ (Bx.mv (hbx.ext gH)) hL.1 hL.2.1 hL.2.2) ?_
 rintro r H2 ⟨⟨e,rfl,-,he⟩,g2⟩
 have he:=he hno
 subst he
 conv=>whnf
 repeat (refine SeqP.go ?_; conv=>whnf)
 refine cmpT (by omega) ?_
 conv=>whnf
 repeat (refine SeqP.go ?_; conv=>whnf)
 exact ⟨rfl,gH.trans g2⟩
end
section
variable [Unknowns]
attribute [local irreducible] sameAt finP
theorem Form_bad (v:Value) (M:MacI) (h:Hp) (hv:MV h v M) (hL:LenC M) (hno:¬ OkI M):CallP E 25 [v] h (fun r h'=>r = .tuple ⟨[noM,int 50]⟩∧Grows h h'):=by
 obtain ⟨bx,rfl,hbx⟩:=hv.box
 obtain ⟨i25,t25,ag25,sz25⟩:=ty25
 refine enter25 (by simp) ?_
 conv=>whnf
 refine SeqP.cut (α:=Hp) (fun _=>[(2,ptr (h.next + 1) 0),(1,ptr h.next 0)]) (fun x H=>x = H∧Grows h H∧H.at h.next = some (.row 25 true bx)∧H.at (h.next + 1) = some (.row 25 true [int 0,nilS,nilS])) ?_ ?_
 ·conv=>whnf
  have n1:(h.lay (.row 25 true bx)).next = h.next + 1:=Hp.next_lay _ _
  exact ⟨_,⟨congrArg (fun k=>ptr k 0) n1,rfl,trivial⟩,⟨rfl,(Grows.lay _ _).then_lay _,Hp.at_lay_old _ (Hp.at_lay_self _ _),at_nx2 n1 (Hp.at_lay_self _ _)⟩,rfl⟩
 rintro H φ1 _ ⟨rfl,gH,aX,aR⟩
 conv=>whnf
 repeat (refine SeqP.go ?_; conv=>whnf)
 refine ⟨_,all_cells aX hbx.len,?_⟩
 conv=>whnf
 refine CallP.mono (Check_spec _ M _ (Bx.mv (hbx.ext gH)) hL.1 hL.2.1 hL.2.2) ?_
 rintro r H2 ⟨⟨e,rfl,-,he⟩,g2⟩
 have he:=he hno
 subst he
 have aR2:=g2.at_ _ _ aR
 conv=>whnf
 repeat (refine SeqP.go ?_; conv=>whnf)
 refine cmpT (by omega) ?_
 conv=>whnf
 repeat (refine SeqP.go ?_; conv=>whnf)
 refine ⟨rfl,_,storeAt_full (vs:=[int 0,nilS,nilS]) aR2 rfl rfl rfl,?_⟩
 conv=>whnf
 exact leave_cell2 (r:=h.next + 1) (o:=0) (cs:=[int 0,nilS,nilS]) (w:=int 50) rfl rfl rfl t25 ag25 (by rw [sz25]; exact all_cells (Hp.at_set_self _ (Hp.lt_of_at aR2)) rfl) ⟨rfl,(gH.trans g2).then_set _ (by omega)⟩
theorem Every_bad (v:Value) (M:MacI) (a b:Int) (h:Hp) (hv:MV h v M) (hL:LenC M) (hno:¬ OkI M):CallP E 28 [v,int a,int b] h (fun r h'=>r = .tuple ⟨[noM,int 50]⟩∧Grows h h'):=by
 obtain ⟨bx,rfl,hbx⟩:=hv.box
 obtain ⟨i25,t25,ag25,sz25⟩:=ty25
 refine enter28 (by simp) ?_
 conv=>whnf
 refine SeqP.cut (α:=Hp) (fun _=>[(6,ptr (h.next + 1) 0),(3,ptr h.next 0)]) (fun x H=>x = H∧Grows h H∧H.at h.next = some (.row 25 true bx)∧H.at (h.next + 1) = some (.row 25 true [int 0,nilS,nilS])) ?_ ?_
 ·conv=>whnf
  have n1:(h.lay (.row 25 true bx)).next = h.next + 1:=Hp.next_lay _ _
  exact ⟨_,⟨congrArg (fun k=>ptr k 0) n1,rfl,trivial⟩,⟨rfl,(Grows.lay _ _).then_lay _,Hp.at_lay_old _ (Hp.at_lay_self _ _),at_nx2 n1 (Hp.at_lay_self _ _)⟩,rfl⟩
 rintro H φ1 _ ⟨rfl,gH,aX,aR⟩
 conv=>whnf
 repeat (refine SeqP.go ?_; conv=>whnf)
 refine ⟨_,all_cells aX hbx.len,?_⟩
 conv=>whnf
 refine CallP.mono (Check_spec _ M _ (Bx.mv (hbx.ext gH)) hL.1 hL.2.1 hL.2.2) ?_
 rintro r H2 ⟨⟨e,rfl,-,he⟩,g2⟩
 have he:=he hno
 subst he
 have aR2:=g2.at_ _ _ aR
 conv=>whnf
 repeat (refine SeqP.go ?_; conv=>whnf)
 refine cmpT (by omega) ?_
 conv=>whnf
 repeat (refine SeqP.go ?_; conv=>whnf)
 refine ⟨rfl,_,storeAt_full (vs:=[int 0,nilS,nilS]) aR2 rfl rfl rfl,?_⟩
 conv=>whnf
 exact leave_cell2 (r:=h.next + 1) (o:=0) (cs:=[int 0,nilS,nilS]) (w:=int 50) rfl rfl rfl t25 ag25 (by rw [sz25]; exact all_cells (Hp.at_set_self _ (Hp.lt_of_at aR2)) rfl) ⟨rfl,(gH.trans g2).then_set _ (by omega)⟩
theorem Map_bad (v:Value) (M:MacI) (w:Value) (h:Hp) (hv:MV h v M) (hL:LenC M) (hno:¬ OkI M):CallP E 29 [v,w] h (fun r h'=>r = .tuple ⟨[noM,int 50]⟩∧Grows h h'):=by
 obtain ⟨bx,rfl,hbx⟩:=hv.box
 obtain ⟨i25,t25,ag25,sz25⟩:=ty25
 refine enter29 (by simp) ?_
 conv=>whnf
 refine SeqP.cut (α:=Hp) (fun _=>[(4,ptr (h.next + 1) 0),(2,ptr h.next 0)]) (fun x H=>x = H∧Grows h H∧H.at h.next = some (.row 25 true bx)∧H.at (h.next + 1) = some (.row 25 true [int 0,nilS,nilS])) ?_ ?_
 ·conv=>whnf
  have n1:(h.lay (.row 25 true bx)).next = h.next + 1:=Hp.next_lay _ _
  exact ⟨_,⟨congrArg (fun k=>ptr k 0) n1,rfl,trivial⟩,⟨rfl,(Grows.lay _ _).then_lay _,Hp.at_lay_old _ (Hp.at_lay_self _ _),at_nx2 n1 (Hp.at_lay_self _ _)⟩,rfl⟩
 rintro H φ1 _ ⟨rfl,gH,aX,aR⟩
 conv=>whnf
 repeat (refine SeqP.go ?_; conv=>whnf)
 refine ⟨_,all_cells aX hbx.len,?_⟩
 conv=>whnf
 refine CallP.mono (Check_spec _ M _ (Bx.mv (hbx.ext gH)) hL.1 hL.2.1 hL.2.2) ?_
 rintro r H2 ⟨⟨e,rfl,-,he⟩,g2⟩
 have he:=he hno
 subst he
 have aR2:=g2.at_ _ _ aR
 conv=>whnf
 repeat (refine SeqP.go ?_; conv=>whnf)
 refine cmpT (by omega) ?_
 conv=>whnf
 repeat (refine SeqP.go ?_; conv=>whnf)
 refine ⟨rfl,_,storeAt_full (vs:=[int 0,nilS,nilS]) aR2 rfl rfl rfl,?_⟩
 conv=>whnf
 exact leave_cell2 (r:=h.next + 1) (o:=0) (cs:=[int 0,nilS,nilS]) (w:=int 50) rfl rfl rfl t25 ag25 (by rw [sz25]; exact all_cells (Hp.at_set_self _ (Hp.lt_of_at aR2)) rfl) ⟨rfl,(gH.trans g2).then_set _ (by omega)⟩
theorem Squared_bad (v:Value) (M:MacI) (h:Hp) (hv:MV h v M) (hL:LenC M) (hno:¬ OkI M):CallP E 31 [v] h (fun r h'=>r = .tuple ⟨[noM,int 50]⟩∧Grows h h'):=by
 obtain ⟨bx,rfl,hbx⟩:=hv.box
 obtain ⟨i25,t25,ag25,sz25⟩:=ty25
 refine enter31 (by simp) ?_
 conv=>whnf
 refine SeqP.cut (α:=Hp) (fun _=>[(2,ptr (h.next + 1) 0),(1,ptr h.next 0)]) (fun x H=>x = H∧Grows h H∧H.at h.next = some (.row 25 true bx)∧H.at (h.next + 1) = some (.row 25 true [int 0,nilS,nilS])) ?_ ?_
 ·conv=>whnf
  have n1:(h.lay (.row 25 true bx)).next = h.next + 1:=Hp.next_lay _ _
  exact ⟨_,⟨congrArg (fun k=>ptr k 0) n1,rfl,trivial⟩,⟨rfl,(Grows.lay _ _).then_lay _,Hp.at_lay_old _ (Hp.at_lay_self _ _),at_nx2 n1 (Hp.at_lay_self _ _)⟩,rfl⟩
 rintro H φ1 _ ⟨rfl,gH,aX,aR⟩
 conv=>whnf
 repeat (refine SeqP.go ?_; conv=>whnf)
 refine ⟨_,all_cells aX hbx.len,?_⟩
 conv=>whnf
 refine CallP.mono (Check_spec _ M _ (Bx.mv (hbx.ext gH)) hL.1 hL.2.1 hL.2.2) ?_
 rintro r H2 ⟨⟨e,rfl,-,he⟩,g2⟩
 have he:=he hno
 subst he
 have aR2:=g2.at_ _ _ aR
 conv=>whnf
 repeat (refine SeqP.go ?_; conv=>whnf)
 refine cmpT (by omega) ?_
 conv=>whnf
 repeat (refine SeqP.go ?_; conv=>whnf)
 refine ⟨rfl,_,storeAt_full (vs:=[int 0,nilS,nilS]) aR2 rfl rfl rfl,?_⟩
 conv=>whnf
 exact leave_cell2 (r:=h.next + 1) (o:=0) (cs:=[int 0,nilS,nilS]) (w:=int 50) rfl rfl rfl t25 ag25 (by rw [sz25]; exact all_cells (Hp.at_set_self _ (Hp.lt_of_at aR2)) rfl) ⟨rfl,(gH.trans g2).then_set _ (by omega)⟩
theorem Later_bad (v:Value) (M:MacI) (a:Int) (h:Hp) (hv:MV h v M) (hL:LenC M) (hno:¬ OkI M):CallP E 27 [v,int a] h (fun r h'=>r = .tuple ⟨[noM,int 50]⟩∧Grows h h'):=by
 obtain ⟨bx,rfl,hbx⟩:=hv.box
 obtain ⟨i25,t25,ag25,sz25⟩:=ty25
 refine enter27 (by simp) ?_
 conv=>whnf
 refine SeqP.cut (α:=Hp) (fun _=>[(4,ptr (h.next + 1) 0),(2,ptr h.next 0),(1,int a)]) (fun x H=>x = H∧Grows h H∧H.at h.next = some (.row 25 true bx)∧H.at (h.next + 1) = some (.row 25 true [int 0,nilS,nilS])) ?_ ?_
 ·conv=>whnf
  have n1:(h.lay (.row 25 true bx)).next = h.next + 1:=Hp.next_lay _ _
  exact ⟨_,⟨congrArg (fun k=>ptr k 0) n1,rfl,rfl,trivial⟩,⟨rfl,(Grows.lay _ _).then_lay _,Hp.at_lay_old _ (Hp.at_lay_self _ _),at_nx2 n1 (Hp.at_lay_self _ _)⟩,rfl⟩
 rintro H φ1 _ ⟨rfl,gH,aX,aR⟩
 conv=>whnf
 repeat (refine SeqP.go ?_; conv=>whnf)
 refine ⟨_,all_cells aX hbx.len,?_⟩
 conv=>whnf
 refine CallP.mono (Every_bad _ M 1 a _ (Bx.mv (hbx.ext gH)) hL hno) ?_
 rintro r H2 ⟨rfl,g2⟩
 have aR2:=g2.at_ _ _ aR
 conv=>whnf
 refine ⟨rfl,_,storeAt_full (vs:=[int 0,nilS,nilS]) aR2 rfl rfl rfl,?_⟩
 conv=>whnf
 exact leave_cell2 (r:=h.next + 1) (o:=0) (cs:=[int 0,nilS,nilS]) (w:=int 50) rfl rfl rfl t25 ag25 (by rw [sz25]; exact all_cells (Hp.at_set_self _ (Hp.lt_of_at aR2)) rfl) ⟨rfl,(gH.trans g2).then_set _ (by omega)⟩
end
end Go.Proofs.Ytedneplaibmppaa
namespace Go.Proofs.Ytedneplaibmppaa
open Go.Rx Go.RowKit
theorem bool_ne (x y:Operand) (a:Bool):aBin E .neq 4 x y (.bool a) (.bool a) = some (.bool false):=by
 cases a <;> kernel_rfl
def Slot (H:Hp) (N:Nat) (e:Int) (F:Mac):Prop:=∃ bx:List Value,bx.length = 3∧H.at N = some (.row 25 true bx)∧(e = 0∧F.out.length≤12∧Bx H bx F.i∨e≠0∧bx = [int 0,nilS,nilS])
theorem Slot.ext {H H':Hp} {N:Nat} {e:Int} {F:Mac} (g:Grows H H') (k:Slot H N e F):Slot H' N e F:=by
 obtain ⟨bx,h1,h2,h3⟩:=k
 refine ⟨bx,h1,g.at_ _ _ h2,?_⟩
 rcases h3 with ⟨h3,h4,h5⟩ | h3
 ·exact .inl ⟨h3,h4,h5.ext g⟩
 ·exact .inr h3
theorem Slot.mv {H:Hp} {N:Nat} {e:Int} {F:Mac} (k:Slot H N e F):∃ bx:List Value,bx.length = 3∧H.at N = some (.row 25 true bx)∧sameV 4 (.agg ⟨bx⟩) (.agg ⟨bx⟩) = true∧(e = 0→F.out.length≤12∧MV H (.agg ⟨bx⟩) F.i)∧(e≠0→MV H (.agg ⟨bx⟩) no0):=by
 obtain ⟨bx,h1,h2,h3⟩:=k
 rcases h3 with ⟨h3,h4,h5⟩ | ⟨h3,rfl⟩
 ·exact ⟨bx,h1,h2,h5.same,fun _=>⟨h4,Bx.mv h5⟩,fun q=>absurd h3 q⟩
 ·exact ⟨_,h1,h2,sameV_mac _ _ _ _ _ _ _,fun q=>absurd q h3,fun _=>noM_mv H⟩
end Go.Proofs.Ytedneplaibmppaa
namespace Go.Proofs.Ytedneplaibmppaa
open Go.Rx Go.RowKit
attribute [local irreducible] E idxN cellAt cellsAt storeAt callable helems hmoved lookIn findKey keyOk hentries Hp.at Hp.set Hp.lay arBits hupdated setAt CallP YieldP BoolOf IsWrap Rnd LoopP AppP CutP Int.tmod Int.tdiv Int.fdiv
section
variable [Unknowns]
attribute [local irreducible] sameAt
theorem RCheck_spec (v:Value) (M:MacI) (h:Hp) (hv:MV h v M) (ho:M.out.length < 9223372036854775808) (hn:M.next.length < 9223372036854775808):CallP E 19 [v] h (fun r h'=>(∃ x,r = .bool x∧BoolOf x (OkI M))∧Grows h h'):=by
 obtain ⟨bx,rfl,hbx⟩:=hv.box
 obtain ⟨ao,an,co,cn,hcx⟩:=hbx.cx
 refine enter19 (by simp) ?_
 conv=>whnf
 refine SeqP.cut (α:=Hp) (fun _=>[(1,ptr h.next 0)]) (fun x H=>x = H∧Grows h H∧H.at h.next = some (.row 26 true bx)) ?_ ?_
 ·conv=>whnf
  exact ⟨_,⟨rfl,trivial⟩,⟨rfl,Grows.lay _ _,Hp.at_lay_self _ _⟩,rfl⟩
 rintro H φ1 _ ⟨rfl,gH,aX⟩
 have kx:=hcx H h.next 26 gH aX
 have x0:=kx.c0
 have x1:=kx.c1
 have x2:=kx.c2
 have no:¬ OkI M→∀ v:Value,v = .bool false→(∃ x,v = .bool x∧BoolOf x (OkI M))∧Grows h H:=fun k v e=>⟨⟨false,e,bo_no k⟩,gH⟩
 conv=>whnf
 refine SeqP.cut (α:=Unit) (fun _=>[(3,int M.out.length),(1,ptr h.next 0)]) (fun _ H2=>H = H2) ?_ ?_
 ·conv=>whnf
  refine ⟨_,x1,?_⟩
  conv=>whnf
  exact ⟨(),⟨rfl,rfl,trivial⟩,rfl,rfl⟩
 rintro _ φ2 _ rfl
 conv=>whnf
 repeat (refine SeqP.go ?_; conv=>whnf)
 refine ⟨_,x0,?_⟩
 conv=>whnf
 refine cmpB (fun c=>?_) (fun q1=>?_)
 ·conv=>whnf
  repeat (refine SeqP.go ?_; conv=>whnf)
  exact no (fun e=>by have:=e.b2; omega) _ rfl
 conv=>whnf
 refine ⟨_,x0,?_⟩
 conv=>whnf
 refine cmpB (fun c=>?_) (fun q2=>?_)
 ·conv=>whnf
  repeat (refine SeqP.go ?_; conv=>whnf)
  exact no (fun e=>by have:=e.b5; omega) _ rfl
 conv=>whnf
 refine cmpB (fun c=>?_) (fun q3=>?_)
 ·conv=>whnf
  repeat (refine SeqP.go ?_; conv=>whnf)
  exact no (fun e=>by have:=e.n1; omega) _ rfl
 conv=>whnf
 refine cmpB (fun c=>?_) (fun q4=>?_)
 ·conv=>whnf
  repeat (refine SeqP.go ?_; conv=>whnf)
  exact no (fun e=>by have:=e.n12; omega) _ rfl
 conv=>whnf
 refine ⟨_,x2,?_⟩
 conv=>whnf
 refine cmpB (fun c=>?_) (fun q5=>?_)
 ·conv=>whnf
  repeat (refine SeqP.go ?_; conv=>whnf)
  exact no (fun e=>by have:=e.len; omega) _ rfl
 have hnl:M.next.length = M.out.length:=by omega
 have hexB:∃ b:Nat,M.base = b:=⟨M.base.toNat,by omega⟩
 obtain ⟨b,eb⟩:=hexB
 rw [eb] at q1 q2 x0
 conv=>whnf
 repeat (refine SeqP.go ?_; conv=>whnf)
 refine loop_inv (α:=Nat) (fun i=>[(4,int i),(3,int M.out.length),(1,ptr h.next 0)]) (fun _=>H) (fun i=>i≤M.out.length∧∀ k,k < i→(0≤gl M.out k∧gl M.out k≤9)∧RowOk M k) (fun i=>M.out.length - i) 0 ⟨Nat.zero_le _,fun k hk=>absurd hk (Nat.not_lt_zero _)⟩ ⟨rfl,rfl,rfl,trivial⟩ (Hp.Le.refl _) ?_
 rintro i φ3 ⟨hi,hall⟩
 conv=>whnf
 repeat (refine SeqP.go ?_; conv=>whnf)
 refine cmpB (fun hlt=>?_) (fun hlt=>?_)
 rotate_left
 ·conv=>whnf
  repeat (refine SeqP.go ?_; conv=>whnf)
  have:i = M.out.length:=by omega
  subst this
  exact ⟨⟨true,rfl,bo_yes ⟨by omega,by omega,by omega,by omega,forall_gl fun j hj=>(hall j hj).1,hnl,fun s hs=>(hall s hs).2⟩⟩,gH⟩
 have hi':i < M.out.length:=by omega
 have ha:=kx.outAt hi'
 have hr:=kx.rowAt (i:=i) (by omega)
 obtain ⟨r1,o1,sp1,ea,hsp1,hc1⟩:=ha
 obtain ⟨r3,o3,sp3,a3,c3,e3,hsp3,hc3,hv3⟩:=hr
 subst ea
 subst e3
 conv=>whnf
 repeat (refine SeqP.go ?_; conv=>whnf)
 refine ⟨_,x1,?_⟩
 conv=>whnf
 refine ⟨hsp1,⟨by omega,by omega⟩,?_⟩
 conv=>whnf
 refine ⟨_,hc1,?_⟩
 conv=>whnf
 refine cmpB (fun c=>?_) (fun p1=>?_)
 ·conv=>whnf
  repeat (refine SeqP.go ?_; conv=>whnf)
  exact no (fun e=>by have:=gl_forall (P:=fun x=>0≤x∧x≤9) e.outs hi'; omega) _ rfl
 conv=>whnf
 refine ⟨_,x1,?_⟩
 conv=>whnf
 refine ⟨hsp1,⟨by omega,by omega⟩,?_⟩
 conv=>whnf
 refine ⟨_,hc1,?_⟩
 conv=>whnf
 refine cmpB (fun c=>?_) (fun p2=>?_)
 ·conv=>whnf
  repeat (refine SeqP.go ?_; conv=>whnf)
  exact no (fun e=>by have:=gl_forall (P:=fun x=>0≤x∧x≤9) e.outs hi'; omega) _ rfl
 conv=>whnf
 refine ⟨_,x2,?_⟩
 conv=>whnf
 refine ⟨hsp3,⟨by omega,by omega⟩,?_⟩
 conv=>whnf
 refine ⟨_,hc3,?_⟩
 conv=>whnf
 refine ⟨_,x0,?_⟩
 conv=>whnf
 refine cmpB (fun c=>?_) (fun p3=>?_)
 ·conv=>whnf
  repeat (refine SeqP.go ?_; conv=>whnf)
  exact no (fun e=>by have:=(e.rows i hi').len; omega) _ rfl
 have hrl:(rw_ M.next i).length = b:=by omega
 conv=>whnf
 refine SeqP.cut (α:=Unit) (fun _=>[(4,int i),(3,int M.out.length),(1,ptr h.next 0)]) (fun _ H2=>H = H2∧∀ d,d < b→0≤gl (rw_ M.next i) d∧gl (rw_ M.next i) d < M.out.length) ?_ ?_
 ·conv=>whnf
  repeat (refine SeqP.go ?_; conv=>whnf)
  refine loop_inv (α:=Nat) (fun j=>[(5,int j),(4,int i),(3,int M.out.length),(1,ptr h.next 0)]) (fun _=>H) (fun j=>j≤b∧∀ d,d < j→0≤gl (rw_ M.next i) d∧gl (rw_ M.next i) d < M.out.length) (fun j=>b - j) 0 ⟨Nat.zero_le _,fun d hd=>absurd hd (Nat.not_lt_zero _)⟩ ⟨rfl,rfl,rfl,rfl,trivial⟩ (Hp.Le.refl _) ?_
  rintro j φ4 ⟨hj,hgood⟩
  conv=>whnf
  repeat (refine SeqP.go ?_; conv=>whnf)
  refine ⟨_,x0,?_⟩
  conv=>whnf
  refine cmpB (fun hlt2=>?_) (fun hlt2=>?_)
  rotate_left
  ·conv=>whnf
   repeat (refine SeqP.go ?_; conv=>whnf)
   have:j = b:=by omega
   subst this
   exact ⟨(),⟨rfl,rfl,rfl,trivial⟩,⟨rfl,hgood⟩,rfl⟩
  have hj':j < b:=by omega
  have hj3:=View.cellg hv3 (i:=j) (by omega)
  obtain ⟨r5,o5,sp5,e5,hsp5,-,hc5⟩:=hj3
  subst e5
  have hmem:gl (rw_ M.next i) j ∈ rw_ M.next i:=by rw [gl_at (by omega)]; exact List.getElem_mem _
  conv=>whnf
  repeat (refine SeqP.go ?_; conv=>whnf)
  refine ⟨_,x2,?_⟩
  conv=>whnf
  refine ⟨hsp3,⟨by omega,by omega⟩,?_⟩
  conv=>whnf
  refine ⟨_,hc3,?_⟩
  conv=>whnf
  refine ⟨hsp5,⟨by omega,by omega⟩,?_⟩
  conv=>whnf
  refine ⟨_,hc5,?_⟩
  conv=>whnf
  refine cmpB (fun c=>?_) (fun p4=>?_)
  ·conv=>whnf
   repeat (refine SeqP.go ?_; conv=>whnf)
   exact no (fun e=>by have:=(e.rows i hi').lt _ hmem; omega) _ rfl
  conv=>whnf
  refine ⟨_,x2,?_⟩
  conv=>whnf
  refine ⟨hsp3,⟨by omega,by omega⟩,?_⟩
  conv=>whnf
  refine ⟨_,hc3,?_⟩
  conv=>whnf
  refine ⟨hsp5,⟨by omega,by omega⟩,?_⟩
  conv=>whnf
  refine ⟨_,hc5,?_⟩
  conv=>whnf
  refine cmpB (fun c=>?_) (fun p5=>?_)
  ·conv=>whnf
   repeat (refine SeqP.go ?_; conv=>whnf)
   exact no (fun e=>by have:=(e.rows i hi').lt _ hmem; omega) _ rfl
  conv=>whnf
  repeat (refine SeqP.go ?_; conv=>whnf)
  refine ⟨((j + 1:Nat):Int),wie (by omega) (by omega),?_⟩
  conv=>whnf
  exact Rnd.mk (j + 1) ⟨by omega,fun d hd=>by
   by_cases e:d = j
   ·subst e; omega
   ·exact hgood d (by omega)⟩ (by show b - (j + 1) < b - j; omega) ⟨rfl,rfl,rfl,rfl,trivial⟩ (Hp.Le.refl _) rfl
 rintro _ φ4 _ ⟨rfl,hgood⟩
 have hg0:=hgood 0 (by omega)
 have hj3:=View.cellg hv3 (i:=0) (by omega)
 obtain ⟨r5,o5,sp5,e5,hsp5,-,hc5⟩:=hj3
 subst e5
 have hexg:∃ g:Nat,gl (rw_ M.next i) 0 = g:=⟨(gl (rw_ M.next i) 0).toNat,by omega⟩
 obtain ⟨g,eg⟩:=hexg
 rw [eg] at hc5 hg0
 have hz:=View.cellg kx.o (i:=g) (by omega)
 obtain ⟨r6,o6,sp6,e6,hsp6,-,hc6⟩:=hz
 injection e6 with e6
 injection e6 with e61 e62 e63
 subst e61; subst e62; subst e63
 conv=>whnf
 repeat (refine SeqP.go ?_; conv=>whnf)
 refine ⟨_,x1,?_⟩
 conv=>whnf
 refine ⟨_,x2,?_⟩
 conv=>whnf
 refine ⟨hsp3,⟨by omega,by omega⟩,?_⟩
 conv=>whnf
 refine ⟨_,hc3,?_⟩
 conv=>whnf
 refine ⟨hsp5,⟨by omega,by omega⟩,?_⟩
 conv=>whnf
 refine ⟨_,hc5,?_⟩
 conv=>whnf
 refine ⟨hsp1,⟨by omega,by omega⟩,?_⟩
 conv=>whnf
 refine ⟨_,hc6,?_⟩
 conv=>whnf
 refine ⟨_,x1,?_⟩
 conv=>whnf
 refine ⟨hsp1,⟨by omega,by omega⟩,?_⟩
 conv=>whnf
 refine ⟨_,hc1,?_⟩
 conv=>whnf
 refine cmpB (fun c=>?_) (fun p6=>?_)
 ·conv=>whnf
  repeat (refine SeqP.go ?_; conv=>whnf)
  exact no (fun e=>by
   have:=(e.rows i hi').zer
   rw [eg,Int.toNat_natCast] at this
   exact c this) _ rfl
 have hzz:gl M.out g = gl M.out i:=by omega
 conv=>whnf
 repeat (refine SeqP.go ?_; conv=>whnf)
 refine ⟨((i + 1:Nat):Int),wie (by omega) (by omega),?_⟩
 conv=>whnf
 exact Rnd.mk (i + 1) ⟨by omega,fun k hk=>by
  by_cases e:k = i
  ·subst e
   exact ⟨by omega,by rw [eb]; omega,fun x hx=>by
    obtain ⟨d,hd,rfl⟩:=List.getElem_of_mem hx
    rw [← gl_at hd]
    exact hgood d (by omega),by rw [eg,Int.toNat_natCast]; exact hzz⟩
  ·exact hall k (by omega)⟩ (by show M.out.length - (i + 1) < M.out.length - i; omega) ⟨rfl,rfl,rfl,trivial⟩ (Hp.Le.refl _) rfl
theorem empty_spec (v:Value) (M:MacI) (h:Hp) (hv:MV h v M):CallP E 36 [v] h (fun r h'=>(∃ x,r = .bool x∧BoolOf x (M = no0))∧Grows h h'):=by
 obtain ⟨bx,rfl,hbx⟩:=hv.box
 obtain ⟨ao,an,co,cn,hcx⟩:=hbx.cx
 refine enter36 (by simp) ?_
 conv=>whnf
 refine SeqP.cut (α:=Hp) (fun _=>[(1,ptr h.next 0)]) (fun x H=>x = H∧Grows h H∧H.at h.next = some (.row 25 true bx)) ?_ ?_
 ·conv=>whnf
  exact ⟨_,⟨rfl,trivial⟩,⟨rfl,Grows.lay _ _,Hp.at_lay_self _ _⟩,rfl⟩
 rintro H φ1 _ ⟨rfl,gH,aX⟩
 have kx:=hcx H h.next 25 gH aX
 have x0:=kx.c0
 have x1:=kx.c1
 have x2:=kx.c2
 conv=>whnf
 repeat (refine SeqP.go ?_; conv=>whnf)
 refine ⟨_,x0,?_⟩
 conv=>whnf
 refine cmpB (fun q1=>?_) (fun q1=>?_)
 rotate_left
 ·conv=>whnf
  repeat (refine SeqP.go ?_; conv=>whnf)
  exact ⟨⟨false,rfl,bo_no fun e=>q1 (by rw [e])⟩,gH⟩
 conv=>whnf
 refine ⟨_,x1,?_⟩
 conv=>whnf
 refine cmpB (fun q2=>?_) (fun q2=>?_)
 rotate_left
 ·conv=>whnf
  repeat (refine SeqP.go ?_; conv=>whnf)
  exact ⟨⟨false,rfl,bo_no fun e=>q2 (by rw [e]; rfl)⟩,gH⟩
 conv=>whnf
 refine ⟨_,x2,?_⟩
 conv=>whnf
 refine cmpB (fun q3=>?_) (fun q3=>?_)
 rotate_left
 ·conv=>whnf
  repeat (refine SeqP.go ?_; conv=>whnf)
  exact ⟨⟨false,rfl,bo_no fun e=>q3 (by rw [e]; rfl)⟩,gH⟩
 conv=>whnf
 repeat (refine SeqP.go ?_; conv=>whnf)
 refine ⟨⟨true,rfl,bo_yes ?_⟩,gH⟩
 obtain ⟨a,b,c⟩:=M
 dsimp only at q1 q2 q3
 have e2:b = []:=List.eq_nil_of_length_eq_zero (by omega)
 have e3:c = []:=List.eq_nil_of_length_eq_zero (by omega)
 rw [q1,e2,e3]
end
end Go.Proofs.Ytedneplaibmppaa
namespace Go.Proofs.Ytedneplaibmppaa
open Go.Rx Go.RowKit
def BothE (A B:MacI) (e:Int):Prop:=(¬ OkI A∨¬ OkI B→e = 50)∧(OkI A→OkI B→(A.base≠B.base→e = 1)∧(A.base = B.base→e = 0))
attribute [local irreducible] E idxN cellAt cellsAt storeAt callable helems hmoved lookIn findKey keyOk hentries Hp.at Hp.set Hp.lay arBits hupdated setAt CallP YieldP BoolOf IsWrap Rnd LoopP AppP CutP Int.tmod Int.tdiv Int.fdiv
section
variable [Unknowns]
attribute [local irreducible] sameAt
theorem checkBoth_spec (va vb:Value) (A B:MacI) (h:Hp) (ha:MV h va A) (hb:MV h vb B) (hA:LenC A) (hB:LenC B):CallP E 64 [va,vb] h (fun r h'=>(∃ e,r = int e∧BothE A B e)∧Grows h h'):=by
 obtain ⟨bxa,rfl,hxa⟩:=ha.box
 obtain ⟨bxb,rfl,hxb⟩:=hb.box
 obtain ⟨aoa,ana,coa,cna,hcxa⟩:=hxa.cx
 obtain ⟨aob,anb,cob,cnb,hcxb⟩:=hxb.cx
 refine enter64 (by simp) ?_
 conv=>whnf
 refine SeqP.cut (α:=Hp) (fun _=>[(2,ptr h.next 0),(3,ptr (h.next + 1) 0)]) (fun x H=>x = H∧Grows h H∧H.at h.next = some (.row 25 true bxa)∧H.at (h.next + 1) = some (.row 25 true bxb)) ?_ ?_
 ·conv=>whnf
  have n1:(h.lay (.row 25 true bxa)).next = h.next + 1:=Hp.next_lay _ _
  exact ⟨_,⟨rfl,congrArg (fun k=>ptr k 0) n1,trivial⟩,⟨rfl,(Grows.lay _ _).then_lay _,Hp.at_lay_old _ (Hp.at_lay_self _ _),at_nx2 n1 (Hp.at_lay_self _ _)⟩,rfl⟩
 rintro H φ1 _ ⟨rfl,gH,aX,aY⟩
 conv=>whnf
 repeat (refine SeqP.go ?_; conv=>whnf)
 refine ⟨_,all_cells aX hxa.len,?_⟩
 conv=>whnf
 refine CallP.mono (Check_spec _ A _ (Bx.mv (hxa.ext gH)) hA.1 hA.2.1 hA.2.2) ?_
 rintro r H2 ⟨⟨e,rfl,he0,he5⟩,g2⟩
 have gh2:=gH.trans g2
 by_cases kA:OkI A
 rotate_left
 ·have:=he5 kA
  subst this
  conv=>whnf
  repeat (refine SeqP.go ?_; conv=>whnf)
  refine cmpT (by omega) ?_
  conv=>whnf
  repeat (refine SeqP.go ?_; conv=>whnf)
  exact ⟨⟨50,rfl,fun _=>rfl,fun q=>absurd q kA⟩,gh2⟩
 have:=he0 kA
 subst this
 conv=>whnf
 repeat (refine SeqP.go ?_; conv=>whnf)
 refine cmpF (by omega) ?_
 conv=>whnf
 repeat (refine SeqP.go ?_; conv=>whnf)
 refine ⟨_,all_cells (g2.at_ _ _ aY) hxb.len,?_⟩
 conv=>whnf
 refine CallP.mono (Check_spec _ B _ (Bx.mv (hxb.ext gh2)) hB.1 hB.2.1 hB.2.2) ?_
 rintro r H3 ⟨⟨e,rfl,he0,he5⟩,g3⟩
 have gh3:=gh2.trans g3
 by_cases kB:OkI B
 rotate_left
 ·have:=he5 kB
  subst this
  conv=>whnf
  repeat (refine SeqP.go ?_; conv=>whnf)
  refine cmpT (by omega) ?_
  conv=>whnf
  repeat (refine SeqP.go ?_; conv=>whnf)
  exact ⟨⟨50,rfl,fun _=>rfl,fun _ q=>absurd q kB⟩,gh3⟩
 have:=he0 kB
 subst this
 have g23:=g2.trans g3
 have x0:=(hcxa H3 h.next 25 gh3 (g23.at_ _ _ aX)).c0
 have y0:=(hcxb H3 (h.next + 1) 25 gh3 (g23.at_ _ _ aY)).c0
 conv=>whnf
 repeat (refine SeqP.go ?_; conv=>whnf)
 refine cmpF (by omega) ?_
 conv=>whnf
 repeat (refine SeqP.go ?_; conv=>whnf)
 refine ⟨_,x0,?_⟩
 conv=>whnf
 refine ⟨_,y0,?_⟩
 conv=>whnf
 refine cmpB (fun hne=>?_) (fun heq=>?_)
 ·conv=>whnf
  repeat (refine SeqP.go ?_; conv=>whnf)
  exact ⟨⟨1,rfl,fun q=>absurd q (by simp [kA,kB]),fun _ _=>⟨fun _=>rfl,fun q=>absurd q hne⟩⟩,gh3⟩
 ·conv=>whnf
  repeat (refine SeqP.go ?_; conv=>whnf)
  exact ⟨⟨0,rfl,fun q=>absurd q (by simp [kA,kB]),fun _ _=>⟨fun q=>absurd q heq,fun _=>rfl⟩⟩,gh3⟩
theorem Same_err (va vb:Value) (A B:MacI) (h:Hp) (ha:MV h va A) (hb:MV h vb B) (hA:LenC A) (hB:LenC B) (e0:Int) (hne:e0≠0) (hE:∀ e,BothE A B e→e = e0):CallP E 26 [va,vb] h (fun r h'=>r = .tuple ⟨[int 0,.bool false,int e0]⟩∧Grows h h'):=by
 obtain ⟨bxa,rfl,hxa⟩:=ha.box
 obtain ⟨bxb,rfl,hxb⟩:=hb.box
 refine enter26 (by simp) ?_
 conv=>whnf
 refine SeqP.cut (α:=Hp) (fun _=>[(2,ptr h.next 0),(3,ptr (h.next + 1) 0)]) (fun x H=>x = H∧Grows h H∧H.at h.next = some (.row 25 true bxa)∧H.at (h.next + 1) = some (.row 25 true bxb)) ?_ ?_
 ·conv=>whnf
  have n1:(h.lay (.row 25 true bxa)).next = h.next + 1:=Hp.next_lay _ _
  exact ⟨_,⟨rfl,congrArg (fun k=>ptr k 0) n1,trivial⟩,⟨rfl,(Grows.lay _ _).then_lay _,Hp.at_lay_old _ (Hp.at_lay_self _ _),at_nx2 n1 (Hp.at_lay_self _ _)⟩,rfl⟩
 rintro H φ1 _ ⟨rfl,gH,aX,aY⟩
 conv=>whnf
 repeat (refine SeqP.go ?_; conv=>whnf)
 refine ⟨_,all_cells aX hxa.len,?_⟩
 conv=>whnf
 refine ⟨_,all_cells aY hxb.len,?_⟩
 conv=>whnf
 refine CallP.mono (checkBoth_spec _ _ A B _ (Bx.mv (hxa.ext gH)) (Bx.mv (hxb.ext gH)) hA hB) ?_
 rintro r H2 ⟨⟨e,rfl,he⟩,g2⟩
 have:=hE e he
 subst this
 conv=>whnf
 repeat (refine SeqP.go ?_; conv=>whnf)
 refine cmpT hne ?_
 conv=>whnf
 repeat (refine SeqP.go ?_; conv=>whnf)
 exact ⟨rfl,gH.trans g2⟩
end
section
variable [Unknowns]
attribute [local irreducible] sameAt finP
theorem Both_bad (va vb w:Value) (A B:MacI) (h:Hp) (ha:MV h va A) (hb:MV h vb B) (hA:LenC A) (hB:LenC B) (hno:¬ OkI A∨¬ OkI B):CallP E 30 [va,vb,w] h (fun r h'=>r = .tuple ⟨[noM,int 50]⟩∧Grows h h'):=by
 obtain ⟨bxa,rfl,hxa⟩:=ha.box
 obtain ⟨bxb,rfl,hxb⟩:=hb.box
 obtain ⟨i25,t25,ag25,sz25⟩:=ty25
 refine enter30 (by simp) ?_
 conv=>whnf
 refine SeqP.cut (α:=Hp) (fun _=>[(3,ptr h.next 0),(4,ptr (h.next + 1) 0),(6,ptr (h.next + 2) 0)]) (fun x H=>x = H∧Grows h H∧H.at h.next = some (.row 25 true bxa)∧H.at (h.next + 1) = some (.row 25 true bxb)∧H.at (h.next + 2) = some (.row 25 true [int 0,nilS,nilS])) ?_ ?_
 ·conv=>whnf
  have n1:(h.lay (.row 25 true bxa)).next = h.next + 1:=Hp.next_lay _ _
  have n2:((h.lay (.row 25 true bxa)).lay (.row 25 true bxb)).next = h.next + 2:=by rw [Hp.next_lay,n1]
  exact ⟨_,⟨rfl,congrArg (fun k=>ptr k 0) n1,congrArg (fun k=>ptr k 0) n2,trivial⟩,⟨rfl,((Grows.lay _ _).then_lay _).then_lay _,Hp.at_lay_old _ (Hp.at_lay_old _ (Hp.at_lay_self _ _)),Hp.at_lay_old _ (at_nx2 n1 (Hp.at_lay_self _ _)),at_nx2 n2 (Hp.at_lay_self _ _)⟩,rfl⟩
 rintro H φ1 _ ⟨rfl,gH,aX,aY,aR⟩
 conv=>whnf
 repeat (refine SeqP.go ?_; conv=>whnf)
 refine ⟨_,all_cells aX hxa.len,?_⟩
 conv=>whnf
 refine ⟨_,all_cells aY hxb.len,?_⟩
 conv=>whnf
 refine CallP.mono (checkBoth_spec _ _ A B _ (Bx.mv (hxa.ext gH)) (Bx.mv (hxb.ext gH)) hA hB) ?_
 rintro r H2 ⟨⟨e,rfl,he⟩,g2⟩
 have:=he.1 hno
 subst this
 have aR2:=g2.at_ _ _ aR
 conv=>whnf
 repeat (refine SeqP.go ?_; conv=>whnf)
 refine cmpT (by omega) ?_
 conv=>whnf
 repeat (refine SeqP.go ?_; conv=>whnf)
 refine ⟨rfl,_,storeAt_full (vs:=[int 0,nilS,nilS]) aR2 rfl rfl rfl,?_⟩
 conv=>whnf
 exact leave_cell2 (r:=h.next + 2) (o:=0) (cs:=[int 0,nilS,nilS]) (w:=int 50) rfl rfl rfl t25 ag25 (by rw [sz25]; exact all_cells (Hp.at_set_self _ (Hp.lt_of_at aR2)) rfl) ⟨rfl,(gH.trans g2).then_set _ (by omega)⟩
end
end Go.Proofs.Ytedneplaibmppaa
namespace Go.Proofs.Ytedneplaibmppaa
open Go.Rx Go.RowKit
theorem cutI_len (M:MacI):LenC (cutI M):=by
 refine ⟨?_,?_,fun s=>?_⟩
 ·show (M.out.take 13).length≤1000000
  rw [List.length_take]; omega
 ·show ((M.next.take 13).map fun l=>l.take 26).length≤1000000
  rw [List.length_map,List.length_take]; omega
 ·show (((M.next.take 13).map fun l=>l.take 26).getD s []).length≤1000000
  rw [List.getD_eq_getElem?_getD,List.getElem?_map]
  cases (M.next.take 13)[s]? with
  | none=>simp
  | some l=>simp; omega
theorem cutI_cut (M:MacI):cutI (cutI M) = cutI M:=by
 refine cutI_id ?_ ?_ fun l hl=>?_
 ·show (M.out.take 13).length≤13
  rw [List.length_take]; omega
 ·show ((M.next.take 13).map fun l=>l.take 26).length≤13
  rw [List.length_map,List.length_take]; omega
 ·obtain ⟨x,_,rfl⟩:=List.mem_map.1 (show l ∈ (M.next.take 13).map fun l=>l.take 26 from hl)
  rw [List.length_take]; omega
theorem LenC.lens {M:MacI} (h:LenC M):Lens M:=⟨by have:=h.1; omega,by have:=h.2.1; omega,fun s=>by have:=h.2.2 s; omega⟩
attribute [local irreducible] E idxN cellAt cellsAt storeAt callable helems hmoved lookIn findKey keyOk hentries Hp.at Hp.set Hp.lay arBits hupdated setAt CallP YieldP BoolOf IsWrap Rnd LoopP AppP CutP Int.tmod Int.tdiv Int.fdiv
section
variable [Unknowns]
attribute [local irreducible] ResP sameAt
theorem checks_law (ts0:List Tr) (hy0:TyT Try.prog 25 ts0):∀ h vs,AllT h vs [.ag ts0]→CallP E 3 vs h (fun r _=>r = .bool true):=by
 intro h vs hvs
 match vs,hvs with
 | [v0],hvs =>
 obtain ⟨k0,-⟩:=hvs
 obtain ⟨M,hMb,hML,hM⟩:=mac_arg hy0
 have hM:=hM h v0 k0
 obtain ⟨bx,rfl,hbx⟩:=hM.box
 refine enter3 (by simp) ?_
 conv=>whnf
 refine SeqP.cut (α:=Hp) (fun _=>[(1,ptr h.next 0)]) (fun s H=>s = H∧H.at h.next = some (.row 25 true bx)∧Grows h H) ?_ ?_
 ·conv=>whnf
  exact ⟨_,⟨rfl,trivial⟩,⟨rfl,Hp.at_lay_self _ _,Grows.lay _ _⟩,rfl⟩
 rintro H0 φ0 _ ⟨rfl,aX,g0⟩
 have hC:=cutI_len M
 have hCC:=cutI_cut M
 conv=>whnf
 refine SeqP.cut (α:=Nat×List Value×Hp) (fun s=>[(3,ptr s.1 0)]) (fun s H=>s.2.2 = H∧H.at s.1 = some (.row 26 true s.2.1)∧Bx H s.2.1 (cutI M)) ?_ ?_
 ·conv=>whnf
  refine ⟨_,all_cells aX hbx.len,?_⟩
  conv=>whnf
  refine CallP.mono (own_spec _ M _ (Bx.mv (hbx.ext g0)) hML) ?_
  rintro r H2 ⟨hw,g2⟩
  have hk:=hw.known
  obtain ⟨p,q,rfl⟩:=hk
  conv=>whnf
  refine ⟨rfl,_,storeAt_all (vs:=[int (cutI M).base,.slice p (cutI M).out.length (cutI M).out.length,.slice q (cutI M).next.length (cutI M).next.length]) rfl rfl rfl,?_⟩
  conv=>whnf
  exact ⟨(H2.next,_,_),⟨rfl,trivial⟩,⟨rfl,Hp.at_lay_self _ _,(hw.mv.ext (Grows.lay _ _)).bx⟩,rfl⟩
 rintro ⟨N3,b3,H1⟩ φ1 _ ⟨rfl,a3,hb3⟩
 dsimp only at a3 hb3 ⊢
 have hexC:∃ C,cutI M = C:=⟨_,rfl⟩
 obtain ⟨C,eC⟩:=hexC
 rw [eC] at hb3 hC hCC
 clear eC
 conv=>whnf
 refine SeqP.cut (α:=Nat×List Value×Hp) (fun s=>[(4,ptr s.1 0),(3,ptr N3 0)]) (fun s H=>s.2.2 = H∧H.at s.1 = some (.row 25 true s.2.1)∧Bx H s.2.1 C∧Grows H1 H) ?_ ?_
 ·conv=>whnf
  refine ⟨_,all_cells a3 hb3.len,?_⟩
  conv=>whnf
  refine CallP.mono (given_spec _ C _ (Bx.mv hb3) hC.lens) ?_
  rintro r H2 ⟨hw,g2⟩
  rw [hCC] at hw
  have hk:=hw.known
  obtain ⟨p,q,rfl⟩:=hk
  conv=>whnf
  refine ⟨rfl,_,storeAt_all (vs:=[int C.base,.slice p C.out.length C.out.length,.slice q C.next.length C.next.length]) rfl rfl rfl,?_⟩
  conv=>whnf
  exact ⟨(H2.next,_,_),⟨rfl,rfl,trivial⟩,⟨rfl,Hp.at_lay_self _ _,(hw.mv.ext (Grows.lay _ _)).bx,g2.then_lay _⟩,rfl⟩
 rintro ⟨N4,b4,H2⟩ φ2 _ ⟨rfl,a4,hb4,g2⟩
 dsimp only at a4 hb4 g2 ⊢
 have a3:=g2.at_ _ _ a3
 have hb3:=hb3.ext g2
 clear aX hbx g0 g2
 conv=>whnf
 refine SeqP.cut (α:=Bool×Hp) (fun s=>[(5,.bool s.1),(4,ptr N4 0)]) (fun s H=>s.2 = H∧BoolOf s.1 (OkI C)∧Grows H2 H) ?_ ?_
 ·conv=>whnf
  refine ⟨_,all_cells a3 hb3.len,?_⟩
  conv=>whnf
  refine CallP.mono (RCheck_spec _ C _ (Bx.mv hb3) hC.lens.o hC.lens.n) ?_
  rintro _ H3 ⟨⟨x,rfl,hx⟩,g3⟩
  conv=>whnf
  exact ⟨(x,H3),⟨rfl,rfl,trivial⟩,⟨rfl,hx,g3⟩,rfl⟩
 rintro ⟨x,H3⟩ φ3 _ ⟨rfl,hx,g3⟩
 dsimp only at hx g3 ⊢
 have a4:=g3.at_ _ _ a4
 have hb4:=hb4.ext g3
 clear a3 hb3 g3
 conv=>whnf
 refine SeqP.cut (α:=Hp) (fun s=>[(5,.bool x),(4,ptr N4 0)]) (fun s H=>s = H∧Grows H3 H) ?_ ?_
 ·conv=>whnf
  repeat (refine SeqP.go ?_; conv=>whnf)
  refine ⟨_,all_cells a4 hb4.len,?_⟩
  conv=>whnf
  refine CallP.mono (Check_spec _ C _ (Bx.mv hb4) hC.1 hC.2.1 hC.2.2) ?_
  rintro _ H4 ⟨⟨e,rfl,he0,he5⟩,g4⟩
  cases x with
  | true =>
   have:=he0 hx.t
   subst this
   conv=>whnf
   refine cmpT rfl ?_
   conv=>whnf
   refine resP_val (v:=.bool false) (h:=H4) ?_ ?_
   ·show hval _ (aBin E .neq 4 _ _ (.bool true) (.bool true)) = _
    rw [bool_ne]
    rfl
   conv=>whnf
   exact ⟨H4,⟨rfl,rfl,trivial⟩,⟨rfl,g4⟩,rfl⟩
  | false =>
   have:=he5 hx.f
   subst this
   conv=>whnf
   refine cmpF (by omega) ?_
   conv=>whnf
   refine resP_val (v:=.bool false) (h:=H4) ?_ ?_
   ·show hval _ (aBin E .neq 4 _ _ (.bool false) (.bool false)) = _
    rw [bool_ne]
    rfl
   conv=>whnf
   exact ⟨H4,⟨rfl,rfl,trivial⟩,⟨rfl,g4⟩,rfl⟩
 rintro H4 φ4 _ ⟨rfl,g4⟩
 have a4:=g4.at_ _ _ a4
 have hb4:=hb4.ext g4
 clear g4
 cases x with
 | true =>
  conv=>whnf
  repeat (refine SeqP.go ?_; conv=>whnf)
  refine CallP.mono (awake_spec _) ?_
  rintro r H5 ⟨rfl,-⟩
  conv=>whnf
  repeat (refine SeqP.go ?_; conv=>whnf)
  rfl
 | false =>
 have hno:=hx.f
 conv=>whnf
 refine SeqP.cut (α:=Unit) (fun s=>[(4,ptr N4 0)]) (fun s H=>H4 = H) ?_ ?_
 ·conv=>whnf
  repeat (refine SeqP.go ?_; conv=>whnf)
  exact ⟨(),⟨rfl,trivial⟩,rfl,rfl⟩
 rintro _ φ5 _ rfl
 conv=>whnf
 refine SeqP.cut (α:=Unit) (fun s=>[(6,int 50),(4,ptr N4 0)]) (fun s H=>H4 = H) ?_ ?_
 ·conv=>whnf
  exact ⟨(),⟨rfl,rfl,trivial⟩,rfl,rfl⟩
 rintro _ φ6 _ rfl
 conv=>whnf
 refine SeqP.cut (α:=Nat×List Value×Hp) (fun s=>[(7,ptr s.1 0),(6,int 50),(4,ptr N4 0)]) (fun s H=>s.2.2 = H∧H.at s.1 = some (.row 25 true s.2.1)∧Bx H s.2.1 tm.i∧Grows H4 H) ?_ ?_
 ·conv=>whnf
  refine CallP.mono (Morse_spec _) ?_
  rintro w H ⟨hw,g⟩
  have hk:=hw.known
  obtain ⟨a,b,rfl⟩:=hk
  conv=>whnf
  refine ⟨rfl,_,storeAt_all (vs:=[int 2,.slice a _ _,.slice b _ _]) rfl rfl rfl,?_⟩
  conv=>whnf
  exact ⟨(H.next,_,_),⟨rfl,rfl,rfl,trivial⟩,⟨rfl,Hp.at_lay_self _ _,(hw.mv.ext (Grows.lay _ _)).bx,g.then_lay _⟩,rfl⟩
 rintro ⟨N7,b7,K0⟩ φ7 _ ⟨rfl,a7,hb7,g⟩
 dsimp only at a7 hb7 g ⊢
 have a4:=g.at_ _ _ a4
 have hb4:=hb4.ext g
 clear g
 have hno2:¬ OkI tm.i∨¬ OkI C:=.inr hno
 have hno3:¬ OkI C∨¬ OkI tm.i:=.inl hno
 have hTL:LenC tm.i:=tm_s.lens
 conv=>whnf
 refine SeqP.cut (α:=Nat×Hp) (fun q=>[(8,int 0),(9,int 50),(6,int 50),(7,ptr N7 0),(4,ptr N4 0)]) (fun q H=>q.2 = H∧Grows K0 H) ?_ ?_
 ·conv=>whnf
  refine ⟨_,all_cells a4 hb4.len,?_⟩
  conv=>whnf
  refine CallP.mono (At_bad _ C (-1) _ (Bx.mv hb4) hC hno) ?_
  rintro r K ⟨rfl,g⟩
  conv=>whnf
  exact ⟨(0,K),⟨rfl,rfl,rfl,rfl,rfl,trivial⟩,⟨rfl,g⟩,rfl⟩
 rintro ⟨x1,K1⟩ φ8 _ ⟨rfl,g⟩
 dsimp only at g ⊢
 have a4:=g.at_ _ _ a4
 have hb4:=hb4.ext g
 have a7:=g.at_ _ _ a7
 have hb7:=hb7.ext g
 clear g
 conv=>whnf
 refine SeqP.cut (α:=Nat×Hp) (fun q=>[(10,nilS),(11,int 50),(9,int 50),(8,int 0),(6,int 50),(7,ptr N7 0),(4,ptr N4 0)]) (fun q H=>q.2 = H∧Grows K1 H) ?_ ?_
 ·conv=>whnf
  refine ⟨_,all_cells a4 hb4.len,?_⟩
  conv=>whnf
  refine CallP.mono (First_bad _ C (-1) _ (Bx.mv hb4) hC hno) ?_
  rintro r K ⟨rfl,g⟩
  conv=>whnf
  exact ⟨(0,K),⟨rfl,rfl,rfl,rfl,rfl,rfl,rfl,trivial⟩,⟨rfl,g⟩,rfl⟩
 rintro ⟨x2,K2⟩ φ9 _ ⟨rfl,g⟩
 dsimp only at g ⊢
 have a4:=g.at_ _ _ a4
 have hb4:=hb4.ext g
 have a7:=g.at_ _ _ a7
 have hb7:=hb7.ext g
 clear g
 conv=>whnf
 refine SeqP.cut (α:=Nat×Hp) (fun q=>[(12,ptr q.1 0),(13,int 50),(11,int 50),(10,nilS),(9,int 50),(8,int 0),(6,int 50),(7,ptr N7 0),(4,ptr N4 0)]) (fun q H=>q.2 = H∧Grows K2 H∧H.at q.1 = some (.row 25 true [int 0,nilS,nilS])) ?_ ?_
 ·conv=>whnf
  refine ⟨_,all_cells a4 hb4.len,?_⟩
  conv=>whnf
  refine CallP.mono (Form_bad _ C _ (Bx.mv hb4) hC hno) ?_
  rintro r K ⟨rfl,g⟩
  conv=>whnf
  refine ⟨rfl,_,storeAt_all (vs:=[int 0,nilS,nilS]) rfl rfl rfl,?_⟩
  conv=>whnf
  exact ⟨(K.next,_),⟨rfl,rfl,rfl,rfl,rfl,rfl,rfl,rfl,rfl,trivial⟩,⟨rfl,g.then_lay _,Hp.at_lay_self _ _⟩,rfl⟩
 rintro ⟨N12,K3⟩ φ10 _ ⟨rfl,g,r12⟩
 dsimp only at g r12 ⊢
 have a4:=g.at_ _ _ a4
 have hb4:=hb4.ext g
 have a7:=g.at_ _ _ a7
 have hb7:=hb7.ext g
 clear g
 conv=>whnf
 refine SeqP.cut (α:=Nat×Hp) (fun q=>[(14,int 0),(15,.bool false),(16,int 50),(13,int 50),(12,ptr N12 0),(11,int 50),(10,nilS),(9,int 50),(8,int 0),(6,int 50),(7,ptr N7 0),(4,ptr N4 0)]) (fun q H=>q.2 = H∧Grows K3 H) ?_ ?_
 ·conv=>whnf
  refine ⟨_,all_cells a7 hb7.len,?_⟩
  conv=>whnf
  refine ⟨_,all_cells a4 hb4.len,?_⟩
  conv=>whnf
  refine CallP.mono (Same_err _ _ tm.i C _ (Bx.mv hb7) (Bx.mv hb4) hTL hC 50 (by omega) (fun e he=>he.1 hno2)) ?_
  rintro r K ⟨rfl,g⟩
  conv=>whnf
  exact ⟨(0,K),⟨rfl,rfl,rfl,rfl,rfl,rfl,rfl,rfl,rfl,rfl,rfl,rfl,trivial⟩,⟨rfl,g⟩,rfl⟩
 rintro ⟨x4,K4⟩ φ11 _ ⟨rfl,g⟩
 dsimp only at g ⊢
 have r12:=g.at_ _ _ r12
 have a4:=g.at_ _ _ a4
 have hb4:=hb4.ext g
 have a7:=g.at_ _ _ a7
 have hb7:=hb7.ext g
 clear g
 conv=>whnf
 refine SeqP.cut (α:=Nat×Hp) (fun q=>[(17,ptr q.1 0),(18,int 50),(16,int 50),(15,.bool false),(14,int 0),(13,int 50),(12,ptr N12 0),(11,int 50),(10,nilS),(9,int 50),(8,int 0),(6,int 50),(7,ptr N7 0),(4,ptr N4 0)]) (fun q H=>q.2 = H∧Grows K4 H∧H.at q.1 = some (.row 25 true [int 0,nilS,nilS])) ?_ ?_
 ·conv=>whnf
  refine ⟨_,all_cells a4 hb4.len,?_⟩
  conv=>whnf
  refine CallP.mono (Later_bad _ C (-1) _ (Bx.mv hb4) hC hno) ?_
  rintro r K ⟨rfl,g⟩
  conv=>whnf
  refine ⟨rfl,_,storeAt_all (vs:=[int 0,nilS,nilS]) rfl rfl rfl,?_⟩
  conv=>whnf
  exact ⟨(K.next,_),⟨rfl,rfl,rfl,rfl,rfl,rfl,rfl,rfl,rfl,rfl,rfl,rfl,rfl,rfl,trivial⟩,⟨rfl,g.then_lay _,Hp.at_lay_self _ _⟩,rfl⟩
 rintro ⟨N17,K5⟩ φ12 _ ⟨rfl,g,r17⟩
 dsimp only at g r17 ⊢
 have r12:=g.at_ _ _ r12
 have a4:=g.at_ _ _ a4
 have hb4:=hb4.ext g
 have a7:=g.at_ _ _ a7
 have hb7:=hb7.ext g
 clear g
 conv=>whnf
 refine SeqP.cut (α:=Nat×Hp) (fun q=>[(19,ptr q.1 0),(20,int 50),(18,int 50),(17,ptr N17 0),(16,int 50),(15,.bool false),(14,int 0),(13,int 50),(12,ptr N12 0),(11,int 50),(10,nilS),(9,int 50),(8,int 0),(6,int 50),(7,ptr N7 0),(4,ptr N4 0)]) (fun q H=>q.2 = H∧Grows K5 H∧H.at q.1 = some (.row 25 true [int 0,nilS,nilS])) ?_ ?_
 ·conv=>whnf
  refine ⟨_,all_cells a4 hb4.len,?_⟩
  conv=>whnf
  refine CallP.mono (Every_bad _ C 0 0 _ (Bx.mv hb4) hC hno) ?_
  rintro r K ⟨rfl,g⟩
  conv=>whnf
  refine ⟨rfl,_,storeAt_all (vs:=[int 0,nilS,nilS]) rfl rfl rfl,?_⟩
  conv=>whnf
  exact ⟨(K.next,_),⟨rfl,rfl,rfl,rfl,rfl,rfl,rfl,rfl,rfl,rfl,rfl,rfl,rfl,rfl,rfl,rfl,trivial⟩,⟨rfl,g.then_lay _,Hp.at_lay_self _ _⟩,rfl⟩
 rintro ⟨N19,K6⟩ φ13 _ ⟨rfl,g,r19⟩
 dsimp only at g r19 ⊢
 have r12:=g.at_ _ _ r12
 have r17:=g.at_ _ _ r17
 have a4:=g.at_ _ _ a4
 have hb4:=hb4.ext g
 have a7:=g.at_ _ _ a7
 have hb7:=hb7.ext g
 clear g
 conv=>whnf
 refine SeqP.cut (α:=Nat×Hp) (fun q=>[(21,ptr q.1 0),(22,int 50),(20,int 50),(19,ptr N19 0),(18,int 50),(17,ptr N17 0),(16,int 50),(15,.bool false),(14,int 0),(13,int 50),(12,ptr N12 0),(11,int 50),(10,nilS),(9,int 50),(8,int 0),(6,int 50),(7,ptr N7 0),(4,ptr N4 0)]) (fun q H=>q.2 = H∧Grows K6 H∧H.at q.1 = some (.row 25 true [int 0,nilS,nilS])) ?_ ?_
 ·conv=>whnf
  refine ⟨_,all_cells a4 hb4.len,?_⟩
  conv=>whnf
  refine CallP.mono (Map_bad _ C nilS _ (Bx.mv hb4) hC hno) ?_
  rintro r K ⟨rfl,g⟩
  conv=>whnf
  refine ⟨rfl,_,storeAt_all (vs:=[int 0,nilS,nilS]) rfl rfl rfl,?_⟩
  conv=>whnf
  exact ⟨(K.next,_),⟨rfl,rfl,rfl,rfl,rfl,rfl,rfl,rfl,rfl,rfl,rfl,rfl,rfl,rfl,rfl,rfl,rfl,rfl,trivial⟩,⟨rfl,g.then_lay _,Hp.at_lay_self _ _⟩,rfl⟩
 rintro ⟨N21,K7⟩ φ14 _ ⟨rfl,g,r21⟩
 dsimp only at g r21 ⊢
 have r12:=g.at_ _ _ r12
 have r17:=g.at_ _ _ r17
 have r19:=g.at_ _ _ r19
 have a4:=g.at_ _ _ a4
 have hb4:=hb4.ext g
 have a7:=g.at_ _ _ a7
 have hb7:=hb7.ext g
 clear g
 conv=>whnf
 refine SeqP.cut (α:=Nat×Hp) (fun q=>[(23,ptr q.1 0),(24,int 50),(22,int 50),(21,ptr N21 0),(20,int 50),(19,ptr N19 0),(18,int 50),(17,ptr N17 0),(16,int 50),(15,.bool false),(14,int 0),(13,int 50),(12,ptr N12 0),(11,int 50),(10,nilS),(9,int 50),(8,int 0),(6,int 50),(7,ptr N7 0),(4,ptr N4 0)]) (fun q H=>q.2 = H∧Grows K7 H∧H.at q.1 = some (.row 25 true [int 0,nilS,nilS])) ?_ ?_
 ·conv=>whnf
  refine ⟨_,all_cells a7 hb7.len,?_⟩
  conv=>whnf
  refine ⟨_,all_cells a4 hb4.len,?_⟩
  conv=>whnf
  refine CallP.mono (Both_bad _ _ nilS tm.i C _ (Bx.mv hb7) (Bx.mv hb4) hTL hC hno2) ?_
  rintro r K ⟨rfl,g⟩
  conv=>whnf
  refine ⟨rfl,_,storeAt_all (vs:=[int 0,nilS,nilS]) rfl rfl rfl,?_⟩
  conv=>whnf
  exact ⟨(K.next,_),⟨rfl,rfl,rfl,rfl,rfl,rfl,rfl,rfl,rfl,rfl,rfl,rfl,rfl,rfl,rfl,rfl,rfl,rfl,rfl,rfl,trivial⟩,⟨rfl,g.then_lay _,Hp.at_lay_self _ _⟩,rfl⟩
 rintro ⟨N23,K8⟩ φ15 _ ⟨rfl,g,r23⟩
 dsimp only at g r23 ⊢
 have r12:=g.at_ _ _ r12
 have r17:=g.at_ _ _ r17
 have r19:=g.at_ _ _ r19
 have r21:=g.at_ _ _ r21
 have a4:=g.at_ _ _ a4
 have hb4:=hb4.ext g
 have a7:=g.at_ _ _ a7
 have hb7:=hb7.ext g
 clear g
 conv=>whnf
 refine SeqP.cut (α:=Nat×Hp) (fun q=>[(25,ptr q.1 0),(26,int 50),(24,int 50),(23,ptr N23 0),(22,int 50),(21,ptr N21 0),(20,int 50),(19,ptr N19 0),(18,int 50),(17,ptr N17 0),(16,int 50),(15,.bool false),(14,int 0),(13,int 50),(12,ptr N12 0),(11,int 50),(10,nilS),(9,int 50),(8,int 0),(6,int 50),(7,ptr N7 0),(4,ptr N4 0)]) (fun q H=>q.2 = H∧Grows K8 H∧H.at q.1 = some (.row 25 true [int 0,nilS,nilS])) ?_ ?_
 ·conv=>whnf
  refine ⟨_,all_cells a4 hb4.len,?_⟩
  conv=>whnf
  refine CallP.mono (Squared_bad _ C _ (Bx.mv hb4) hC hno) ?_
  rintro r K ⟨rfl,g⟩
  conv=>whnf
  refine ⟨rfl,_,storeAt_all (vs:=[int 0,nilS,nilS]) rfl rfl rfl,?_⟩
  conv=>whnf
  exact ⟨(K.next,_),⟨rfl,rfl,rfl,rfl,rfl,rfl,rfl,rfl,rfl,rfl,rfl,rfl,rfl,rfl,rfl,rfl,rfl,rfl,rfl,rfl,rfl,rfl,trivial⟩,⟨rfl,g.then_lay _,Hp.at_lay_self _ _⟩,rfl⟩
 rintro ⟨N25,K9⟩ φ16 _ ⟨rfl,g,r25⟩
 dsimp only at g r25 ⊢
 have r12:=g.at_ _ _ r12
 have r17:=g.at_ _ _ r17
 have r19:=g.at_ _ _ r19
 have r21:=g.at_ _ _ r21
 have r23:=g.at_ _ _ r23
 have a4:=g.at_ _ _ a4
 have hb4:=hb4.ext g
 have a7:=g.at_ _ _ a7
 have hb7:=hb7.ext g
 clear g
 conv=>whnf
 refine SeqP.cut (α:=Nat×Hp) (fun q=>[(27,.bool false),(28,int 50),(26,int 50),(25,ptr N25 0),(24,int 50),(23,ptr N23 0),(22,int 50),(21,ptr N21 0),(20,int 50),(19,ptr N19 0),(18,int 50),(17,ptr N17 0),(16,int 50),(15,.bool false),(14,int 0),(13,int 50),(12,ptr N12 0),(11,int 50),(10,nilS),(9,int 50),(8,int 0),(6,int 50),(7,ptr N7 0),(4,ptr N4 0)]) (fun q H=>q.2 = H∧Grows K9 H) ?_ ?_
 ·conv=>whnf
  refine ⟨_,all_cells a4 hb4.len,?_⟩
  conv=>whnf
  refine CallP.mono (IsRound_bad _ C (-1) 0 _ (Bx.mv hb4) hC hno) ?_
  rintro r K ⟨rfl,g⟩
  conv=>whnf
  exact ⟨(0,K),⟨rfl,rfl,rfl,rfl,rfl,rfl,rfl,rfl,rfl,rfl,rfl,rfl,rfl,rfl,rfl,rfl,rfl,rfl,rfl,rfl,rfl,rfl,rfl,rfl,trivial⟩,⟨rfl,g⟩,rfl⟩
 rintro ⟨x10,K10⟩ φ17 _ ⟨rfl,g⟩
 dsimp only at g ⊢
 have r12:=g.at_ _ _ r12
 have r17:=g.at_ _ _ r17
 have r19:=g.at_ _ _ r19
 have r21:=g.at_ _ _ r21
 have r23:=g.at_ _ _ r23
 have r25:=g.at_ _ _ r25
 have a4:=g.at_ _ _ a4
 have hb4:=hb4.ext g
 have a7:=g.at_ _ _ a7
 have hb7:=hb7.ext g
 clear g
 conv=>whnf
 refine SeqP.cut (α:=Nat×Hp) (fun q=>[(29,int 0),(30,int 0),(31,.bool false),(32,int 50),(28,int 50),(27,.bool false),(26,int 50),(25,ptr N25 0),(24,int 50),(23,ptr N23 0),(22,int 50),(21,ptr N21 0),(20,int 50),(19,ptr N19 0),(18,int 50),(17,ptr N17 0),(16,int 50),(15,.bool false),(14,int 0),(13,int 50),(12,ptr N12 0),(11,int 50),(10,nilS),(9,int 50),(8,int 0),(6,int 50),(7,ptr N7 0),(4,ptr N4 0)]) (fun q H=>q.2 = H∧Grows K10 H) ?_ ?_
 ·conv=>whnf
  refine ⟨_,all_cells a4 hb4.len,?_⟩
  conv=>whnf
  refine CallP.mono (FindRound_bad _ C _ (Bx.mv hb4) hC hno) ?_
  rintro r K ⟨rfl,g⟩
  conv=>whnf
  exact ⟨(0,K),⟨rfl,rfl,rfl,rfl,rfl,rfl,rfl,rfl,rfl,rfl,rfl,rfl,rfl,rfl,rfl,rfl,rfl,rfl,rfl,rfl,rfl,rfl,rfl,rfl,rfl,rfl,rfl,rfl,trivial⟩,⟨rfl,g⟩,rfl⟩
 rintro ⟨x11,K11⟩ φ18 _ ⟨rfl,g⟩
 dsimp only at g ⊢
 have r12:=g.at_ _ _ r12
 have r17:=g.at_ _ _ r17
 have r19:=g.at_ _ _ r19
 have r21:=g.at_ _ _ r21
 have r23:=g.at_ _ _ r23
 have r25:=g.at_ _ _ r25
 have a4:=g.at_ _ _ a4
 have hb4:=hb4.ext g
 have a7:=g.at_ _ _ a7
 have hb7:=hb7.ext g
 clear g
 conv=>whnf
 refine SeqP.cut (α:=Nat×Hp) (fun q=>[(33,int 0),(34,int 50),(32,int 50),(31,.bool false),(30,int 0),(29,int 0),(28,int 50),(27,.bool false),(26,int 50),(25,ptr N25 0),(24,int 50),(23,ptr N23 0),(22,int 50),(21,ptr N21 0),(20,int 50),(19,ptr N19 0),(18,int 50),(17,ptr N17 0),(16,int 50),(15,.bool false),(14,int 0),(13,int 50),(12,ptr N12 0),(11,int 50),(10,nilS),(9,int 50),(8,int 0),(6,int 50),(7,ptr N7 0),(4,ptr N4 0)]) (fun q H=>q.2 = H∧Grows K11 H) ?_ ?_
 ·conv=>whnf
  refine ⟨_,all_cells a4 hb4.len,?_⟩
  conv=>whnf
  refine CallP.mono (Kernel_bad _ C _ (Bx.mv hb4) hC hno) ?_
  rintro r K ⟨rfl,g⟩
  conv=>whnf
  exact ⟨(0,K),⟨rfl,rfl,rfl,rfl,rfl,rfl,rfl,rfl,rfl,rfl,rfl,rfl,rfl,rfl,rfl,rfl,rfl,rfl,rfl,rfl,rfl,rfl,rfl,rfl,rfl,rfl,rfl,rfl,rfl,rfl,trivial⟩,⟨rfl,g⟩,rfl⟩
 rintro ⟨x12,K12⟩ φ19 _ ⟨rfl,g⟩
 dsimp only at g ⊢
 have r12:=g.at_ _ _ r12
 have r17:=g.at_ _ _ r17
 have r19:=g.at_ _ _ r19
 have r21:=g.at_ _ _ r21
 have r23:=g.at_ _ _ r23
 have r25:=g.at_ _ _ r25
 have a4:=g.at_ _ _ a4
 have hb4:=hb4.ext g
 have a7:=g.at_ _ _ a7
 have hb7:=hb7.ext g
 clear g
 conv=>whnf
 refine SeqP.cut (α:=Nat×Hp) (fun q=>[(35,int 0),(36,.bool false),(37,int 50),(34,int 50),(33,int 0),(32,int 50),(31,.bool false),(30,int 0),(29,int 0),(28,int 50),(27,.bool false),(26,int 50),(25,ptr N25 0),(24,int 50),(23,ptr N23 0),(22,int 50),(21,ptr N21 0),(20,int 50),(19,ptr N19 0),(18,int 50),(17,ptr N17 0),(16,int 50),(15,.bool false),(14,int 0),(13,int 50),(12,ptr N12 0),(11,int 50),(10,nilS),(9,int 50),(8,int 0),(6,int 50),(7,ptr N7 0),(4,ptr N4 0)]) (fun q H=>q.2 = H∧Grows K12 H) ?_ ?_
 ·conv=>whnf
  refine ⟨_,all_cells a4 hb4.len,?_⟩
  conv=>whnf
  refine CallP.mono (Ever_bad _ C (-1) _ (Bx.mv hb4) hC hno) ?_
  rintro r K ⟨rfl,g⟩
  conv=>whnf
  exact ⟨(0,K),⟨rfl,rfl,rfl,rfl,rfl,rfl,rfl,rfl,rfl,rfl,rfl,rfl,rfl,rfl,rfl,rfl,rfl,rfl,rfl,rfl,rfl,rfl,rfl,rfl,rfl,rfl,rfl,rfl,rfl,rfl,rfl,rfl,rfl,trivial⟩,⟨rfl,g⟩,rfl⟩
 rintro ⟨x13,K13⟩ φ20 _ ⟨rfl,g⟩
 dsimp only at g ⊢
 have r12:=g.at_ _ _ r12
 have r17:=g.at_ _ _ r17
 have r19:=g.at_ _ _ r19
 have r21:=g.at_ _ _ r21
 have r23:=g.at_ _ _ r23
 have r25:=g.at_ _ _ r25
 have a4:=g.at_ _ _ a4
 have hb4:=hb4.ext g
 have a7:=g.at_ _ _ a7
 have hb7:=hb7.ext g
 clear g
 conv=>whnf
 refine SeqP.cut (α:=Nat×Hp) (fun q=>[(38,int 0),(39,.bool false),(40,int 50),(37,int 50),(36,.bool false),(35,int 0),(34,int 50),(33,int 0),(32,int 50),(31,.bool false),(30,int 0),(29,int 0),(28,int 50),(27,.bool false),(26,int 50),(25,ptr N25 0),(24,int 50),(23,ptr N23 0),(22,int 50),(21,ptr N21 0),(20,int 50),(19,ptr N19 0),(18,int 50),(17,ptr N17 0),(16,int 50),(15,.bool false),(14,int 0),(13,int 50),(12,ptr N12 0),(11,int 50),(10,nilS),(9,int 50),(8,int 0),(6,int 50),(7,ptr N7 0),(4,ptr N4 0)]) (fun q H=>q.2 = H∧Grows K13 H) ?_ ?_
 ·conv=>whnf
  refine ⟨_,all_cells a4 hb4.len,?_⟩
  conv=>whnf
  refine ⟨_,all_cells a7 hb7.len,?_⟩
  conv=>whnf
  refine CallP.mono (Same_err _ _ C tm.i _ (Bx.mv hb4) (Bx.mv hb7) hC hTL 50 (by omega) (fun e he=>he.1 hno3)) ?_
  rintro r K ⟨rfl,g⟩
  conv=>whnf
  exact ⟨(0,K),⟨rfl,rfl,rfl,rfl,rfl,rfl,rfl,rfl,rfl,rfl,rfl,rfl,rfl,rfl,rfl,rfl,rfl,rfl,rfl,rfl,rfl,rfl,rfl,rfl,rfl,rfl,rfl,rfl,rfl,rfl,rfl,rfl,rfl,rfl,rfl,rfl,trivial⟩,⟨rfl,g⟩,rfl⟩
 rintro ⟨x14,K14⟩ φ21 _ ⟨rfl,g⟩
 dsimp only at g ⊢
 have r12:=g.at_ _ _ r12
 have r17:=g.at_ _ _ r17
 have r19:=g.at_ _ _ r19
 have r21:=g.at_ _ _ r21
 have r23:=g.at_ _ _ r23
 have r25:=g.at_ _ _ r25
 have a4:=g.at_ _ _ a4
 have hb4:=hb4.ext g
 have a7:=g.at_ _ _ a7
 have hb7:=hb7.ext g
 clear g
 conv=>whnf
 repeat (refine SeqP.go ?_; conv=>whnf)
 refine ⟨_,all_cells a4 hb4.len,?_⟩
 conv=>whnf
 refine CallP.mono (Check_spec _ C _ (Bx.mv hb4) hC.1 hC.2.1 hC.2.2) ?_
 rintro _ L0 ⟨⟨e,rfl,-,he5⟩,g⟩
 have:=he5 hno
 subst this
 have r12:=g.at_ _ _ r12
 have r17:=g.at_ _ _ r17
 have r19:=g.at_ _ _ r19
 have r21:=g.at_ _ _ r21
 have r23:=g.at_ _ _ r23
 have r25:=g.at_ _ _ r25
 clear g a4 hb4 a7 hb7
 conv=>whnf
 refine cmpT rfl ?_
 conv=>whnf
 refine cmpT rfl ?_
 conv=>whnf
 refine cmpT rfl ?_
 conv=>whnf
 refine cmpT rfl ?_
 conv=>whnf
 refine cmpT rfl ?_
 conv=>whnf
 refine cmpT rfl ?_
 conv=>whnf
 refine cmpT rfl ?_
 conv=>whnf
 refine cmpT rfl ?_
 conv=>whnf
 refine cmpT rfl ?_
 conv=>whnf
 refine cmpT rfl ?_
 conv=>whnf
 refine cmpT rfl ?_
 conv=>whnf
 refine cmpT rfl ?_
 conv=>whnf
 refine cmpT rfl ?_
 conv=>whnf
 refine cmpT rfl ?_
 conv=>whnf
 refine cmpT rfl ?_
 conv=>whnf
 refine ⟨_,all_cells r12 rfl,?_⟩
 conv=>whnf
 refine CallP.mono (empty_spec _ no0 _ (noM_mv _)) ?_
 rintro _ L1 ⟨⟨x12,rfl,hx12⟩,g⟩
 cases x12 with
 | false=>exact absurd rfl hx12.f
 | true =>
 have r17:=g.at_ _ _ r17
 have r19:=g.at_ _ _ r19
 have r21:=g.at_ _ _ r21
 have r23:=g.at_ _ _ r23
 have r25:=g.at_ _ _ r25
 clear g
 conv=>whnf
 refine ⟨_,all_cells r17 rfl,?_⟩
 conv=>whnf
 refine CallP.mono (empty_spec _ no0 _ (noM_mv _)) ?_
 rintro _ L2 ⟨⟨x17,rfl,hx17⟩,g⟩
 cases x17 with
 | false=>exact absurd rfl hx17.f
 | true =>
 have r19:=g.at_ _ _ r19
 have r21:=g.at_ _ _ r21
 have r23:=g.at_ _ _ r23
 have r25:=g.at_ _ _ r25
 clear g
 conv=>whnf
 refine ⟨_,all_cells r19 rfl,?_⟩
 conv=>whnf
 refine CallP.mono (empty_spec _ no0 _ (noM_mv _)) ?_
 rintro _ L3 ⟨⟨x19,rfl,hx19⟩,g⟩
 cases x19 with
 | false=>exact absurd rfl hx19.f
 | true =>
 have r21:=g.at_ _ _ r21
 have r23:=g.at_ _ _ r23
 have r25:=g.at_ _ _ r25
 clear g
 conv=>whnf
 refine ⟨_,all_cells r21 rfl,?_⟩
 conv=>whnf
 refine CallP.mono (empty_spec _ no0 _ (noM_mv _)) ?_
 rintro _ L4 ⟨⟨x21,rfl,hx21⟩,g⟩
 cases x21 with
 | false=>exact absurd rfl hx21.f
 | true =>
 have r23:=g.at_ _ _ r23
 have r25:=g.at_ _ _ r25
 clear g
 conv=>whnf
 refine ⟨_,all_cells r23 rfl,?_⟩
 conv=>whnf
 refine CallP.mono (empty_spec _ no0 _ (noM_mv _)) ?_
 rintro _ L5 ⟨⟨x23,rfl,hx23⟩,g⟩
 cases x23 with
 | false=>exact absurd rfl hx23.f
 | true =>
 have r25:=g.at_ _ _ r25
 clear g
 conv=>whnf
 refine ⟨_,all_cells r25 rfl,?_⟩
 conv=>whnf
 refine CallP.mono (empty_spec _ no0 _ (noM_mv _)) ?_
 rintro _ L6 ⟨⟨x25,rfl,hx25⟩,g⟩
 cases x25 with
 | false=>exact absurd rfl hx25.f
 | true =>
 clear g
 conv=>whnf
 refine ⟨(0:Int),wie (by omega) (by omega),?_⟩
 conv=>whnf
 refine ⟨(0:Int),wie (by omega) (by omega),?_⟩
 conv=>whnf
 refine ⟨(0:Int),wie (by omega) (by omega),?_⟩
 conv=>whnf
 refine ⟨(0:Int),wie (by omega) (by omega),?_⟩
 conv=>whnf
 refine cmpT rfl ?_
 conv=>whnf
 refine cmpT rfl ?_
 conv=>whnf
 refine cmpT rfl ?_
 conv=>whnf
 refine CallP.mono (awake_spec _) ?_
 rintro r L9 ⟨rfl,-⟩
 conv=>whnf
 repeat (refine SeqP.go ?_; conv=>whnf)
 rfl
end
end Go.Proofs.Ytedneplaibmppaa
