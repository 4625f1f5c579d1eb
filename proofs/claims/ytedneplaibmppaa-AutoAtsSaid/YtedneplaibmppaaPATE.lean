/- Contracts of the functions that PATE comes to. -/
import Derived.Test.YtedneplaibmppaaPATD
import Derived.Test.YtedneplaibmppaaAAwake
import Derived.Test.YtedneplaibmppaaWx19
import Derived.Test.YtedneplaibmppaaWx22
import Derived.Test.YtedneplaibmppaaWx23
set_option maxRecDepth 100000
set_option maxHeartbeats 2000000
set_option linter.unusedVariables false
set_option linter.unusedSectionVars false
set_option linter.unusedSimpArgs false
namespace Go.Proofs.Ytedneplaibmppaa
open Go.Rx Go.RowKit
theorem gl_set (ls:List Int) (i:Nat) (v:Int) (hi:i < ls.length) (j:Nat):gl (ls.set i v) j = if j = i then v else gl ls j:=by
 unfold gl
 rw [List.getD_eq_getElem?_getD,List.getD_eq_getElem?_getD]
 by_cases h:j = i
 ·subst h
  rw [if_pos rfl,List.getElem?_set_self hi]
  rfl
 ·rw [if_neg h,List.getElem?_set_ne (by omega)]
theorem list_gl {a b:List Int} (hl:a.length = b.length) (h:∀ j,j < a.length→gl a j = gl b j):a = b:=by
 refine List.ext_getElem hl fun i h1 h2=>?_
 have:=h i h1
 rw [gl_at h1,gl_at h2] at this
 exact this
theorem times_rep (z:Int) (n:Nat):times [int z] n = (List.replicate n z).map int:=by
 rw [times_zero]
 unfold rowF
 rw [List.map_replicate,List.map_const',List.length_range]
theorem row_view {H:Hp} {r n:Nat} {e:TypeId} {ls:List Int} (a:H.at r = some (.row e true (ls.map int))) (hl:ls.length = n):View H (slc r 0 n n) ls:=by
 subst hl
 exact Built.view (h0:=⟨0,H.raw⟩) (e:=e) (.inr ⟨r,rfl,Nat.zero_le _,true,a⟩)
theorem pow5 {b k:Nat} (hb:b≤5) (hk:k≤12):b ^ k≤300000000:=by
 have h1:b ^ k≤5 ^ k:=Nat.pow_le_pow_left hb k
 have h2:5 ^ k≤5 ^ 12:=Nat.pow_le_pow_right (by omega) hk
 have h3:5 ^ 12 = 244140625:=rfl
 omega
attribute [local irreducible] E idxN cellAt cellsAt storeAt callable helems hmoved lookIn findKey keyOk hentries Hp.at Hp.set Hp.lay arBits hupdated setAt CallP YieldP BoolOf IsWrap Rnd LoopP AppP CutP Int.tmod Int.tdiv Int.fdiv
section
variable [Unknowns]
attribute [local irreducible] sameAt
theorem longer_spec (v:Value) (al:Option Addr) (cl:Nat) (ls:List Int) (m:Mac) (s:Nat) (h:Hp) (hv:MV h v m.i) (hm:m.Ok) (hb:m.base≤5) (hl:m.out.length≤1000) (hs:s < m.out.length) (hlv:View h (.slice al ls.length cl) ls) (hll:ls.length = m.out.length) (hbd:∀ j,j < m.out.length→-1≤gl ls j∧gl ls j≤300000000):CallP E 98 [v,.slice al ls.length cl,int s] h (fun r h'=>r = int (m.longF ls s m.base)∧Grows h h'):=by
 obtain ⟨bx,rfl,hbx⟩:=hv.box
 obtain ⟨ao,an,co,cn,hcx⟩:=hbx.cx
 have hb1:=hm.b1
 have hil:=hm.ilen
 refine enter98 (by simp) ?_
 conv=>whnf
 refine SeqP.cut (α:=Hp) (fun _=>[(6,int 0),(3,ptr h.next 0),(2,int s),(1,.slice al ls.length cl)]) (fun x H=>x = H∧Grows h H∧H.at h.next = some (.row 25 true bx)) ?_ ?_
 ·conv=>whnf
  exact ⟨_,⟨rfl,rfl,rfl,rfl,trivial⟩,⟨rfl,Grows.lay _ _,Hp.at_lay_self _ _⟩,rfl⟩
 rintro H φ1 _ ⟨rfl,gH,aX⟩
 have kx:=hcx H h.next 25 gH aX
 have c0:cellAt H h.next 0 = some (int (m.base:Int)):=kx.c0
 have c2:=kx.c2
 have hvH:=hlv.ext gH
 conv=>whnf
 refine SeqP.go ?_
 conv=>whnf
 refine SeqP.cut (α:=Unit) (fun _=>[(7,int (m.longF ls s m.base)),(6,int 0)]) (fun _ H2=>H = H2) ?_ ?_
 rotate_left
 ·rintro _ φ2 _ rfl
  conv=>whnf
  repeat (refine SeqP.go ?_; conv=>whnf)
  exact ⟨rfl,gH⟩
 have hrw:=kx.rowAt (i:=s) (by rw [hil]; exact hs)
 obtain ⟨r1,o1,sp1,a',c',rfl,hsp1,hc1,hvr⟩:=hrw
 have erl:(rw_ m.i.next s).length = m.base:=hm.irow hs
 rw [erl] at hc1 hvr
 conv=>whnf
 repeat (refine SeqP.go ?_; conv=>whnf)
 refine ⟨_,c2,?_⟩
 conv=>whnf
 refine ⟨hsp1,⟨by omega,by omega⟩,?_⟩
 conv=>whnf
 refine ⟨_,hc1,?_⟩
 conv=>whnf
 repeat (refine SeqP.go ?_; conv=>whnf)
 refine loop_inv (α:=Nat) (fun d=>[(7,int (m.longF ls s d)),(17,int d),(16,int m.base),(15,.slice a' m.base c'),(3,ptr h.next 0),(2,int s),(1,.slice al ls.length cl),(6,int 0)]) (fun _=>H) (fun d=>d≤m.base) (fun d=>m.base - d) 0 (Nat.zero_le _) ⟨rfl,rfl,rfl,rfl,rfl,rfl,rfl,rfl,trivial⟩ (Hp.Le.refl _) ?_
 rintro d φ3 hd
 conv=>whnf
 repeat (refine SeqP.go ?_; conv=>whnf)
 refine cmpB (fun hlt=>?_) (fun hlt=>?_)
 rotate_left
 ·conv=>whnf
  repeat (refine SeqP.go ?_; conv=>whnf)
  have:d = m.base:=by omega
  subst this
  repeat (refine SeqP.go ?_; conv=>whnf)
  exact ⟨(),⟨rfl,rfl,trivial⟩,rfl,rfl⟩
 have hd':d < m.base:=by omega
 have hnx:=View.cellg hvr (i:=d) (by rw [erl]; exact hd')
 obtain ⟨r2,o2,sp2,ea,hsp2,-,hc2⟩:=hnx
 subst ea
 rw [Mac.i_nx] at hc2
 have hn:=hm.lt s d hs hd'
 have hexn:∃ t,m.nx s d = t:=⟨_,rfl⟩
 obtain ⟨t,et⟩:=hexn
 have hlF:m.longF ls s (d + 1) = if gl ls t < 0 then m.longF ls s d else if m.longF ls s d < 0∨gl ls t * m.base + d < m.longF ls s d then gl ls t * m.base + d else m.longF ls s d:=by rw [← et]; rfl
 rw [et] at hc2 hn
 have hcl:=View.cellg hvH (i:=t) (by omega)
 obtain ⟨r3,o3,sp3,ea,hsp3,-,hc3⟩:=hcl
 subst ea
 have hG:=hbd t hn
 have hexG:∃ G,gl ls t = G:=⟨_,rfl⟩
 obtain ⟨G,eG⟩:=hexG
 rw [eG] at hG hc3 hlF
 have hexL:∃ L,m.longF ls s d = L:=⟨_,rfl⟩
 obtain ⟨L,eL⟩:=hexL
 rw [eL] at hlF
 rw [eL]
 conv=>whnf
 repeat (refine SeqP.go ?_; conv=>whnf)
 refine ⟨hsp2,⟨by omega,by omega⟩,?_⟩
 conv=>whnf
 refine ⟨_,hc2,?_⟩
 conv=>whnf
 repeat (refine SeqP.go ?_; conv=>whnf)
 refine ⟨hsp3,⟨by omega,by omega⟩,?_⟩
 conv=>whnf
 refine ⟨_,hc3,?_⟩
 conv=>whnf
 by_cases hneg:G < 0
 ·rw [if_pos hneg] at hlF
  refine cmpT hneg ?_
  conv=>whnf
  repeat (refine SeqP.go ?_; conv=>whnf)
  refine ⟨_,wid (by omega),?_⟩
  conv=>whnf
  refine Rnd.mk (d + 1) (by show d + 1≤_; omega) (by show m.base - (d + 1) < m.base - d; omega) ⟨congrArg int hlF.symm,rfl,rfl,rfl,rfl,rfl,rfl,rfl,trivial⟩ (Hp.Le.refl _) rfl
 rw [if_neg hneg] at hlF
 refine cmpF hneg ?_
 conv=>whnf
 have hmul1:=Int.mul_nonneg (show 0≤G by omega) (Int.natCast_nonneg m.base)
 have hmul2:=Int.mul_le_mul hG.2 (show (m.base:Int)≤5 by omega) (Int.natCast_nonneg m.base) (by omega)
 have hexP:∃ P,G * (m.base:Int) = P:=⟨_,rfl⟩
 obtain ⟨P,eP⟩:=hexP
 rw [eP] at hmul1 hmul2 hlF
 repeat (refine SeqP.go ?_; conv=>whnf)
 refine ⟨hsp3,⟨by omega,by omega⟩,?_⟩
 conv=>whnf
 refine ⟨_,hc3,?_⟩
 conv=>whnf
 refine ⟨_,c0,?_⟩
 conv=>whnf
 refine ⟨P,wie eP (by omega),?_⟩
 conv=>whnf
 refine ⟨P + d,wie (by omega) (by omega),?_⟩
 conv=>whnf
 repeat (refine SeqP.go ?_; conv=>whnf)
 refine cmpB (fun hL=>?_) (fun hL=>?_)
 ·rw [if_pos (.inl hL)] at hlF
  conv=>whnf
  repeat (refine SeqP.go ?_; conv=>whnf)
  refine ⟨_,wid (by omega),?_⟩
  conv=>whnf
  exact Rnd.mk (d + 1) (by show d + 1≤_; omega) (by show m.base - (d + 1) < m.base - d; omega) ⟨congrArg int hlF.symm,rfl,rfl,rfl,rfl,rfl,rfl,rfl,trivial⟩ (Hp.Le.refl _) rfl
 ·conv=>whnf
  refine cmpB (fun hL2=>?_) (fun hL2=>?_)
  ·rw [if_pos (.inr hL2)] at hlF
   conv=>whnf
   repeat (refine SeqP.go ?_; conv=>whnf)
   refine ⟨_,wid (by omega),?_⟩
   conv=>whnf
   exact Rnd.mk (d + 1) (by show d + 1≤_; omega) (by show m.base - (d + 1) < m.base - d; omega) ⟨congrArg int hlF.symm,rfl,rfl,rfl,rfl,rfl,rfl,rfl,trivial⟩ (Hp.Le.refl _) rfl
  ·rw [if_neg (by omega)] at hlF
   conv=>whnf
   repeat (refine SeqP.go ?_; conv=>whnf)
   refine ⟨_,wid (by omega),?_⟩
   conv=>whnf
   exact Rnd.mk (d + 1) (by show d + 1≤_; omega) (by show m.base - (d + 1) < m.base - d; omega) ⟨congrArg int hlF.symm,rfl,rfl,rfl,rfl,rfl,rfl,rfl,trivial⟩ (Hp.Le.refl _) rfl
theorem ever_spec (v:Value) (m:Mac) (out:Int) (h:Hp) (hv:MV h v m.i) (hm:OkS m):CallP E 80 [v,int out] h (fun r h'=>(∃ b,r = .tuple ⟨[int (max (gl (m.evK out m.out.length) 0) 0),.bool b]⟩∧BoolOf b (0≤gl (m.evK out m.out.length) 0))∧Grows h h'):=by
 obtain ⟨bx,rfl,hbx⟩:=hv.box
 obtain ⟨ao,an,co,cn,hcx⟩:=hbx.cx
 have hlenx:=hbx.len
 have hn12:=hm.n12
 have hn1:=hm.ok.n1
 have hb5:=hm.b5
 have hexn:∃ n,m.out.length = n:=⟨_,rfl⟩
 obtain ⟨n,en⟩:=hexn
 rw [en] at hn12 hn1
 have bd:∀ k,k≤n→∀ j,j < n→-1≤gl (m.evK out k) j∧gl (m.evK out k) j≤300000000:=fun k hk j hj=>by
  have h1:=Mac.evK_bd hm.ok out (k:=k) (s:=j) (by omega)
  have h2:=pow5 hb5 (k:=k) (by omega)
  omega
 refine enter80 (by simp) ?_
 conv=>whnf
 refine SeqP.cut (α:=Hp) (fun _=>[(2,ptr h.next 0),(1,int out)]) (fun x H=>x = H∧Grows h H∧H.at h.next = some (.row 25 true bx)) ?_ ?_
 ·conv=>whnf
  exact ⟨_,⟨rfl,rfl,trivial⟩,⟨rfl,Grows.lay _ _,Hp.at_lay_self _ _⟩,rfl⟩
 rintro H φ1 _ ⟨rfl,gH,aX⟩
 have kxH:∀ H2,Grows H H2→Cx H2 h.next m.i ao an co cn:=fun H2 g=>hcx H2 h.next 25 (gH.trans g) (g.at_ _ _ aX)
 have c1H:∀ H2,Grows H H2→cellAt H2 h.next 1 = some (.slice ao n co):=fun H2 g=>by rw [← en]; exact (kxH H2 g).c1
 conv=>whnf
 refine SeqP.cut (α:=Hp) (fun _=>[(6,slc H.next 0 n n),(2,ptr h.next 0),(1,int out)]) (fun x H2=>x = H2∧Grows H H2∧H2.at H.next = some (.row 2 true ((List.replicate n 0).map int))) ?_ ?_
 ·conv=>whnf
  refine ⟨_,c1H _ (.refl _),?_⟩
  conv=>whnf
  refine ⟨⟨by omega,by omega,by omega,by omega⟩,?_⟩
  conv=>whnf
  refine ⟨_,⟨rfl,rfl,rfl,trivial⟩,⟨rfl,Grows.lay _ _,?_⟩,rfl⟩
  rw [← times_rep]
  exact Hp.at_lay_self _ _
 rintro H2 φ2 _ ⟨rfl,g2,aF⟩
 conv=>whnf
 refine SeqP.cut (α:=Hp) (fun _=>[(6,slc H.next 0 n n),(2,ptr h.next 0),(1,int out)]) (fun x H3=>x = H3∧Grows H H3∧H3.at H.next = some (.row 2 true ((m.evK out 0).map int))) ?_ ?_
 ·conv=>whnf
  repeat (refine SeqP.go ?_; conv=>whnf)
  refine ⟨_,c1H _ g2,?_⟩
  conv=>whnf
  repeat (refine SeqP.go ?_; conv=>whnf)
  refine loop_inv (α:=Nat×List Int×Hp) (fun s=>[(18,int s.1),(17,int n),(16,.slice ao n co),(6,slc H.next 0 n n),(2,ptr h.next 0),(1,int out)]) (fun s=>s.2.2) (fun s=>s.1≤n∧s.2.1.length = n∧(∀ j,j < s.1→gl s.2.1 j = if m.o j = out then 0 else -1)∧Grows H s.2.2∧s.2.2.at H.next = some (.row 2 true (s.2.1.map int))) (fun s=>n - s.1) (0,List.replicate n 0,_) ⟨Nat.zero_le _,List.length_replicate,fun j hj=>absurd hj (Nat.not_lt_zero _),g2,aF⟩ ⟨rfl,rfl,rfl,rfl,rfl,rfl,trivial⟩ (Hp.Le.refl _) ?_
  rintro ⟨i,ls,G⟩ φ3 ⟨hi,hls,hval_,gG,aG⟩
  dsimp only at hi hls hval_ gG aG ⊢
  conv=>whnf
  repeat (refine SeqP.go ?_; conv=>whnf)
  refine cmpB (fun hlt=>?_) (fun hlt=>?_)
  rotate_left
  ·conv=>whnf
   repeat (refine SeqP.go ?_; conv=>whnf)
   have:i = n:=by omega
   subst this
   refine ⟨G,⟨rfl,rfl,rfl,trivial⟩,⟨rfl,gG,?_⟩,rfl⟩
   have e:m.evK out 0 = ls:=list_gl (by rw [Mac.evK_len,hls,en]) fun j hj=>by
    rw [Mac.evK_len,en] at hj
    rw [hval_ j hj,gl_at (by rw [Mac.evK_len,en]; exact hj)]
    have e2:m.o j = m.out[j]:=gl_at (by rw [en]; exact hj)
    simp [Mac.evK,e2]
   rw [e]
   exact aG
  have hi':i < n:=by omega
  have hol:=(kxH G gG).outM (s:=i) (by omega)
  obtain ⟨r2,o2,sp2,ea,hsp2,hc2⟩:=hol
  subst ea
  have aG1:(G.set H.next (.row 2 true ((ls.map int).set i (int (-1))))).at H.next = some (.row 2 true ((ls.set i (-1)).map int)):=by
   rw [List.map_set]
   exact Hp.at_set_self _ (Hp.lt_of_at aG)
  have gG1:Grows H (G.set H.next (.row 2 true ((ls.map int).set i (int (-1))))):=gG.then_set _ (Nat.le_refl _)
  refine ⟨hsp2,⟨by omega,by omega⟩,?_⟩
  conv=>whnf
  refine ⟨_,hc2,?_⟩
  conv=>whnf
  repeat (refine SeqP.go ?_; conv=>whnf)
  refine ⟨rfl,⟨by omega,by omega⟩,?_⟩
  conv=>whnf
  refine ⟨rfl,_,storeAt_off aG (by rw [List.length_map,Int.toNat_natCast]; omega) rfl,?_⟩
  conv=>whnf
  repeat (refine SeqP.go ?_; conv=>whnf)
  refine cmpB (fun heq=>?_) (fun heq=>?_)
  ·conv=>whnf
   repeat (refine SeqP.go ?_; conv=>whnf)
   refine ⟨rfl,⟨by omega,by omega⟩,?_⟩
   conv=>whnf
   refine ⟨rfl,_,storeAt_off aG1 (by rw [List.length_map,List.length_set,Int.toNat_natCast]; omega) rfl,?_⟩
   conv=>whnf
   repeat (refine SeqP.go ?_; conv=>whnf)
   refine ⟨_,wid (by omega),?_⟩
   conv=>whnf
   refine Rnd.mk (i + 1,(ls.set i (-1)).set i 0,_) ⟨by show i + 1≤_; omega,?_,?_,gG1.then_set (.row 2 true (((ls.set i (-1)).map int).set i (int 0))) (Nat.le_refl _),?_⟩ (by show n - (i + 1) < n - i; omega) ⟨rfl,rfl,rfl,rfl,rfl,rfl,trivial⟩ (Hp.Le.refl _) rfl
   ·show ((ls.set i (-1)).set i 0).length = n
    rw [List.length_set,List.length_set,hls]
   ·intro j hj
    show gl ((ls.set i (-1)).set i 0) j = _
    rw [gl_set _ _ _ (by rw [List.length_set]; omega)]
    by_cases e:j = i
    ·subst e; rw [if_pos rfl,if_pos heq]
    ·rw [if_neg e,gl_set _ _ _ (by omega),if_neg e]
     exact hval_ j (by have:j < i + 1:=hj; omega)
   ·show (Hp.set _ _ _).at H.next = some (.row 2 true (((ls.set i (-1)).set i 0).map int))
    rw [show ((ls.set i (-1)).set i 0).map int = ((ls.set i (-1)).map int).set i (int 0) from List.map_set]
    exact Hp.at_set_self _ (Hp.lt_of_at aG1)
  ·conv=>whnf
   repeat (refine SeqP.go ?_; conv=>whnf)
   refine ⟨_,wid (by omega),?_⟩
   conv=>whnf
   refine Rnd.mk (i + 1,ls.set i (-1),_) ⟨by show i + 1≤_; omega,?_,?_,gG1,aG1⟩ (by show n - (i + 1) < n - i; omega) ⟨rfl,rfl,rfl,rfl,rfl,rfl,trivial⟩ (Hp.Le.refl _) rfl
   ·show (ls.set i (-1)).length = n
    rw [List.length_set,hls]
   ·intro j hj
    show gl (ls.set i (-1)) j = _
    rw [gl_set _ _ _ (by omega)]
    by_cases e:j = i
    ·subst e; rw [if_pos rfl,if_neg heq]
    ·rw [if_neg e]
     exact hval_ j (by have:j < i + 1:=hj; omega)
 rintro H3 φ3 _ ⟨rfl,g3,a3⟩
 conv=>whnf
 refine SeqP.cut (α:=Nat×Hp) (fun s=>[(6,slc s.1 0 n n)]) (fun s H4=>s.2 = H4∧Grows H s.2∧s.2.at s.1 = some (.row 2 true ((m.evK out n).map int))) ?_ ?_
 rotate_left
 ·rintro ⟨r,H4⟩ φ4 _ ⟨rfl,g4,a4⟩
  dsimp only at g4 a4 ⊢
  have hvw:=View.cellg (row_view a4 (by rw [Mac.evK_len,en])) (i:=0) (by rw [Mac.evK_len]; omega)
  obtain ⟨r5,o5,sp5,ea,hsp5,-,hc5⟩:=hvw
  injection ea with ea
  injection ea with e1 e2 e3
  subst e1; subst e2; subst e3
  have hexx:∃ x,gl (m.evK out n) 0 = x:=⟨_,rfl⟩
  obtain ⟨x,ex⟩:=hexx
  rw [ex] at hc5
  have hbx_:=bd n (Nat.le_refl _) 0 hn1
  rw [ex] at hbx_
  rw [en,ex]
  conv=>whnf
  repeat (refine SeqP.go ?_; conv=>whnf)
  refine ⟨hsp5,⟨by omega,by omega⟩,?_⟩
  conv=>whnf
  refine ⟨_,hc5,?_⟩
  conv=>whnf
  refine ⟨hsp5,⟨by omega,by omega⟩,?_⟩
  conv=>whnf
  refine ⟨_,hc5,?_⟩
  conv=>whnf
  refine cmpB (fun hge=>?_) (fun hge=>?_)
  ·conv=>whnf
   repeat (refine SeqP.go ?_; conv=>whnf)
   exact ⟨⟨true,congrArg (fun z=>Value.tuple ⟨[z,.bool true]⟩) (max_eq3 x 0),bo_yes hge⟩,gH.trans g4⟩
  ·conv=>whnf
   repeat (refine SeqP.go ?_; conv=>whnf)
   exact ⟨⟨false,congrArg (fun z=>Value.tuple ⟨[z,.bool false]⟩) (max_eq3 x 0),bo_no hge⟩,gH.trans g4⟩
 conv=>whnf
 repeat (refine SeqP.go ?_; conv=>whnf)
 refine ⟨_,c1H _ g3,?_⟩
 conv=>whnf
 repeat (refine SeqP.go ?_; conv=>whnf)
 refine loop_inv (α:=Nat×Nat×Hp) (fun s=>[(36,int s.1),(35,int n),(34,.slice ao n co),(6,slc s.2.1 0 n n),(2,ptr h.next 0),(1,int out)]) (fun s=>s.2.2) (fun s=>s.1≤n∧Grows H s.2.2∧s.2.2.at s.2.1 = some (.row 2 true ((m.evK out s.1).map int))) (fun s=>n - s.1) (0,H.next,H3) ⟨Nat.zero_le _,g3,a3⟩ ⟨rfl,rfl,rfl,rfl,rfl,rfl,trivial⟩ (Hp.Le.refl _) ?_
 rintro ⟨k,r,G⟩ φ4 ⟨hk,gG,aG⟩
 dsimp only at hk gG aG ⊢
 conv=>whnf
 repeat (refine SeqP.go ?_; conv=>whnf)
 refine cmpB (fun hlt=>?_) (fun hlt=>?_)
 rotate_left
 ·conv=>whnf
  repeat (refine SeqP.go ?_; conv=>whnf)
  have:k = n:=by omega
  subst this
  exact ⟨(r,G),⟨rfl,trivial⟩,⟨rfl,gG,aG⟩,rfl⟩
 have hk':k < n:=by omega
 conv=>whnf
 refine SeqP.go ?_
 conv=>whnf
 refine SeqP.go ?_
 conv=>whnf
 refine SeqP.cut (α:=Hp) (fun _=>[(9,slc G.next 0 n n),(6,slc r 0 n n),(36,int k),(35,int n),(34,.slice ao n co),(2,ptr h.next 0),(1,int out)]) (fun x H2=>x = H2∧Grows G H2∧H2.at G.next = some (.row 2 true ((List.replicate n 0).map int))) ?_ ?_
 ·conv=>whnf
  refine ⟨_,c1H _ gG,?_⟩
  conv=>whnf
  refine ⟨⟨by omega,by omega,by omega,by omega⟩,?_⟩
  conv=>whnf
  refine ⟨_,⟨rfl,rfl,rfl,rfl,rfl,rfl,rfl,trivial⟩,⟨rfl,Grows.lay _ _,?_⟩,rfl⟩
  rw [← times_rep]
  exact Hp.at_lay_self _ _
 rintro H5 φ5 _ ⟨rfl,g5,a5⟩
 conv=>whnf
 refine SeqP.cut (α:=Hp) (fun _=>[(9,slc G.next 0 n n),(36,int k),(35,int n),(34,.slice ao n co),(2,ptr h.next 0),(1,int out)]) (fun x H6=>x = H6∧Grows G H6∧H6.at G.next = some (.row 2 true ((m.evK out (k + 1)).map int))) ?_ ?_
 rotate_left
 ·rintro H6 φ6 _ ⟨rfl,g6,a6⟩
  conv=>whnf
  repeat (refine SeqP.go ?_; conv=>whnf)
  refine ⟨_,wid (by omega),?_⟩
  conv=>whnf
  exact Rnd.mk (k + 1,G.next,H6) ⟨by show k + 1≤_; omega,gG.trans g6,a6⟩ (by show n - (k + 1) < n - k; omega) ⟨rfl,rfl,rfl,rfl,rfl,rfl,trivial⟩ (Hp.Le.refl _) rfl
 have hbk:=bd k hk
 have hlk:(m.evK out k).length = n:=by rw [Mac.evK_len,en]
 conv=>whnf
 repeat (refine SeqP.go ?_; conv=>whnf)
 refine ⟨_,c1H _ (gG.trans g5),?_⟩
 conv=>whnf
 repeat (refine SeqP.go ?_; conv=>whnf)
 refine loop_inv (α:=Nat×List Int×Hp) (fun s=>[(45,int s.1),(44,int n),(43,.slice ao n co),(9,slc G.next 0 n n),(6,slc r 0 n n),(36,int k),(35,int n),(34,.slice ao n co),(2,ptr h.next 0),(1,int out)]) (fun s=>s.2.2) (fun s=>s.1≤n∧s.2.1.length = n∧(∀ j,j < s.1→gl s.2.1 j = m.longF (m.evK out k) j m.base)∧Grows G s.2.2∧s.2.2.at G.next = some (.row 2 true (s.2.1.map int))) (fun s=>n - s.1) (0,List.replicate n 0,_) ⟨Nat.zero_le _,List.length_replicate,fun j hj=>absurd hj (Nat.not_lt_zero _),g5,a5⟩ ⟨rfl,rfl,rfl,rfl,rfl,rfl,rfl,rfl,rfl,rfl,trivial⟩ (Hp.Le.refl _) ?_
 rintro ⟨i,ls,F⟩ φ6 ⟨hi,hls,hval_,gF,aF6⟩
 dsimp only at hi hls hval_ gF aF6 ⊢
 conv=>whnf
 repeat (refine SeqP.go ?_; conv=>whnf)
 refine cmpB (fun hlt2=>?_) (fun hlt2=>?_)
 rotate_left
 ·conv=>whnf
  repeat (refine SeqP.go ?_; conv=>whnf)
  have:i = n:=by omega
  subst this
  refine ⟨F,⟨rfl,rfl,rfl,rfl,rfl,rfl,trivial⟩,⟨rfl,gF,?_⟩,rfl⟩
  have e:m.evK out (k + 1) = ls:=list_gl (by rw [Mac.evK_len,hls,en]) fun j hj=>by
   rw [Mac.evK_len,en] at hj
   rw [hval_ j hj,Mac.evK_gl (by rw [en]; exact hj)]
  rw [e]
  exact aF6
 have hi':i < n:=by omega
 have vl:=row_view (gF.at_ _ _ aG) hlk
 have gHF:=gG.trans gF
 have hsp:=longer_spec (.agg ⟨bx⟩) (some ⟨r,0,none⟩) n (m.evK out k) m i F (Bx.mv (hbx.ext (gH.trans gHF))) hm.ok hb5 (by omega) (by omega) (by rw [hlk]; exact vl) (by rw [hlk,en]) (fun j hj=>hbk j (by omega))
 rw [hlk] at hsp
 conv=>whnf
 repeat (refine SeqP.go ?_; conv=>whnf)
 refine ⟨_,all_cells (gHF.at_ _ _ aX) hlenx,?_⟩
 conv=>whnf
 refine CallP.mono hsp ?_
 rintro _ F2 ⟨rfl,gF2⟩
 have aF7:=gF2.at_ _ _ aF6
 conv=>whnf
 refine ⟨rfl,⟨by omega,by omega⟩,?_⟩
 conv=>whnf
 refine ⟨rfl,_,storeAt_off aF7 (by rw [List.length_map,Int.toNat_natCast]; omega) rfl,?_⟩
 conv=>whnf
 repeat (refine SeqP.go ?_; conv=>whnf)
 refine ⟨_,wid (by omega),?_⟩
 conv=>whnf
 refine Rnd.mk (i + 1,ls.set i (m.longF (m.evK out k) i m.base),_) ⟨by show i + 1≤_; omega,?_,?_,(gF.trans gF2).then_set (.row 2 true ((ls.map int).set i (int (m.longF (m.evK out k) i m.base)))) (Nat.le_refl _),?_⟩ (by show n - (i + 1) < n - i; omega) ⟨rfl,rfl,rfl,rfl,rfl,rfl,rfl,rfl,rfl,rfl,trivial⟩ (Hp.Le.refl _) rfl
 ·show (ls.set i _).length = n
  rw [List.length_set,hls]
 ·intro j hj
  show gl (ls.set i _) j = _
  rw [gl_set _ _ _ (by omega)]
  by_cases e:j = i
  ·subst e; rw [if_pos rfl]
  ·rw [if_neg e]
   exact hval_ j (by have:j < i + 1:=hj; omega)
 ·show (Hp.set _ _ _).at G.next = some (.row 2 true ((ls.set i (m.longF (m.evK out k) i m.base)).map int))
  rw [List.map_set]
  exact Hp.at_set_self _ (Hp.lt_of_at aF7)
end
end Go.Proofs.Ytedneplaibmppaa
namespace Go.Proofs.Ytedneplaibmppaa
open Go.Rx Go.RowKit
theorem mac_eq {A B:MacI} (hb:A.base = B.base) (ho:A.out.length = B.out.length) (hn:A.next.length = B.next.length) (hno:A.next.length = A.out.length) (h:∀ k,k < A.out.length→gl A.out k = gl B.out k∧rw_ A.next k = rw_ B.next k):A = B:=by
 obtain ⟨b1,o1,n1⟩:=A
 obtain ⟨b2,o2,n2⟩:=B
 dsimp only at *
 have e1:o1 = o2:=list_gl ho fun j hj=>(h j hj).1
 have e2:n1 = n2:=List.ext_getElem hn fun i h1 h2=>by
  have:=(h i (by omega)).2
  rwa [rw_at h1,rw_at h2] at this
 rw [hb,e1,e2]
attribute [local irreducible] E idxN cellAt cellsAt storeAt callable helems hmoved lookIn findKey keyOk hentries Hp.at Hp.set Hp.lay arBits hupdated setAt CallP YieldP BoolOf IsWrap Rnd LoopP AppP CutP Int.tmod Int.tdiv Int.fdiv
section
variable [Unknowns]
attribute [local irreducible] sameAt
theorem ints_spec (va vb:Value) (a b:List Int) (h:Hp) (ha:View h va a) (hb:View h vb b) (hla:a.length≤1000000):CallP E 61 [va,vb] h (fun r h'=>(∃ x,r = .bool x∧BoolOf x (a = b))∧h' = h):=by
 obtain ⟨aa,ca,rfl⟩:=ha.known
 obtain ⟨ab,cb,rfl⟩:=hb.known
 refine enter61 (by simp) ?_
 conv=>whnf
 repeat (refine SeqP.go ?_; conv=>whnf)
 refine cmpB (fun hne=>?_) (fun heq=>?_)
 ·conv=>whnf
  repeat (refine SeqP.go ?_; conv=>whnf)
  exact ⟨⟨false,rfl,bo_no fun e=>hne (by rw [e])⟩,rfl⟩
 have hlen:a.length = b.length:=by omega
 conv=>whnf
 repeat (refine SeqP.go ?_; conv=>whnf)
 refine loop_inv (α:=Nat) (fun i=>[(5,int i),(0,.slice aa a.length ca),(1,.slice ab b.length cb)]) (fun _=>h) (fun i=>i≤a.length∧∀ j,j < i→gl a j = gl b j) (fun i=>a.length - i) 0 ⟨Nat.zero_le _,fun j hj=>absurd hj (Nat.not_lt_zero _)⟩ ⟨rfl,rfl,rfl,trivial⟩ (Hp.Le.refl _) ?_
 rintro i φ1 ⟨hi,hsame⟩
 conv=>whnf
 repeat (refine SeqP.go ?_; conv=>whnf)
 refine cmpB (fun hlt=>?_) (fun hlt=>?_)
 rotate_left
 ·conv=>whnf
  repeat (refine SeqP.go ?_; conv=>whnf)
  have:i = a.length:=by omega
  subst this
  exact ⟨⟨true,rfl,bo_yes (list_gl hlen hsame)⟩,rfl⟩
 have hi':i < a.length:=by omega
 have hca:=View.cellg ha hi'
 have hcb:=View.cellg hb (i:=i) (by omega)
 obtain ⟨r1,o1,sp1,ea,hsp1,-,hc1⟩:=hca
 obtain ⟨r2,o2,sp2,eb,hsp2,-,hc2⟩:=hcb
 subst ea
 subst eb
 conv=>whnf
 repeat (refine SeqP.go ?_; conv=>whnf)
 refine ⟨hsp1,⟨by omega,by omega⟩,?_⟩
 conv=>whnf
 refine ⟨_,hc1,?_⟩
 conv=>whnf
 refine ⟨hsp2,⟨by omega,by omega⟩,?_⟩
 conv=>whnf
 refine ⟨_,hc2,?_⟩
 conv=>whnf
 refine cmpB (fun hne=>?_) (fun he=>?_)
 ·conv=>whnf
  repeat (refine SeqP.go ?_; conv=>whnf)
  exact ⟨⟨false,rfl,bo_no fun e=>hne (by rw [e])⟩,rfl⟩
 conv=>whnf
 repeat (refine SeqP.go ?_; conv=>whnf)
 refine ⟨_,wid (by omega),?_⟩
 conv=>whnf
 exact Rnd.mk (i + 1) ⟨by omega,fun j hj=>by
  by_cases e:j = i
  ·subst e; omega
  ·exact hsame j (by omega)⟩ (by show a.length - (i + 1) < a.length - i; omega) ⟨rfl,rfl,rfl,trivial⟩ (Hp.Le.refl _) rfl
theorem REqual_spec (va vb:Value) (A B:MacI) (h:Hp) (ha:MV h va A) (hb:MV h vb B) (hn:A.next.length = A.out.length) (hl:A.out.length≤1000000) (hr:∀ s,(rw_ A.next s).length≤1000000):CallP E 41 [va,vb] h (fun r h'=>(∃ x,r = .bool x∧BoolOf x (A = B))∧Grows h h'):=by
 obtain ⟨bxa,rfl,hxa⟩:=ha.box
 obtain ⟨bxb,rfl,hxb⟩:=hb.box
 obtain ⟨aoa,ana,coa,cna,hcxa⟩:=hxa.cx
 obtain ⟨aob,anb,cob,cnb,hcxb⟩:=hxb.cx
 refine enter41 (by simp) ?_
 conv=>whnf
 refine SeqP.cut (α:=Hp) (fun _=>[(4,.bool false),(3,ptr (h.next + 1) 0),(2,ptr h.next 0)]) (fun x H=>x = H∧Grows h H∧H.at h.next = some (.row 26 true bxa)∧H.at (h.next + 1) = some (.row 26 true bxb)) ?_ ?_
 ·conv=>whnf
  have n1:(h.lay (.row 26 true bxa)).next = h.next + 1:=Hp.next_lay _ _
  exact ⟨_,⟨rfl,congrArg (fun k=>ptr k 0) n1,rfl,trivial⟩,⟨rfl,(Grows.lay _ _).then_lay _,Hp.at_lay_old _ (Hp.at_lay_self _ _),at_nx2 n1 (Hp.at_lay_self _ _)⟩,rfl⟩
 rintro H φ1 _ ⟨rfl,gH,aX,aY⟩
 have kx:=hcxa H h.next 26 gH aX
 have ky:=hcxb H (h.next + 1) 26 gH aY
 have x0:=kx.c0
 have x1:=kx.c1
 have x2:=kx.c2
 have y0:=ky.c0
 have y1:=ky.c1
 have y2:=ky.c2
 have no:¬ A = B→∀ v:Value,v = .bool false→(∃ x,v = .bool x∧BoolOf x (A = B))∧Grows h H:=fun k v e=>⟨⟨false,e,bo_no k⟩,gH⟩
 conv=>whnf
 repeat (refine SeqP.go ?_; conv=>whnf)
 refine ⟨_,x0,?_⟩
 conv=>whnf
 refine ⟨_,y0,?_⟩
 conv=>whnf
 refine cmpB (fun hne=>?_) (fun heq=>?_)
 ·conv=>whnf
  repeat (refine SeqP.go ?_; conv=>whnf)
  exact no (fun e=>hne (by rw [e])) _ rfl
 conv=>whnf
 refine ⟨_,x1,?_⟩
 conv=>whnf
 refine ⟨_,y1,?_⟩
 conv=>whnf
 refine cmpB (fun hne=>?_) (fun heq1=>?_)
 ·conv=>whnf
  repeat (refine SeqP.go ?_; conv=>whnf)
  exact no (fun e=>hne (by rw [e])) _ rfl
 conv=>whnf
 refine ⟨_,x2,?_⟩
 conv=>whnf
 refine ⟨_,y2,?_⟩
 conv=>whnf
 refine cmpB (fun hne=>?_) (fun heq2=>?_)
 ·conv=>whnf
  repeat (refine SeqP.go ?_; conv=>whnf)
  exact no (fun e=>hne (by rw [e])) _ rfl
 have heq0:A.base = B.base:=by omega
 have hol:A.out.length = B.out.length:=by omega
 have hnl:A.next.length = B.next.length:=by omega
 conv=>whnf
 repeat (refine SeqP.go ?_; conv=>whnf)
 refine loop_inv (α:=Nat) (fun i=>[(5,int i),(4,.bool false),(3,ptr (h.next + 1) 0),(2,ptr h.next 0)]) (fun _=>H) (fun i=>i≤A.out.length∧∀ j,j < i→gl A.out j = gl B.out j∧rw_ A.next j = rw_ B.next j) (fun i=>A.out.length - i) 0 ⟨Nat.zero_le _,fun j hj=>absurd hj (Nat.not_lt_zero _)⟩ ⟨rfl,rfl,rfl,rfl,trivial⟩ (Hp.Le.refl _) ?_
 rintro i φ2 ⟨hi,hsame⟩
 conv=>whnf
 repeat (refine SeqP.go ?_; conv=>whnf)
 refine ⟨_,x1,?_⟩
 conv=>whnf
 refine cmpB (fun hlt=>?_) (fun hlt=>?_)
 rotate_left
 ·conv=>whnf
  repeat (refine SeqP.go ?_; conv=>whnf)
  have:i = A.out.length:=by omega
  subst this
  exact ⟨⟨true,rfl,bo_yes (mac_eq heq0 hol hnl hn hsame)⟩,gH⟩
 have hi':i < A.out.length:=by omega
 have hca:=kx.outAt hi'
 have hcb:=ky.outAt (i:=i) (by omega)
 have hra:=kx.rowAt (i:=i) (by omega)
 have hrb:=ky.rowAt (i:=i) (by omega)
 obtain ⟨r1,o1,sp1,ea,hsp1,hc1⟩:=hca
 obtain ⟨r2,o2,sp2,eb,hsp2,hc2⟩:=hcb
 obtain ⟨r3,o3,sp3,a3,c3,e3,hsp3,hc3,hv3⟩:=hra
 obtain ⟨r4,o4,sp4,a4,c4,e4,hsp4,hc4,hv4⟩:=hrb
 subst ea
 subst eb
 subst e3
 subst e4
 conv=>whnf
 repeat (refine SeqP.go ?_; conv=>whnf)
 refine ⟨_,x1,?_⟩
 conv=>whnf
 refine ⟨hsp1,⟨by omega,by omega⟩,?_⟩
 conv=>whnf
 refine ⟨_,hc1,?_⟩
 conv=>whnf
 refine ⟨_,y1,?_⟩
 conv=>whnf
 refine ⟨hsp2,⟨by omega,by omega⟩,?_⟩
 conv=>whnf
 refine ⟨_,hc2,?_⟩
 conv=>whnf
 refine cmpB (fun hne=>?_) (fun he1=>?_)
 ·conv=>whnf
  repeat (refine SeqP.go ?_; conv=>whnf)
  exact no (fun e=>hne (by rw [e])) _ rfl
 conv=>whnf
 refine ⟨_,x2,?_⟩
 conv=>whnf
 refine ⟨hsp3,⟨by omega,by omega⟩,?_⟩
 conv=>whnf
 refine ⟨_,hc3,?_⟩
 conv=>whnf
 refine ⟨_,y2,?_⟩
 conv=>whnf
 refine ⟨hsp4,⟨by omega,by omega⟩,?_⟩
 conv=>whnf
 refine ⟨_,hc4,?_⟩
 conv=>whnf
 refine cmpB (fun hne=>?_) (fun he2=>?_)
 ·conv=>whnf
  repeat (refine SeqP.go ?_; conv=>whnf)
  exact no (fun e=>hne (by rw [e])) _ rfl
 have hrl:(rw_ A.next i).length = (rw_ B.next i).length:=by omega
 have hrA:=hr i
 conv=>whnf
 repeat (refine SeqP.go ?_; conv=>whnf)
 refine loop_inv (α:=Nat) (fun j=>[(6,int j),(5,int i),(4,.bool false),(3,ptr (h.next + 1) 0),(2,ptr h.next 0)]) (fun _=>H) (fun j=>j≤(rw_ A.next i).length∧∀ k,k < j→gl (rw_ A.next i) k = gl (rw_ B.next i) k) (fun j=>(rw_ A.next i).length - j) 0 ⟨Nat.zero_le _,fun j hj=>absurd hj (Nat.not_lt_zero _)⟩ ⟨rfl,rfl,rfl,rfl,rfl,trivial⟩ (Hp.Le.refl _) ?_
 rintro j φ3 ⟨hj,hsame2⟩
 conv=>whnf
 repeat (refine SeqP.go ?_; conv=>whnf)
 refine ⟨_,x2,?_⟩
 conv=>whnf
 refine ⟨hsp3,⟨by omega,by omega⟩,?_⟩
 conv=>whnf
 refine ⟨_,hc3,?_⟩
 conv=>whnf
 refine cmpB (fun hlt2=>?_) (fun hlt2=>?_)
 rotate_left
 ·conv=>whnf
  repeat (refine SeqP.go ?_; conv=>whnf)
  refine ⟨_,wid (by omega),?_⟩
  conv=>whnf
  have:j = (rw_ A.next i).length:=by omega
  subst this
  exact Rnd.mk (i + 1) ⟨by omega,fun k hk=>by
   by_cases e:k = i
   ·subst e; exact ⟨by omega,list_gl hrl hsame2⟩
   ·exact hsame k (by omega)⟩ (by show A.out.length - (i + 1) < A.out.length - i; omega) ⟨rfl,rfl,rfl,rfl,trivial⟩ (Hp.Le.refl _) rfl
 have hj':j < (rw_ A.next i).length:=by omega
 have hj3:=View.cellg hv3 hj'
 have hj4:=View.cellg hv4 (i:=j) (by omega)
 obtain ⟨r5,o5,sp5,e5,hsp5,-,hc5⟩:=hj3
 obtain ⟨r6,o6,sp6,e6,hsp6,-,hc6⟩:=hj4
 subst e5
 subst e6
 conv=>whnf
 repeat (refine SeqP.go ?_; conv=>whnf)
 refine ⟨_,x2,?_⟩
 conv=>whnf
 refine ⟨hsp3,⟨by omega,by omega⟩,?_⟩
 conv=>whnf
 refine ⟨_,hc3,?_⟩
 conv=>whnf
 refine ⟨hsp5,⟨by omega,by omega⟩,?_⟩
 conv=>whnf
 refine ⟨_,hc5,?_⟩
 conv=>whnf
 refine ⟨_,y2,?_⟩
 conv=>whnf
 refine ⟨hsp4,⟨by omega,by omega⟩,?_⟩
 conv=>whnf
 refine ⟨_,hc4,?_⟩
 conv=>whnf
 refine ⟨hsp6,⟨by omega,by omega⟩,?_⟩
 conv=>whnf
 refine ⟨_,hc6,?_⟩
 conv=>whnf
 refine cmpB (fun hne=>?_) (fun he3=>?_)
 ·conv=>whnf
  repeat (refine SeqP.go ?_; conv=>whnf)
  exact no (fun e=>hne (by rw [e])) _ rfl
 conv=>whnf
 repeat (refine SeqP.go ?_; conv=>whnf)
 refine ⟨_,wid (by omega),?_⟩
 conv=>whnf
 exact Rnd.mk (j + 1) ⟨by omega,fun k hk=>by
  by_cases e:k = j
  ·subst e; omega
  ·exact hsame2 k (by omega)⟩ (by show (rw_ A.next i).length - (j + 1) < (rw_ A.next i).length - j; omega) ⟨rfl,rfl,rfl,rfl,rfl,trivial⟩ (Hp.Le.refl _) rfl
end
end Go.Proofs.Ytedneplaibmppaa
namespace Go.Proofs.Ytedneplaibmppaa
open Go.Rx Go.RowKit
def EverR (m:Mac) (out:Int) (r:Value):Prop:=(¬ (0≤out∧out≤9)→r = .tuple ⟨[int 0,.bool false,int 1]⟩)∧(0≤out∧out≤9→∃ b,r = .tuple ⟨[int (max (gl (m.evK out m.out.length) 0) 0),.bool b,int 0]⟩∧BoolOf b (0≤gl (m.evK out m.out.length) 0))
attribute [local irreducible] E idxN cellAt cellsAt storeAt callable helems hmoved lookIn findKey keyOk hentries Hp.at Hp.set Hp.lay arBits hupdated setAt CallP YieldP BoolOf IsWrap Rnd LoopP AppP CutP Int.tmod Int.tdiv Int.fdiv
section
variable [Unknowns]
attribute [local irreducible] sameAt
theorem Ever_spec (v:Value) (m:Mac) (out:Int) (h:Hp) (hv:MV h v m.i) (hm:OkS m):CallP E 35 [v,int out] h (fun r h'=>EverR m out r∧Grows h h'):=by
 obtain ⟨bx,rfl,hbx⟩:=hv.box
 have hL:=hm.lens
 refine enter35 (by simp) ?_
 conv=>whnf
 refine SeqP.cut (α:=Hp) (fun _=>[(2,ptr h.next 0),(1,int out)]) (fun x H=>x = H∧Grows h H∧H.at h.next = some (.row 25 true bx)) ?_ ?_
 ·conv=>whnf
  exact ⟨_,⟨rfl,rfl,trivial⟩,⟨rfl,Grows.lay _ _,Hp.at_lay_self _ _⟩,rfl⟩
 rintro H φ1 _ ⟨rfl,gH,aX⟩
 conv=>whnf
 repeat (refine SeqP.go ?_; conv=>whnf)
 refine ⟨_,all_cells aX hbx.len,?_⟩
 conv=>whnf
 refine CallP.mono (Check_spec _ m.i _ (Bx.mv (hbx.ext gH)) hL.1 hL.2.1 hL.2.2) ?_
 rintro r H2 ⟨⟨e,rfl,he,-⟩,g2⟩
 have he:=he hm.ck
 subst he
 have aX2:=g2.at_ _ _ aX
 have gh2:=gH.trans g2
 conv=>whnf
 repeat (refine SeqP.go ?_; conv=>whnf)
 refine cmpF (by omega) ?_
 conv=>whnf
 repeat (refine SeqP.go ?_; conv=>whnf)
 refine CallP.mono (isOut_spec out _) ?_
 rintro r _ ⟨⟨b,rfl,hb⟩,rfl⟩
 cases b with
 | false =>
  have hb:=hb.f
  conv=>whnf
  repeat (refine SeqP.go ?_; conv=>whnf)
  exact ⟨⟨fun _=>rfl,fun k=>absurd k hb⟩,gh2⟩
 | true =>
  have hb:=hb.t
  conv=>whnf
  repeat (refine SeqP.go ?_; conv=>whnf)
  refine ⟨_,all_cells aX2 hbx.len,?_⟩
  conv=>whnf
  refine CallP.mono (ever_spec _ m out _ (Bx.mv (hbx.ext gh2)) hm) ?_
  rintro r H3 ⟨⟨b,rfl,hb2⟩,g3⟩
  conv=>whnf
  repeat (refine SeqP.go ?_; conv=>whnf)
  exact ⟨⟨fun k=>absurd hb k,fun _=>⟨b,rfl,hb2⟩⟩,gh2.trans g3⟩
end
end Go.Proofs.Ytedneplaibmppaa
namespace Go.Proofs.Ytedneplaibmppaa
open Go.Rx Go.RowKit
def tm:Mac:=⟨2,[0,1],[[0,1],[1,0]]⟩
def rd:Mac:=⟨2,[0,0,1],[[1,2],[1,1],[2,2]]⟩
theorem tm_s:OkS tm where
 ok:=⟨by decide,by decide,rfl,by decide,fun s d hs hd=>(show ∀ s < 2,∀ d < 2,tm.nx s d < 2 by decide) s hs d hd⟩
 zer:=by unfold Mac.Zer; decide
 ck:=⟨by decide,by decide,by decide,by decide,by decide,rfl,fun s hs=>by
  have:s = 0∨s = 1:=by have:s < 2:=hs; omega
  rcases this with rfl | rfl
  ·exact ⟨by decide,by decide,rfl⟩
  ·exact ⟨by decide,by decide,rfl⟩⟩
theorem rd_s:OkS rd where
 ok:=⟨by decide,by decide,rfl,by decide,fun s d hs hd=>(show ∀ s < 3,∀ d < 2,rd.nx s d < 3 by decide) s hs d hd⟩
 zer:=by unfold Mac.Zer; decide
 ck:=⟨by decide,by decide,by decide,by decide,by decide,rfl,fun s hs=>by
  have:s = 0∨s = 1∨s = 2:=by have:s < 3:=hs; omega
  rcases this with rfl | rfl | rfl
  ·exact ⟨by decide,by decide,rfl⟩
  ·exact ⟨by decide,by decide,rfl⟩
  ·exact ⟨by decide,by decide,rfl⟩⟩
theorem tm_form:tm.form = tm:=by
 unfold Mac.form built
 rw [show tm.cl 0 = 0 from rfl,bfs_eq (L:=[0,1]) (.step (s:=0) rfl (.step (s:=1) rfl (.done (Nat.le_refl 2))))]
 rfl
theorem rd_form:rd.form = rd:=by
 unfold Mac.form built
 rw [show rd.cl 0 = 0 from rfl,bfs_eq (L:=[0,1,2]) (.step (s:=0) rfl (.step (s:=1) rfl (.step (s:=2) rfl (.done (Nat.le_refl 3)))))]
 rfl
theorem tm_every:(tm.every 2 0).form = tm:=by
 have h1:=Mac.every_ok tm_s.ok 2 0
 rw [Mac.form_uniq h1.1 tm_s.ok rfl ?_,tm_form]
 rw [Mac.alike_at h1.1 tm_s.ok (by decide) rfl (Mac.every_zer tm_s.ok tm_s.b2 tm_s.zer 2 0) tm_s.zer h1.1.n1 tm_s.ok.n1]
 intro n
 rw [Mac.every_at tm_s.ok tm_s.b2 tm_s.zer]
 have:=Mac.at_step tm_s.ok tm_s.b2 tm_s.zer (s:=0) (d:=0) (n:=n) (by decide) (by decide)
 rw [Nat.zero_add] at this
 exact this
theorem ring_rd:ringM 2 [0,1] 0 = rd:=by
 unfold ringM built
 rw [show ((((foldN [(0:Int),1].length 0 1:Nat):Int)),(0:Int)) = ((1:Int),(0:Int)) from rfl,bfs_eq (L:=[((1:Int),(0:Int)),(0,0),(0,1)]) (.step (s:=((1:Int),(0:Int))) rfl (.step (s:=((0:Int),(0:Int))) rfl (.step (s:=((0:Int),(1:Int))) rfl (.done (Nat.le_refl 3)))))]
 rfl
theorem tm_seq:seqL tm 8 = [0,1,1,0,1,0,0,1]:=by kernel_rfl
theorem tm_ever:gl (tm.evK 1 tm.out.length) 0 = 1:=by kernel_rfl
theorem rd_sink:∀ w s,(s = 1∨s = 2)→Mac.Wd 2 w→rd.run s w = s
 | [],s,_,_=>rfl
 | d :: w,s,hs,hw=>by
  have hd:d < 2:=hw d (by simp)
  have hw':Mac.Wd 2 w:=fun x hx=>hw x (by simp [hx])
  have e:rd.nx s d = s:=by
   have hd':d = 0∨d = 1:=by omega
   rcases hs with rfl | rfl <;> rcases hd' with rfl | rfl <;> rfl
  show rd.run (rd.nx s d) w = s
  rw [e]
  exact rd_sink w s hs hw'
theorem rd_at (n:Nat):rd.at_ 0 n = ((n % 2:Nat):Int):=by
 by_cases h:n = 0
 ·subst h; rfl
 ·show rd.o (rd.run 0 (dg 2 n)) = _
  rw [dg_pos (Nat.le_refl 2) h]
  show rd.o (rd.run (rd.nx 0 (n % 2)) (dg 2 (n / 2))) = _
  have hm:n % 2 = 0∨n % 2 = 1:=by omega
  rcases hm with e | e
  ·rw [e,show rd.nx 0 0 = 1 from rfl,rd_sink _ _ (.inl rfl) (dg_wd (Nat.le_refl 2) _)]; rfl
  ·rw [e,show rd.nx 0 1 = 2 from rfl,rd_sink _ _ (.inr rfl) (dg_wd (Nat.le_refl 2) _)]; rfl
theorem rd_find {r:Value} (h:FindR rd r):r = .tuple ⟨[int 0,int 2,.bool true,int 0]⟩:=by
 have h2:RoundP rd 60 2:=fun n=>by rw [rd_at,rd_at,show (n + 60) % 2 = (n + 60 + 2) % 2 by omega]
 have h1:¬ RoundP rd 60 1:=fun k=>by
  have:=k 0
  rw [rd_at,rd_at] at this
  revert this
  decide
 rcases h with ⟨p,hp1,hp30,hp,hmin,e⟩ | ⟨hno,_⟩
 ·have:p = 2:=by
   by_cases h3:p = 2
   ·exact h3
   ·by_cases h4:p = 1
    ·subst h4; exact absurd hp h1
    ·exact absurd h2 (hmin 2 (by omega) (by omega))
  subst this
  rw [e,show startF rd 2 60 = 0 from by kernel_rfl]
  rfl
 ·exact absurd h2 (hno 2 (by omega) (by omega))
end Go.Proofs.Ytedneplaibmppaa
namespace Go.Proofs.Ytedneplaibmppaa
open Go.Rx Go.RowKit
theorem lens_of {m:Mac} (h:OkS m):Lens m.i:=by
 have:=h.lens
 exact ⟨by omega,by omega,fun s=>by have:=this.2.2 s; omega⟩
theorem cut_tm:cutI tm.i = tm.i:=rfl
theorem cut_rd:cutI rd.i = rd.i:=rfl
theorem MV.bx {h:Hp} {cs:List Value} {M:MacI} (k:MV h (.agg ⟨cs⟩) M):Bx h cs M:=by
 obtain ⟨bx,e,hb⟩:=k.box
 injection e with e
 injection e with e
 subst e
 exact hb
theorem rd_mv {H:Hp} {r1 r2 r3 r4 r5:Nat} (h1:H.at r1 = some (.row 3 true [int 0,int 0,int 1])) (h2:H.at r2 = some (.row 3 true [int 1,int 2])) (h3:H.at r3 = some (.row 3 true [int 1,int 1])) (h4:H.at r4 = some (.row 3 true [int 2,int 2])) (h5:H.at r5 = some (.row 22 true [slc r2 0 2 2,slc r3 0 2 2,slc r4 0 2 2])):MV H (.agg ⟨[int 2,slc r1 0 3 3,slc r5 0 3 3]⟩) rd.i:=by
 refine OwnM.mv (h0:=⟨0,H.raw⟩) ⟨_,_,[slc r2 0 2 2,slc r3 0 2 2,slc r4 0 2 2],rfl,⟨rfl,.inr ⟨_,rfl,Nat.zero_le _,true,h1⟩⟩,⟨rfl,.inr ⟨_,rfl,Nat.zero_le _,true,h5⟩⟩,rfl,fun k u l e1 e2=>?_⟩
 match k,e1,e2 with
 | 0,e1,e2=>cases e1; cases e2; exact .inr ⟨_,rfl,Nat.zero_le _,true,h2⟩
 | 1,e1,e2=>cases e1; cases e2; exact .inr ⟨_,rfl,Nat.zero_le _,true,h3⟩
 | 2,e1,e2=>cases e1; cases e2; exact .inr ⟨_,rfl,Nat.zero_le _,true,h4⟩
 | k + 3,e1,e2=>simp at e1
attribute [local irreducible] E idxN cellAt cellsAt storeAt callable helems hmoved lookIn findKey keyOk hentries Hp.at Hp.set Hp.lay arBits hupdated setAt CallP YieldP BoolOf IsWrap Rnd LoopP AppP CutP Int.tmod Int.tdiv Int.fdiv
section
variable [Unknowns]
attribute [local irreducible] sameAt
theorem awake_spec (h:Hp):CallP E 21 [] h (fun r h'=>r = .bool true∧Grows h h'):=by
 refine enter21 (by simp) ?_
 conv=>whnf
 refine SeqP.go ?_
 conv=>whnf
 refine SeqP.cut (α:=Nat×List Value×Hp) (fun s=>[(1,ptr s.1 0)]) (fun s H=>s.2.2 = H∧Grows h H∧H.at s.1 = some (.row 25 true s.2.1)∧Bx H s.2.1 tm.i) ?_ ?_
 ·conv=>whnf
  refine CallP.mono (Morse_spec _) ?_
  rintro w H ⟨hw,g⟩
  have hk:=hw.known
  obtain ⟨a,b,rfl⟩:=hk
  conv=>whnf
  refine ⟨rfl,_,storeAt_all (vs:=[int 2,.slice a _ _,.slice b _ _]) rfl rfl rfl,?_⟩
  conv=>whnf
  refine ⟨(H.next,_,_),⟨rfl,trivial⟩,⟨rfl,g.then_lay _,Hp.at_lay_self _ _,?_⟩,rfl⟩
  exact (hw.mv.ext (Grows.lay _ _)).bx
 rintro ⟨N1,bx,H1⟩ φ1 _ ⟨rfl,g1,a1,b1⟩
 dsimp only at g1 a1 b1 ⊢
 conv=>whnf
 refine SeqP.cut (α:=Nat×Option Addr×Hp) (fun s=>[(1,ptr N1 0),(2,.slice s.2.1 8 8),(3,int 0)]) (fun s H=>s.2.2 = H∧Grows H1 H∧View H (.slice s.2.1 8 8) [0,1,1,0,1,0,0,1]) ?_ ?_
 ·conv=>whnf
  refine ⟨_,all_cells a1 b1.len,?_⟩
  conv=>whnf
  refine CallP.mono (First_spec _ tm 8 _ (Bx.mv b1) tm_s) ?_
  rintro r H2 ⟨⟨-,hw0⟩,g2⟩
  have hw0:=hw0 (by omega) (by omega)
  obtain ⟨w,rfl,hw⟩:=hw0
  have e8:seqL tm (8:Int).toNat = [0,1,1,0,1,0,0,1]:=tm_seq
  rw [e8] at hw
  have hws:=hw.c.slice
  obtain ⟨aw,rfl,-⟩:=hws
  conv=>whnf
  exact ⟨(0,aw,_),⟨rfl,rfl,rfl,trivial⟩,⟨rfl,g2,hw.view⟩,rfl⟩
 rintro ⟨x2,aw,H2⟩ φ2 _ ⟨rfl,g2,v2⟩
 dsimp only at g2 v2 ⊢
 conv=>whnf
 refine SeqP.cut (α:=Nat×List Value×Hp) (fun s=>[(1,ptr N1 0),(2,.slice aw 8 8),(3,int 0),(4,ptr s.1 0),(5,int 0)]) (fun s H=>s.2.2 = H∧Grows H2 H∧H.at s.1 = some (.row 25 true s.2.1)∧Bx H s.2.1 rd.i) ?_ ?_
 ·conv=>whnf
  have gl1:Grows H2 (H2.lay (.row 3 true [int 0,int 1])):=Grows.lay _ _
  have vb:View (H2.lay (.row 3 true [int 0,int 1])) (slc H2.next 0 2 2) [0,1]:=row_view (ls:=[0,1]) (Hp.at_lay_self _ _) rfl
  have vn:View (H2.lay (.row 3 true [int 0,int 1])) nilS []:=Built.view (h0:=H2) (e:=3) (.inl ⟨rfl,rfl⟩)
  refine CallP.mono (Round_spec 2 _ _ [] [0,1] _ vn vb (by simp) (by simp)) ?_
  rintro r H3 ⟨⟨-,hr⟩,g3⟩
  have hnb:¬ BadR 2 ([]:List Int) [0,1]:=by unfold BadR; simp
  have hr:=hr hnb
  obtain ⟨u,e,rfl,hu,-⟩:=hr
  have er:ringM (2:Int).toNat ([] ++ [0,1]) ([]:List Int).length = rd:=ring_rd
  rw [er,rd_form] at hu
  have hu2:=hu (by decide)
  obtain ⟨rfl,hu3⟩:=hu2
  have hk:=hu3.known
  obtain ⟨a,b,rfl⟩:=hk
  conv=>whnf
  refine ⟨rfl,_,storeAt_all (vs:=[int 2,.slice a _ _,.slice b _ _]) rfl rfl rfl,?_⟩
  conv=>whnf
  exact ⟨(H3.next,_,_),⟨rfl,rfl,rfl,rfl,rfl,trivial⟩,⟨rfl,(gl1.trans g3).then_lay _,Hp.at_lay_self _ _,(hu3.mv.ext (Grows.lay _ _)).bx⟩,rfl⟩
 rintro ⟨N4,by4,H3⟩ φ3 _ ⟨rfl,g3,a4,b4⟩
 dsimp only at g3 a4 b4 ⊢
 have g13:=g2.trans g3
 have a1:=g13.at_ _ _ a1
 have b1:=b1.ext g13
 have v2:=v2.ext g3
 have g1:=g1.trans g13
 clear g2 g3 g13
 conv=>whnf
 refine SeqP.cut (α:=Nat×List Value×Hp) (fun s=>[(1,ptr N1 0),(2,.slice aw 8 8),(3,int 0),(4,ptr N4 0),(5,int 0),(6,ptr s.1 0),(7,int 0)]) (fun s H=>s.2.2 = H∧Grows H3 H∧H.at s.1 = some (.row 25 true s.2.1)∧Bx H s.2.1 tm.i) ?_ ?_
 ·conv=>whnf
  refine ⟨_,all_cells a1 b1.len,?_⟩
  conv=>whnf
  refine CallP.mono (Every_spec _ tm 2 0 _ (Bx.mv b1) tm_s) ?_
  rintro r H4 ⟨⟨-,hr⟩,g4⟩
  have hnb:¬ BadE 2 0:=by unfold BadE; omega
  have hr:=hr hnb
  obtain ⟨u,e,rfl,hu,-⟩:=hr
  have er:(tm.every (2:Int).toNat (0:Int).toNat).form = tm:=tm_every
  rw [er] at hu
  have hu2:=hu (by decide)
  obtain ⟨rfl,hu3⟩:=hu2
  have hk:=hu3.known
  obtain ⟨a,b,rfl⟩:=hk
  conv=>whnf
  refine ⟨rfl,_,storeAt_all (vs:=[int 2,.slice a _ _,.slice b _ _]) rfl rfl rfl,?_⟩
  conv=>whnf
  exact ⟨(H4.next,_,_),⟨rfl,rfl,rfl,rfl,rfl,rfl,rfl,trivial⟩,⟨rfl,g4.then_lay _,Hp.at_lay_self _ _,(hu3.mv.ext (Grows.lay _ _)).bx⟩,rfl⟩
 rintro ⟨N6,by6,H4⟩ φ4 _ ⟨rfl,g4,a6,b6⟩
 dsimp only at g4 a6 b6 ⊢
 have a1:=g4.at_ _ _ a1
 have b1:=b1.ext g4
 have a4:=g4.at_ _ _ a4
 have b4:=b4.ext g4
 have v2:=v2.ext g4
 have g1:=g1.trans g4
 clear g4
 conv=>whnf
 refine SeqP.cut (α:=Hp) (fun s=>[(1,ptr N1 0),(2,.slice aw 8 8),(3,int 0),(4,ptr N4 0),(5,int 0),(6,ptr N6 0),(7,int 0),(8,int 1),(9,.bool true),(10,int 0)]) (fun s H=>s = H∧Grows H4 H) ?_ ?_
 ·conv=>whnf
  refine ⟨_,all_cells a1 b1.len,?_⟩
  conv=>whnf
  refine CallP.mono (Ever_spec _ tm 1 _ (Bx.mv b1) tm_s) ?_
  rintro r H5 ⟨⟨-,hr⟩,g5⟩
  have hr:=hr (by omega)
  rw [tm_ever] at hr
  obtain ⟨b,rfl,hb⟩:=hr
  cases b with
  | false=>exact absurd (by omega) hb.f
  | true =>
   conv=>whnf
   exact ⟨_,⟨rfl,rfl,rfl,rfl,rfl,rfl,rfl,rfl,rfl,rfl,trivial⟩,⟨rfl,g5⟩,rfl⟩
 rintro H5 φ5 _ ⟨rfl,g5⟩
 have a1:=g5.at_ _ _ a1
 have b1:=b1.ext g5
 have a4:=g5.at_ _ _ a4
 have b4:=b4.ext g5
 have a6:=g5.at_ _ _ a6
 have b6:=b6.ext g5
 have v2:=v2.ext g5
 have g1:=g1.trans g5
 clear g5
 conv=>whnf
 refine SeqP.cut (α:=Hp) (fun s=>[(1,ptr N1 0),(2,.slice aw 8 8),(3,int 0),(4,ptr N4 0),(5,int 0),(6,ptr N6 0),(7,int 0),(8,int 1),(9,.bool true),(10,int 0),(11,int 0),(12,int 2),(13,.bool true),(14,int 0)]) (fun s H=>s = H∧Grows H5 H) ?_ ?_
 ·conv=>whnf
  refine ⟨_,all_cells a4 b4.len,?_⟩
  conv=>whnf
  refine CallP.mono (FindRound_spec _ rd _ (Bx.mv b4) rd_s) ?_
  rintro r H6 ⟨hr,g6⟩
  have hr:=rd_find hr
  subst hr
  conv=>whnf
  exact ⟨_,⟨rfl,rfl,rfl,rfl,rfl,rfl,rfl,rfl,rfl,rfl,rfl,rfl,rfl,rfl,trivial⟩,⟨rfl,g6⟩,rfl⟩
 rintro H6 φ6 _ ⟨rfl,g6⟩
 have a1:=g6.at_ _ _ a1
 have b1:=b1.ext g6
 have a4:=g6.at_ _ _ a4
 have b4:=b4.ext g6
 have a6:=g6.at_ _ _ a6
 have b6:=b6.ext g6
 have v2:=v2.ext g6
 have g1:=g1.trans g6
 clear g6
 conv=>whnf
 repeat (refine SeqP.go ?_; conv=>whnf)
 refine ⟨_,all_cells a1 b1.len,?_⟩
 conv=>whnf
 refine CallP.mono (own_spec _ tm.i _ (Bx.mv b1) (lens_of tm_s)) ?_
 rintro r H7 ⟨hw,g7⟩
 rw [cut_tm] at hw
 have hk:=hw.known
 obtain ⟨p1,q1,rfl⟩:=hk
 conv=>whnf
 refine CallP.mono (RMorse_spec _) ?_
 rintro r H8 ⟨hw2,g8⟩
 have hk:=hw2.known
 obtain ⟨p2,q2,rfl⟩:=hk
 conv=>whnf
 refine CallP.mono (REqual_spec _ _ tm.i tm.i _ (hw.mv.ext g8) hw2.mv rfl (by decide) tm_s.lens.2.2) ?_
 rintro _ H9 ⟨⟨x,rfl,hx⟩,g9⟩
 cases x with
 | false=>exact absurd rfl hx.f
 | true =>
  have g69:=(g7.trans g8).trans g9
  have a1:=g69.at_ _ _ a1
  have b1:=b1.ext g69
  have a4:=g69.at_ _ _ a4
  have b4:=b4.ext g69
  have a6:=g69.at_ _ _ a6
  have b6:=b6.ext g69
  have v2:=v2.ext g69
  have g1:=g1.trans g69
  clear g69 g7 g8 g9 hw hw2 hx
  conv=>whnf
  refine cmpT rfl ?_
  conv=>whnf
  have gl1:Grows H9 (H9.lay (.row 3 true [int 0,int 1,int 1,int 0,int 1,int 0,int 0,int 1])):=Grows.lay _ _
  have vb:View (H9.lay (.row 3 true [int 0,int 1,int 1,int 0,int 1,int 0,int 0,int 1])) (slc H9.next 0 8 8) [0,1,1,0,1,0,0,1]:=row_view (ls:=[0,1,1,0,1,0,0,1]) (Hp.at_lay_self _ _) rfl
  refine CallP.mono (ints_spec _ _ [0,1,1,0,1,0,0,1] [0,1,1,0,1,0,0,1] _ (v2.ext gl1) vb (by simp)) ?_
  rintro _ _ ⟨⟨x,rfl,hx⟩,rfl⟩
  cases x with
  | false=>exact absurd rfl hx.f
  | true =>
   conv=>whnf
   refine cmpT rfl ?_
   conv=>whnf
   have a4:=gl1.at_ _ _ a4
   have b4:=b4.ext gl1
   have a6:=gl1.at_ _ _ a6
   have b6:=b6.ext gl1
   have g1:=g1.trans gl1
   clear vb v2 hx gl1 a1 b1
   refine ⟨_,all_cells a4 b4.len,?_⟩
   conv=>whnf
   refine CallP.mono (own_spec _ rd.i _ (Bx.mv b4) (lens_of rd_s)) ?_
   rintro r H11 ⟨hw,g11⟩
   rw [cut_rd] at hw
   have hk:=hw.known
   obtain ⟨p1,q1,rfl⟩:=hk
   conv=>whnf
   have h1:=Hp.at_lay_self H11 (.row 3 true [int 0,int 0,int 1])
   have m1:(H11.lay (.row 3 true [int 0,int 0,int 1])).next = H11.next + 1:=Hp.next_lay _ _
   have hexA:∃ A,H11.lay (.row 3 true [int 0,int 0,int 1]) = A:=⟨_,rfl⟩
   have gA:∀ o1 o2 o3 o4 o5,Grows H11 (((((H11.lay o1).lay o2).lay o3).lay o4).lay o5):=fun _ _ _ _ _=>((((Grows.lay _ _).then_lay _).then_lay _).then_lay _).then_lay _
   refine CallP.mono (REqual_spec _ _ rd.i rd.i _ ?_ ?_ rfl (by decide) rd_s.lens.2.2) ?_
   ·exact hw.mv.ext (gA _ _ _ _ _)
   ·exact rd_mv (Hp.at_lay_old _ (Hp.at_lay_old _ (Hp.at_lay_old _ (Hp.at_lay_old _ (Hp.at_lay_self _ _))))) (Hp.at_lay_old _ (Hp.at_lay_old _ (Hp.at_lay_old _ (Hp.at_lay_self _ _)))) (Hp.at_lay_old _ (Hp.at_lay_old _ (Hp.at_lay_self _ _))) (Hp.at_lay_old _ (Hp.at_lay_self _ _)) (Hp.at_lay_self _ _)
   rintro _ H12 ⟨⟨x,rfl,hx⟩,g12⟩
   cases x with
   | false=>exact absurd rfl hx.f
   | true =>
    have g69:=(g11.trans (gA _ _ _ _ _)).trans g12
    have a6:=g69.at_ _ _ a6
    have b6:=b6.ext g69
    have g1:=g1.trans g69
    clear g69 g11 gA g12 hx hw hexA h1 m1
    conv=>whnf
    refine cmpT rfl ?_
    conv=>whnf
    refine ⟨_,all_cells a6 b6.len,?_⟩
    conv=>whnf
    refine CallP.mono (own_spec _ tm.i _ (Bx.mv b6) (lens_of tm_s)) ?_
    rintro r H13 ⟨hw,g13⟩
    rw [cut_tm] at hw
    have hk:=hw.known
    obtain ⟨p3,q3,rfl⟩:=hk
    conv=>whnf
    refine CallP.mono (RMorse_spec _) ?_
    rintro r H14 ⟨hw2,g14⟩
    have hk:=hw2.known
    obtain ⟨p4,q4,rfl⟩:=hk
    conv=>whnf
    refine CallP.mono (REqual_spec _ _ tm.i tm.i _ (hw.mv.ext g14) hw2.mv rfl (by decide) tm_s.lens.2.2) ?_
    rintro _ H15 ⟨⟨x,rfl,hx⟩,g15⟩
    cases x with
    | false=>exact absurd rfl hx.f
    | true =>
     have g1:=((g1.trans g13).trans g14).trans g15
     conv=>whnf
     refine cmpT rfl ?_
     conv=>whnf
     refine cmpT rfl ?_
     conv=>whnf
     refine cmpT rfl ?_
     conv=>whnf
     refine cmpT rfl ?_
     conv=>whnf
     refine cmpT rfl ?_
     conv=>whnf
     have me:MV H15 (.agg ⟨[int 0,nilS,nilS]⟩) ⟨0,[],[]⟩:=⟨nilS,nilS,rfl,Built.view (h0:=H15) (e:=3) (.inl ⟨rfl,rfl⟩),Mat.nil _⟩
     refine CallP.mono (Check_spec _ _ _ me (by simp) (by simp) (by simp [rw_])) ?_
     rintro _ H16 ⟨⟨e,rfl,-,he⟩,g16⟩
     have he:=he (fun k=>by have:=k.b2; dsimp only at this; omega)
     subst he
     conv=>whnf
     refine cmpT rfl ?_
     conv=>whnf
     repeat (refine SeqP.go ?_; conv=>whnf)
     exact ⟨rfl,g1.trans g16⟩
end
end Go.Proofs.Ytedneplaibmppaa
namespace Go.Proofs.Ytedneplaibmppaa
open Go.Rx Go.RowKit
abbrev InR (n:Int):Prop:=-9223372036854775808≤n∧n < 9223372036854775808
end Go.Proofs.Ytedneplaibmppaa
namespace Go.Proofs.Ytedneplaibmppaa
open Go.Rx Go.RowKit
theorem under3:Try.prog.underlying 3 = some (.int .i64):=Try.underlying3
theorem under22:Try.prog.underlying 22 = some (.slice 3):=Try.underlying22
theorem under23:Try.prog.underlying 23 = some (.slice 22):=Try.underlying23
def fieldTy (i:Nat) (t:TypeId):Option TypeDesc→Option (TypeId×Nat)
 | some (.struct fs)=>(fs[i]?).map fun f=>(f.type,f.offset)
 | _=>none
theorem field_of {t ft off i:Nat} (h:fieldTy i t (Try.prog.underlying t) = some (ft,off)) {ts:List Tr} (hy:TyT Try.prog t ts):ts.length = Try.prog.cellsOf t∧TyT Try.prog ft ((ts.drop off).take (Try.prog.cellsOf ft)):=by
 cases hu:Try.prog.underlying t with
 | none=>rw [hu] at h; cases h
 | some d =>
  rw [hu] at h
  cases d with
  | struct fs =>
   have hf:=ty_field hu hy
   unfold fieldTy at h
   dsimp only at h
   cases hg:fs[i]? with
   | none=>rw [hg] at h; cases h
   | some f =>
    rw [hg] at h
    cases h
    exact ⟨hf.1,hf.2 i f hg⟩
  | _=>cases h
theorem cells3:Try.prog.cellsOf 3 = 1:=by kernel_rfl
theorem cells22:Try.prog.cellsOf 22 = 1:=by kernel_rfl
theorem cells23:Try.prog.cellsOf 23 = 1:=by kernel_rfl
theorem one_of {ts:List Tr} {o:Nat} (h:o < ts.length):(ts.drop o).take 1 = [ts[o]]:=by
 rw [List.drop_eq_getElem_cons h]; rfl
theorem ag_inv {h:Hp} {v:Value} {ts:List Tr} (k:AbsT h v (.ag ts)):∃ vs:List Value,v = .agg ⟨vs⟩∧vs.length = ts.length∧∀ (k:Nat) v t,vs[k]? = some v→ts[k]? = some t→AbsT h v t:=by
 cases k with
 | ag vs cs hl ht=>exact ⟨vs,rfl,hl,ht⟩
theorem num_inv {h:Hp} {v:Value} {n:Int} (k:AbsT h v (.num n)):v = int n:=by cases k; rfl
theorem mac_arg {ts:List Tr} (hy:TyT Try.prog 25 ts):∃ M:MacI,InR M.base∧Lens M∧∀ h v,AbsT h v (.ag ts)→MV h v M:=by
 have hmax:maxLen < 9223372036854775808:=by decide
 have f0:=field_of (i:=0) (ft:=3) (off:=0) (by kernel_rfl) hy
 have f1:=field_of (i:=1) (ft:=22) (off:=1) (by kernel_rfl) hy
 have f2:=field_of (i:=2) (ft:=23) (off:=2) (by kernel_rfl) hy
 have hl:ts.length = 3:=f0.1.trans (by kernel_rfl)
 have f0:=f0.2
 have f1:=f1.2
 have f2:=f2.2
 rw [cells3,one_of (by omega)] at f0
 rw [cells22,one_of (by omega)] at f1
 rw [cells23,one_of (by omega)] at f2
 obtain ⟨n,en,hn⟩:=ty_num under3 f0
 obtain ⟨l1,e1,m1,r1⟩:=ty_ints under22 cells3 under3 f1
 obtain ⟨L,e2,m2,r2⟩:=ty_mat under23 cells22 under22 cells3 under3 f2
 refine ⟨⟨n,l1,L⟩,hn,⟨by show l1.length < _; omega,by show L.length < _; omega,fun s=>?_⟩,fun h v k=>?_⟩
 ·show (rw_ L s).length < _
  by_cases hs:s < L.length
  ·rw [rw_at hs]
   have:=(r2 _ (List.getElem_mem hs)).1
   omega
  ·unfold rw_
   rw [List.getD_eq_getElem?_getD,List.getElem?_eq_none (by omega)]
   simp
 obtain ⟨vs,rfl,hvl,hk⟩:=ag_inv k
 match vs,hvl with
 | [v0,v1,v2],_ =>
 have k0:=hk 0 v0 _ rfl (List.getElem?_eq_getElem (by omega))
 have k1:=hk 1 v1 _ rfl (List.getElem?_eq_getElem (by omega))
 have k2:=hk 2 v2 _ rfl (List.getElem?_eq_getElem (by omega))
 rw [show ts[0] = .num n from List.cons.inj en |>.1] at k0
 rw [e1] at k1
 rw [e2] at k2
 have:=num_inv k0
 subst this
 exact ⟨v1,v2,rfl,k1.view,k2.mat⟩
 | [],h | [_],h | [_,_],h | _ :: _ :: _ :: _ :: _,h=>simp [hl] at h
theorem under2:Try.prog.underlying 2 = some (.int .i64):=Try.underlying2
theorem cells2:Try.prog.cellsOf 2 = 1:=by kernel_rfl
theorem two_arg {ts:List Tr} (hy:TyT Try.prog 54 ts):∃ a b:Int,Rx.InR a∧Rx.InR b∧∀ h v,AbsT h v (.ag ts)→v = .agg ⟨[int a,int b]⟩:=by
 have f0:=field_of (i:=0) (ft:=3) (off:=0) (by kernel_rfl) hy
 have f1:=field_of (i:=1) (ft:=2) (off:=1) (by kernel_rfl) hy
 have hl:ts.length = 2:=f0.1.trans (by kernel_rfl)
 have f0:=f0.2
 have f1:=f1.2
 rw [cells3,one_of (by omega)] at f0
 rw [cells2,one_of (by omega)] at f1
 obtain ⟨n,en,hn⟩:=ty_num under3 f0
 obtain ⟨m,em,hm⟩:=ty_num under2 f1
 refine ⟨n,m,hn,hm,fun h v k=>?_⟩
 obtain ⟨vs,rfl,hvl,hk⟩:=ag_inv k
 match vs,hvl with
 | [v0,v1],_ =>
 have k0:=hk 0 v0 _ rfl (List.getElem?_eq_getElem (by omega))
 have k1:=hk 1 v1 _ rfl (List.getElem?_eq_getElem (by omega))
 rw [show ts[0] = .num n from List.cons.inj en |>.1] at k0
 rw [show ts[1] = .num m from List.cons.inj em |>.1] at k1
 have h0:=num_inv k0
 have h1:=num_inv k1
 subst h0
 subst h1
 rfl
 | [],h | [_],h | _ :: _ :: _ :: _,h=>simp [hl] at h
end Go.Proofs.Ytedneplaibmppaa
namespace Go.Proofs.Ytedneplaibmppaa
open Go.Rx Go.RowKit
theorem OkS.cut {m:Mac} (h:OkS m):cutI m.i = m.i:=by
 have h1:=h.n12
 have h2:=h.ok.ilen
 have h5:=h.b5
 refine cutI_id (by show m.out.length≤13; omega) (by omega) fun l hl=>?_
 obtain ⟨i,hi,rfl⟩:=List.getElem_of_mem hl
 have:=h.ok.irow (s:=i) (by omega)
 rw [rw_at hi] at this
 omega
theorem OwnM.bx {h0 h:Hp} {cs:List Value} {M:MacI} (k:OwnM h0 h (.agg ⟨cs⟩) M):Bx h cs M:=k.mv.bx
attribute [local irreducible] E idxN cellAt cellsAt storeAt callable helems hmoved lookIn findKey keyOk hentries Hp.at Hp.set Hp.lay arBits hupdated setAt CallP YieldP BoolOf IsWrap Rnd LoopP AppP CutP Int.tmod Int.tdiv Int.fdiv
section
variable [Unknowns]
attribute [local irreducible] ResP sameAt
theorem ats_law (ts0:List Tr) (hy0:TyT Try.prog 25 ts0) (ts1:List Tr) (hy1:TyT Try.prog 54 ts1) (a2:Int) (w2:Rx.InR a2):∀ h vs,AllT h vs [.ag ts0,.ag ts1,.num a2]→CallP E 4 vs h (fun r _=>r = .bool true):=by
 intro h vs hvs
 match vs,hvs with
 | [v0,v1,v2],hvs =>
 obtain ⟨k0,k1,k2,-⟩:=hvs
 obtain ⟨M,hMb,hML,hM⟩:=mac_arg hy0
 obtain ⟨b,x,hb,hx,hP⟩:=two_arg hy1
 have hM:=hM h v0 k0
 have hP:=hP h v1 k1
 subst hP
 cases k2
 obtain ⟨bx,rfl,hbx⟩:=hM.box
 refine enter4 (by simp) ?_
 conv=>whnf
 refine SeqP.cut (α:=Hp) (fun _=>[(3,ptr h.next 0),(4,ptr (h.next + 1) 0),(2,int a2)]) (fun s H=>s = H∧H.at h.next = some (.row 25 true bx)∧H.at (h.next + 1) = some (.row 54 true [int b,int x])∧Grows h H) ?_ ?_
 ·conv=>whnf
  exact ⟨_,⟨rfl,congrArg (fun k=>ptr k 0) (Hp.next_lay _ _),rfl,trivial⟩,⟨rfl,Hp.at_lay_old _ (Hp.at_lay_self _ _),at_nx2 (Hp.next_lay _ _) (Hp.at_lay_self _ _),(Grows.lay _ _).then_lay _⟩,rfl⟩
 rintro H0 φ0 _ ⟨rfl,aX,aP,g0⟩
 conv=>whnf
 refine SeqP.cut (α:=Nat×List Value×Mac×Hp) (fun s=>[(7,ptr s.1 0),(4,ptr (h.next + 1) 0),(2,int a2)]) (fun s H=>s.2.2.2 = H∧OkS s.2.2.1∧H.at s.1 = some (.row 26 true s.2.1)∧Bx H s.2.1 s.2.2.1.i∧Grows H0 H) ?_ ?_
 ·conv=>whnf
  have gl1:Grows H0 (H0.lay (.row 26 true [int 0,nilS,nilS])):=Grows.lay _ _
  have aL:(H0.lay (.row 26 true [int 0,nilS,nilS])).at H0.next = some (.row 26 true [int 0,nilS,nilS]):=Hp.at_lay_self _ _
  have cX:=all_cells (gl1.at_ _ _ aX) hbx.len
  have cP:=cellAt_row (o:=0) (gl1.at_ _ _ aP) rfl
  refine ⟨_,cX,?_⟩
  conv=>whnf
  refine ⟨_,cP,?_⟩
  conv=>whnf
  refine CallP.mono (base_spec b _) ?_
  rintro r _ ⟨⟨B,rfl,hB1,hB2⟩,rfl⟩
  conv=>whnf
  refine CallP.mono (tame_spec _ M B 12 _ (Bx.mv (hbx.ext (g0.trans gl1))) hML ⟨hB1,hB2⟩ (by omega)) ?_
  rintro r H1 ⟨⟨m,hm,hmb,hml,hw⟩,g1⟩
  have hk:=hw.known
  obtain ⟨p,q,rfl⟩:=hk
  have aL1:=g1.at_ _ _ aL
  have hlt:=Hp.lt_of_at aL1
  have hltL:=Hp.lt_of_at aL
  have cX1:=g1.cells cX
  have cP1:=g1.cell cP
  conv=>whnf
  refine ⟨rfl,_,storeAt_full (vs:=[int m.i.base,.slice p m.i.out.length m.i.out.length,.slice q m.i.next.length m.i.next.length]) aL1 rfl rfl rfl,?_⟩
  have hw2:=hw.put hltL (.row 26 true [int m.i.base,.slice p m.i.out.length m.i.out.length,.slice q m.i.next.length m.i.next.length])
  have aX2:∀ o,(H1.set H0.next o).at h.next = some (.row 25 true bx):=fun o=>by
   have:=Hp.lt_of_at aX
   rw [Hp.at_set_ne _ (by omega)]
   exact g1.at_ _ _ (gl1.at_ _ _ aX)
  have aP2:∀ o,(H1.set H0.next o).at (h.next + 1) = some (.row 54 true [int b,int x]):=fun o=>by
   have:=Hp.lt_of_at aP
   rw [Hp.at_set_ne _ (by omega)]
   exact g1.at_ _ _ (gl1.at_ _ _ aP)
  have cX2:=fun o=>all_cells (aX2 o) hbx.len
  have cP2:=fun o=>cellAt_row (o:=0) (aP2 o) rfl
  conv=>whnf
  refine ⟨?_,?_⟩
  ·repeat' (first | exact True.intro | (refine And.intro ?_ ?_ <;> (conv=>whnf)))
   all_goals first
    | exact sameAt_val (h2:=_) rfl (sameV_int _)
    | exact sameAt_val (h2:=_) rfl (sameV_ptr _ _)
    | exact sameAt_val (h2:=_) (congrArg (fun x=>hval _ (aggOf x)) cX) hbx.same
    | exact sameAt_val (h2:=_) (congrArg (fun x=>hval _ (aggOf x)) cX1) hbx.same
    | exact sameAt_val (h2:=_) (congrArg (fun x=>hval _ (aggOf x)) (cX2 _)) hbx.same
    | exact sameAt_val (h2:=_) (congrArg (hval _) cP) (sameV_int _)
    | exact sameAt_val (h2:=_) (congrArg (hval _) cP1) (sameV_int _)
    | exact sameAt_val (h2:=_) (congrArg (hval _) (cP2 _)) (sameV_int _)
    | exact ⟨_,rfl,aL,rfl⟩
    | exact ⟨_,rfl,aL1,rfl⟩
    | exact ⟨_,rfl,Hp.at_set_self _ hlt,rfl⟩
    | trace_state
  exact ⟨(H0.next,_,m,_),⟨rfl,rfl,rfl,trivial⟩,⟨rfl,hm,Hp.at_set_self _ hlt,hw2.mv.bx,(gl1.trans g1).then_set _ (Nat.le_refl _)⟩,rfl⟩
 rintro ⟨N7,b7,m,H1⟩ φ1 _ ⟨rfl,hm,a7,hb7,g1⟩
 dsimp only at hm a7 hb7 g1 ⊢
 have aP1:=g1.at_ _ _ aP
 clear aX aP hbx g0 g1
 conv=>whnf
 refine SeqP.cut (α:=Nat×List Value×Hp) (fun s=>[(8,ptr s.1 0),(7,ptr N7 0),(4,ptr (h.next + 1) 0),(2,int a2)]) (fun s H=>s.2.2 = H∧H.at s.1 = some (.row 25 true s.2.1)∧Bx H s.2.1 m.i∧Grows H1 H) ?_ ?_
 ·conv=>whnf
  refine ⟨_,all_cells a7 hb7.len,?_⟩
  conv=>whnf
  refine CallP.mono (given_spec _ m.i _ (Bx.mv hb7) (lens_of hm)) ?_
  rintro r H2 ⟨hw,g2⟩
  rw [hm.cut] at hw
  have hk:=hw.known
  obtain ⟨p,q,rfl⟩:=hk
  conv=>whnf
  refine ⟨rfl,_,storeAt_all (vs:=[int m.i.base,.slice p m.i.out.length m.i.out.length,.slice q m.i.next.length m.i.next.length]) rfl rfl rfl,?_⟩
  conv=>whnf
  exact ⟨(H2.next,_,_),⟨rfl,rfl,rfl,rfl,trivial⟩,⟨rfl,Hp.at_lay_self _ _,(hw.mv.ext (Grows.lay _ _)).bx,g2.then_lay _⟩,rfl⟩
 rintro ⟨N8,b8,H2⟩ φ2 _ ⟨rfl,a8,hb8,g2⟩
 dsimp only at a8 hb8 g2 ⊢
 have a7:=g2.at_ _ _ a7
 have hb7:=hb7.ext g2
 have aP2:=g2.at_ _ _ aP1
 conv=>whnf
 refine SeqP.cut (α:=Unit) (fun _=>[(9,int x),(8,ptr N8 0),(7,ptr N7 0),(2,int a2)]) (fun _ H=>H2 = H) ?_ ?_
 ·conv=>whnf
  refine ⟨_,cellAt_row aP2 rfl,?_⟩
  conv=>whnf
  exact ⟨(),⟨rfl,rfl,rfl,rfl,trivial⟩,rfl,rfl⟩
 rintro _ φ3 _ rfl
 clear aP1 aP2 g2
 conv=>whnf
 refine SeqP.cut (α:=Hp) (fun _=>[]) (fun _ H=>True) ?_ ?_
 rotate_left
 ·rintro _ φ4 H _
  conv=>whnf
  repeat (refine SeqP.go ?_; conv=>whnf)
  refine CallP.mono (awake_spec _) ?_
  rintro r H5 ⟨rfl,-⟩
  conv=>whnf
  repeat (refine SeqP.go ?_; conv=>whnf)
  rfl
 conv=>whnf
 repeat (refine SeqP.go ?_; conv=>whnf)
 refine loop_inv (α:=Nat×Int×Int×Hp) (fun s=>[(10,int s.1),(9,int s.2.1),(2,int s.2.2.1),(8,ptr N8 0),(7,ptr N7 0)]) (fun s=>s.2.2.2) (fun s=>s.1≤2∧Rx.InR s.2.1∧Rx.InR s.2.2.1∧Grows H2 s.2.2.2) (fun s=>2 - s.1) (0,x,a2,H2) ⟨Nat.zero_le _,hx,w2,.refl _⟩ ⟨rfl,rfl,rfl,rfl,rfl,trivial⟩ (Hp.Le.refl _) ?_
 rintro ⟨k,n,y,H⟩ φ4 ⟨hk,hn,hy,gH⟩
 dsimp only at hk hn hy gH ⊢
 have hn1:=hn.1
 have hn2:=hn.2
 have hy1:=hy.1
 have hy2:=hy.2
 conv=>whnf
 repeat (refine SeqP.go ?_; conv=>whnf)
 refine cmpB (fun hlt=>?_) (fun hlt=>?_)
 rotate_left
 ·conv=>whnf
  repeat (refine SeqP.go ?_; conv=>whnf)
  exact ⟨H,trivial,trivial,rfl⟩
 conv=>whnf
 refine SeqP.go ?_
 conv=>whnf
 refine SeqP.cut (α:=Int×Int×Hp) (fun s=>[(11,int s.1),(12,int s.2.1),(10,int k),(9,int n),(2,int y),(8,ptr N8 0),(7,ptr N7 0)]) (fun s H'=>s.2.2 = H'∧(n < 0→s.1 = 0∧s.2.1 = 1)∧(0≤n→s.1 = m.at_ 0 n.toNat∧s.2.1 = 0)∧Grows H2 s.2.2) ?_ ?_
 ·conv=>whnf
  refine ⟨_,all_cells (gH.at_ _ _ a8) hb8.len,?_⟩
  conv=>whnf
  refine CallP.mono (At_spec _ m n _ (Bx.mv (hb8.ext gH)) hm hn2) ?_
  rintro r H3 ⟨⟨hr1,hr2⟩,g3⟩
  by_cases hneg:n < 0
  ·have hr:=hr1 hneg
   subst hr
   conv=>whnf
   exact ⟨(0,1,H3),⟨rfl,rfl,rfl,rfl,rfl,rfl,rfl,trivial⟩,⟨rfl,fun _=>⟨rfl,rfl⟩,fun q=>by omega,gH.trans g3⟩,rfl⟩
  ·have hr:=hr2 (by omega)
   subst hr
   conv=>whnf
   exact ⟨(_,0,H3),⟨rfl,rfl,rfl,rfl,rfl,rfl,rfl,trivial⟩,⟨rfl,fun q=>by omega,fun _=>⟨rfl,rfl⟩,gH.trans g3⟩,rfl⟩
 rintro ⟨a,e,H3⟩ φ5 _ ⟨rfl,ha1,ha2,g3⟩
 dsimp only at ha1 ha2 g3 ⊢
 conv=>whnf
 refine SeqP.cut (α:=Option Addr×List Int×Int×Hp) (fun s=>[(13,.slice s.1 s.2.1.length s.2.1.length),(14,int s.2.2.1),(11,int a),(12,int e),(10,int k),(9,int n),(2,int y),(8,ptr N8 0),(7,ptr N7 0)]) (fun s H'=>s.2.2.2 = H'∧(y < 0∨1000 < y→s.2.1 = []∧s.2.2.1 = 1)∧(0≤y→y≤1000→s.2.1 = seqL m y.toNat∧s.2.2.1 = 0)∧Grows H2 s.2.2.2∧View s.2.2.2 (.slice s.1 s.2.1.length s.2.1.length) s.2.1) ?_ ?_
 ·conv=>whnf
  refine ⟨_,all_cells (g3.at_ _ _ a8) hb8.len,?_⟩
  conv=>whnf
  refine CallP.mono (First_spec _ m y _ (Bx.mv (hb8.ext g3)) hm) ?_
  rintro r H4 ⟨⟨hr1,hr2⟩,g4⟩
  by_cases hbad:y < 0∨1000 < y
  ·have hr:=hr1 hbad
   subst hr
   conv=>whnf
   exact ⟨(none,[],1,H4),⟨rfl,rfl,rfl,rfl,rfl,rfl,rfl,rfl,rfl,trivial⟩,⟨rfl,fun _=>⟨rfl,rfl⟩,fun q q2=>by omega,g3.trans g4,Built.view (h0:=H4) (e:=3) (.inl ⟨rfl,rfl⟩)⟩,rfl⟩
  ·have hr:=hr2 (by omega) (by omega)
   obtain ⟨w,rfl,hw⟩:=hr
   have hws:=hw.c.slice
   obtain ⟨aw,rfl,-⟩:=hws
   conv=>whnf
   exact ⟨(aw,seqL m y.toNat,0,H4),⟨rfl,rfl,rfl,rfl,rfl,rfl,rfl,rfl,rfl,trivial⟩,⟨rfl,fun q=>by omega,fun _ _=>⟨rfl,rfl⟩,g3.trans g4,hw.view⟩,rfl⟩
 rintro ⟨aw,L,e2,H4⟩ φ6 _ ⟨rfl,hL1,hL2,g4,vL⟩
 dsimp only at hL1 hL2 g4 vL ⊢
 clear g3
 conv=>whnf
 refine SeqP.cut (α:=Hp) (fun s=>[(13,.slice aw L.length L.length),(14,int e2),(10,int k),(9,int n),(2,int y),(8,ptr N8 0),(7,ptr N7 0)]) (fun s H'=>s = H'∧Grows H4 H') ?_ ?_
 ·by_cases hneg:n < 0
  ·have ha:=ha1 hneg
   obtain ⟨rfl,rfl⟩:=ha
   conv=>whnf
   repeat (refine SeqP.go ?_; conv=>whnf)
   refine cmpT hneg ?_
   conv=>whnf
   refine cmpF (by omega) ?_
   conv=>whnf
   refine cmpF (by omega) ?_
   conv=>whnf
   refine cmpF (by omega) ?_
   conv=>whnf
   exact ⟨H4,⟨rfl,rfl,rfl,rfl,rfl,rfl,rfl,trivial⟩,⟨rfl,.refl _⟩,rfl⟩
  ·have ha:=ha2 (by omega)
   obtain ⟨rfl,rfl⟩:=ha
   have hexk:∃ z:Nat,n = z:=⟨n.toNat,by omega⟩
   obtain ⟨z,rfl⟩:=hexk
   rw [Int.toNat_natCast]
   conv=>whnf
   repeat (refine SeqP.go ?_; conv=>whnf)
   refine cmpF hneg ?_
   conv=>whnf
   refine cmpT (by omega) ?_
   conv=>whnf
   refine cmpF (by omega) ?_
   conv=>whnf
   refine ⟨_,all_cells (g4.at_ _ _ a7) hb7.len,?_⟩
   conv=>whnf
   refine CallP.mono (RAt_spec _ m 0 z _ (Bx.mv (hb7.ext g4)) hm.ok ⟨hm.b2,by have:=hm.b5; omega⟩ hm.ok.n1 (by have:=hm.n12; omega) (by omega)) ?_
   rintro r H5 ⟨rfl,g5⟩
   conv=>whnf
   refine cmpF (fun q=>q rfl) ?_
   conv=>whnf
   exact ⟨H5,⟨rfl,rfl,rfl,rfl,rfl,rfl,rfl,trivial⟩,⟨rfl,g5⟩,rfl⟩
 rintro H5 φ7 _ ⟨rfl,g5⟩
 have vL:=vL.ext g5
 have g4:=g4.trans g5
 clear g5 ha1 ha2
 conv=>whnf
 refine SeqP.cut (α:=Hp) (fun s=>[(10,int k),(9,int n),(2,int y),(8,ptr N8 0),(7,ptr N7 0)]) (fun s H'=>s = H'∧Grows H5 H') ?_ ?_
 rotate_left
 ·rintro H6 φ8 _ ⟨rfl,g6⟩
  have hux:=u64_of n
  obtain ⟨u,u0,u1,hu⟩:=hux
  have hux:=u64_of y
  obtain ⟨w,w0,w1,hw⟩:=hux
  have e1:=tmod_bd w0 (show (0:Int) < 200 by omega)
  have e4:u.fdiv 4 = u / 4:=Int.fdiv_eq_ediv_of_nonneg _ (by omega)
  conv=>whnf
  repeat (refine SeqP.go ?_; conv=>whnf)
  refine ⟨u,hu,?_⟩
  conv=>whnf
  refine ⟨by omega,?_⟩
  conv=>whnf
  refine ⟨u / 4,wie e4 (by omega),?_⟩
  conv=>whnf
  repeat (refine SeqP.go ?_; conv=>whnf)
  refine ⟨w,hw,?_⟩
  conv=>whnf
  refine ⟨by omega,?_⟩
  conv=>whnf
  refine ⟨w.tmod 200,wid (by omega),?_⟩
  conv=>whnf
  repeat (refine SeqP.go ?_; conv=>whnf)
  refine ⟨_,wid (by omega),?_⟩
  conv=>whnf
  exact Rnd.mk (k + 1,u / 4,w.tmod 200,H6) ⟨by show k + 1≤2; omega,by unfold Rx.InR; show -9223372036854775808≤u / 4∧u / 4 < 9223372036854775808; omega,by unfold Rx.InR; show -9223372036854775808≤w.tmod 200∧w.tmod 200 < 9223372036854775808; omega,g4.trans g6⟩ (by show 2 - (k + 1) < 2 - k; omega) ⟨rfl,rfl,rfl,rfl,rfl,trivial⟩ (Hp.Le.refl _) rfl
 by_cases hbad:y < 0∨1000 < y
 ·have hL:=hL1 hbad
  obtain ⟨rfl,rfl⟩:=hL
  by_cases hneg:y < 0
  ·conv=>whnf
   repeat (refine SeqP.go ?_; conv=>whnf)
   refine cmpT hneg ?_
   conv=>whnf
   repeat (refine SeqP.go ?_; conv=>whnf)
   refine cmpF (by omega) ?_
   conv=>whnf
   refine cmpF (fun q=>q rfl) ?_
   conv=>whnf
   exact ⟨H5,⟨rfl,rfl,rfl,rfl,rfl,trivial⟩,⟨rfl,.refl _⟩,rfl⟩
  ·conv=>whnf
   repeat (refine SeqP.go ?_; conv=>whnf)
   refine cmpF hneg ?_
   conv=>whnf
   refine cmpT (by omega) ?_
   conv=>whnf
   repeat (refine SeqP.go ?_; conv=>whnf)
   refine cmpF (by omega) ?_
   conv=>whnf
   refine cmpF (fun q=>q rfl) ?_
   conv=>whnf
   exact ⟨H5,⟨rfl,rfl,rfl,rfl,rfl,trivial⟩,⟨rfl,.refl _⟩,rfl⟩
 have hL:=hL2 (by omega) (by omega)
 obtain ⟨eL,rfl⟩:=hL
 have hexk:∃ z:Nat,y = z:=⟨y.toNat,by omega⟩
 obtain ⟨z,rfl⟩:=hexk
 rw [Int.toNat_natCast] at eL
 have hll:L.length = z:=by rw [eL,seqL_len]
 have hgl:∀ j,j < z→gl L j = m.at_ 0 j:=fun j hj=>by
  rw [gl_at (by omega)]
  simp only [eL,seqL,List.getElem_map,List.getElem_range]
 clear eL hL1 hL2
 conv=>whnf
 repeat (refine SeqP.go ?_; conv=>whnf)
 refine cmpF (by omega) ?_
 conv=>whnf
 refine cmpF (by omega) ?_
 conv=>whnf
 repeat (refine SeqP.go ?_; conv=>whnf)
 refine cmpF (by omega) ?_
 conv=>whnf
 refine cmpF (by omega) ?_
 conv=>whnf
 repeat (refine SeqP.go ?_; conv=>whnf)
 refine loop_inv (α:=Nat×Hp) (fun s=>[(15,int s.1),(13,.slice aw L.length L.length),(10,int k),(9,int n),(2,int z),(8,ptr N8 0),(7,ptr N7 0)]) (fun s=>s.2) (fun s=>s.1≤z∧Grows H5 s.2) (fun s=>z - s.1) (0,H5) ⟨Nat.zero_le _,.refl _⟩ ⟨rfl,rfl,rfl,rfl,rfl,rfl,rfl,trivial⟩ (Hp.Le.refl _) ?_
 rintro ⟨j,G⟩ φ8 ⟨hj,gG⟩
 dsimp only at hj gG ⊢
 conv=>whnf
 repeat (refine SeqP.go ?_; conv=>whnf)
 refine cmpB (fun hlt2=>?_) (fun hlt2=>?_)
 rotate_left
 ·conv=>whnf
  repeat (refine SeqP.go ?_; conv=>whnf)
  exact ⟨G,⟨rfl,rfl,rfl,rfl,rfl,trivial⟩,⟨rfl,gG⟩,rfl⟩
 have hj':j < z:=by omega
 have hcl:=View.cellg (vL.ext gG) (i:=j) (by omega)
 obtain ⟨r3,o3,sp3,ea,hsp3,-,hc3⟩:=hcl
 subst ea
 have hgj:=hgl j hj'
 have hex:∃ t,m.at_ 0 j = t:=⟨_,rfl⟩
 obtain ⟨t,et⟩:=hex
 rw [hgj,et] at hc3
 have c7:=all_cells ((g4.trans gG).at_ _ _ a7) hb7.len
 have hra:=RAt_spec (.agg ⟨b7⟩) m 0 j G (Bx.mv (hb7.ext (g4.trans gG))) hm.ok ⟨hm.b2,by have:=hm.b5; omega⟩ hm.ok.n1 (by have:=hm.n12; omega) (by omega)
 rw [et] at hra
 conv=>whnf
 repeat (refine SeqP.go ?_; conv=>whnf)
 refine ⟨hsp3,⟨by omega,by omega⟩,?_⟩
 conv=>whnf
 refine ⟨_,hc3,?_⟩
 conv=>whnf
 refine ⟨_,c7,?_⟩
 conv=>whnf
 refine CallP.mono hra ?_
 rintro r G2 ⟨rfl,gG2⟩
 have c72:=gG2.cells c7
 have hc32:=gG2.cell hc3
 conv=>whnf
 refine cmpF (fun q=>q rfl) ?_
 conv=>whnf
 refine ⟨?_,?_⟩
 ·repeat' (first | exact True.intro | (refine And.intro ?_ ?_ <;> (conv=>whnf)))
  all_goals first
   | exact sameAt_val (h2:=_) rfl (sameV_int _)
   | exact sameAt_val (h2:=_) rfl (sameV_ptr _ _)
   | exact sameAt_val (h2:=_) rfl (sameV_slice _ _ _)
   | exact sameAt_val (h2:=_) (congrArg (fun x=>hval _ (aggOf x)) c7) hb7.same
   | exact sameAt_val (h2:=_) (congrArg (fun x=>hval _ (aggOf x)) c72) hb7.same
   | exact sameAt_val (h2:=_) (congrArg (hval _) hc3) (sameV_int _)
   | exact sameAt_val (h2:=_) (congrArg (hval _) hc32) (sameV_int _)
   | exact sameAt_val (h2:=_) (show hval _ (idxSV 1 (.slice (some ⟨_,_,_⟩) _ _) (int _)) = _ from idxS_val' hsp3 ⟨by omega,by omega⟩) (sameV_ptr _ _)
   | trace_state
 conv=>whnf
 repeat (refine SeqP.go ?_; conv=>whnf)
 refine ⟨((j + 1:Nat):Int),wie (by omega) (by omega),?_⟩
 conv=>whnf
 exact Rnd.mk (j + 1,G2) ⟨by show j + 1≤z; omega,gG.trans gG2⟩ (by show z - (j + 1) < z - j; omega) ⟨rfl,rfl,rfl,rfl,rfl,rfl,rfl,trivial⟩ (Hp.Le.refl _) rfl
end
end Go.Proofs.Ytedneplaibmppaa
