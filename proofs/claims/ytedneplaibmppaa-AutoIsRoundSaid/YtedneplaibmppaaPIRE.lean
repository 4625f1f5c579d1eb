/- Contracts of the functions that PIRG comes to. -/
import Derived.Test.YtedneplaibmppaaPIRD
import Derived.Test.YtedneplaibmppaaAAwake
import Derived.Test.YtedneplaibmppaaWx19
import Derived.Test.YtedneplaibmppaaWx22
import Derived.Test.YtedneplaibmppaaWx23
set_option maxRecDepth 100000
set_option maxHeartbeats 2000000
set_option linter.unusedVariables false
set_option linter.unusedSectionVars false
set_option linter.unusedSimpArgs false
namespace Go.Proofs.Ytedneplaibmppaa
open Go.Rx Go.RowKit
theorem Mj (ls:List Int) (i:Nat) (v:Int) (hi:i < ls.length) (j:Nat):gl (ls.set i v) j = if j = i then v else gl ls j:=by
 unfold gl
 rw [List.getD_eq_getElem?_getD,List.getD_eq_getElem?_getD]
 by_cases h:j = i
 ·subst h
  rw [if_pos rfl,List.getElem?_set_self hi]
  rfl
 ·rw [if_neg h,List.getElem?_set_ne (by omega)]
theorem Dk {a b:List Int} (hl:a.length = b.length) (h:∀ j,j < a.length→gl a j = gl b j):a = b:=by
 refine List.ext_getElem hl fun i h1 h2=>?_
 have:=h i h1
 rw [nA h1,nA h2] at this
 exact this
theorem Kn (z:Int) (n:Nat):times [int z] n = (List.replicate n z).map int:=by
 rw [Qq]
 unfold aau
 rw [List.map_replicate,List.map_const',List.length_range]
theorem u7 {H:Hp} {r n:Nat} {e:TypeId} {ls:List Int} (a:H.at r = some (.row e true (ls.map int))) (hl:ls.length = n):View H (slc r 0 n n) ls:=by
 subst hl
 exact Built.view (h0:=⟨0,H.raw⟩) (e:=e) (.inr ⟨r,rfl,Nat.zero_le _,true,a⟩)
theorem ada {b k:Nat} (hb:b≤5) (hk:k≤12):b ^ k≤300000000:=by
 have h1:b ^ k≤5 ^ k:=Nat.pow_le_pow_left hb k
 have h2:5 ^ k≤5 ^ 12:=Nat.pow_le_pow_right (by omega) hk
 have h3:5 ^ 12 = 244140625:=rfl
 omega
attribute [local irreducible] E iV cellAt bM storeAt callable dz dI dP findKey eD bT Hp.at Hp.set Hp.lay dO dw setAt aJ dA bO dG Rnd gD fK iN Int.tmod Int.tdiv Int.fdiv
section
variable [bE]
attribute [local irreducible] sameAt
theorem OV (v:Value) (al:Option Addr) (cl:Nat) (ls:List Int) (m:Mac) (s:Nat) (h:Hp) (hv:MV h v m.i) (hm:m.Ok) (hb:m.base≤5) (hl:m.out.length≤1000) (hs:s < m.out.length) (hlv:View h (.slice al ls.length cl) ls) (hll:ls.length = m.out.length) (hbd:∀ j,j < m.out.length→-1≤gl ls j∧gl ls j≤300000000):aJ E 98 [v,.slice al ls.length cl,int s] h (fun r h'=>r = int (m.lY ls s m.base)∧aC h h'):=by
 obtain ⟨bx,rfl,hbx⟩:=hv.box
 obtain ⟨ao,an,co,cn,hcx⟩:=hbx.cx
 have hb1:=hm.b1
 have hil:=hm.yT
 refine enter98 (by simp) ?_
 conv=>whnf
 refine ak.cut (α:=Hp) (fun _=>[(6,int 0),(3,ptr h.next 0),(2,int s),(1,.slice al ls.length cl)]) (fun x H=>x = H∧aC h H∧H.at h.next = some (.row 25 true bx)) ?_ ?_
 ·conv=>whnf
  exact ⟨_,⟨rfl,rfl,rfl,rfl,trivial⟩,⟨rfl,aC.lay _ _,Hp.aA _ _⟩,rfl⟩
 rintro H φ1 _ ⟨rfl,gH,aX⟩
 have kx:=hcx H h.next 25 gH aX
 have c0:cellAt H h.next 0 = some (int (m.base:Int)):=kx.c0
 have c2:=kx.c2
 have hvH:=hlv.ext gH
 conv=>whnf
 refine ak.go ?_
 conv=>whnf
 refine ak.cut (α:=Unit) (fun _=>[(7,int (m.lY ls s m.base)),(6,int 0)]) (fun _ H2=>H = H2) ?_ ?_
 rotate_left
 ·rintro _ φ2 _ rfl
  conv=>whnf
  repeat (refine ak.go ?_; conv=>whnf)
  exact ⟨rfl,gH⟩
 have hrw:=kx.rowAt (i:=s) (by rw [hil]; exact hs)
 obtain ⟨r1,o1,sp1,a',c',rfl,hsp1,hc1,hvr⟩:=hrw
 have erl:(rw_ m.i.next s).length = m.base:=hm.Uv hs
 rw [erl] at hc1 hvr
 conv=>whnf
 repeat (refine ak.go ?_; conv=>whnf)
 refine ⟨_,c2,?_⟩
 conv=>whnf
 refine ⟨hsp1,⟨by omega,by omega⟩,?_⟩
 conv=>whnf
 refine ⟨_,hc1,?_⟩
 conv=>whnf
 repeat (refine ak.go ?_; conv=>whnf)
 refine bQ (α:=Nat) (fun d=>[(7,int (m.lY ls s d)),(17,int d),(16,int m.base),(15,.slice a' m.base c'),(3,ptr h.next 0),(2,int s),(1,.slice al ls.length cl),(6,int 0)]) (fun _=>H) (fun d=>d≤m.base) (fun d=>m.base - d) 0 (Nat.zero_le _) ⟨rfl,rfl,rfl,rfl,rfl,rfl,rfl,rfl,trivial⟩ (Hp.Le.refl _) ?_
 rintro d φ3 hd
 conv=>whnf
 repeat (refine ak.go ?_; conv=>whnf)
 refine dB (fun hlt=>?_) (fun hlt=>?_)
 rotate_left
 ·conv=>whnf
  repeat (refine ak.go ?_; conv=>whnf)
  have:d = m.base:=by omega
  subst this
  repeat (refine ak.go ?_; conv=>whnf)
  exact ⟨(),⟨rfl,rfl,trivial⟩,rfl,rfl⟩
 have hd':d < m.base:=by omega
 have hnx:=View.iO hvr (i:=d) (by rw [erl]; exact hd')
 obtain ⟨r2,o2,sp2,ea,hsp2,-,hc2⟩:=hnx
 subst ea
 rw [Mac.Xl] at hc2
 have hn:=hm.lt s d hs hd'
 have Ir:∃ t,m.nx s d = t:=⟨_,rfl⟩
 obtain ⟨t,et⟩:=Ir
 have hlF:m.lY ls s (d + 1) = if gl ls t < 0 then m.lY ls s d else if m.lY ls s d < 0∨gl ls t * m.base + d < m.lY ls s d then gl ls t * m.base + d else m.lY ls s d:=by rw [← et]; rfl
 rw [et] at hc2 hn
 have hcl:=View.iO hvH (i:=t) (by omega)
 obtain ⟨r3,o3,sp3,ea,xg,-,hc3⟩:=hcl
 subst ea
 have hG:=hbd t hn
 have adb:∃ G,gl ls t = G:=⟨_,rfl⟩
 obtain ⟨G,eG⟩:=adb
 rw [eG] at hG hc3 hlF
 have rz:∃ L,m.lY ls s d = L:=⟨_,rfl⟩
 obtain ⟨L,eL⟩:=rz
 rw [eL] at hlF
 rw [eL]
 conv=>whnf
 repeat (refine ak.go ?_; conv=>whnf)
 refine ⟨hsp2,⟨by omega,by omega⟩,?_⟩
 conv=>whnf
 refine ⟨_,hc2,?_⟩
 conv=>whnf
 repeat (refine ak.go ?_; conv=>whnf)
 refine ⟨xg,⟨by omega,by omega⟩,?_⟩
 conv=>whnf
 refine ⟨_,hc3,?_⟩
 conv=>whnf
 by_cases hneg:G < 0
 ·rw [if_pos hneg] at hlF
  refine yG hneg ?_
  conv=>whnf
  repeat (refine ak.go ?_; conv=>whnf)
  refine ⟨_,wid (by omega),?_⟩
  conv=>whnf
  refine Rnd.mk (d + 1) (by show d + 1≤_; omega) (by show m.base - (d + 1) < m.base - d; omega) ⟨congrArg int hlF.symm,rfl,rfl,rfl,rfl,rfl,rfl,rfl,trivial⟩ (Hp.Le.refl _) rfl
 rw [if_neg hneg] at hlF
 refine yH hneg ?_
 conv=>whnf
 have abW:=Int.mul_nonneg (show 0≤G by omega) (Int.natCast_nonneg m.base)
 have abX:=Int.mul_le_mul hG.2 (show (m.base:Int)≤5 by omega) (Int.natCast_nonneg m.base) (by omega)
 have aaU:∃ P,G * (m.base:Int) = P:=⟨_,rfl⟩
 obtain ⟨P,eP⟩:=aaU
 rw [eP] at abW abX hlF
 repeat (refine ak.go ?_; conv=>whnf)
 refine ⟨xg,⟨by omega,by omega⟩,?_⟩
 conv=>whnf
 refine ⟨_,hc3,?_⟩
 conv=>whnf
 refine ⟨_,c0,?_⟩
 conv=>whnf
 refine ⟨P,wie eP (by omega),?_⟩
 conv=>whnf
 refine ⟨P + d,wie (by omega) (by omega),?_⟩
 conv=>whnf
 repeat (refine ak.go ?_; conv=>whnf)
 refine dB (fun hL=>?_) (fun hL=>?_)
 ·rw [if_pos (.inl hL)] at hlF
  conv=>whnf
  repeat (refine ak.go ?_; conv=>whnf)
  refine ⟨_,wid (by omega),?_⟩
  conv=>whnf
  exact Rnd.mk (d + 1) (by show d + 1≤_; omega) (by show m.base - (d + 1) < m.base - d; omega) ⟨congrArg int hlF.symm,rfl,rfl,rfl,rfl,rfl,rfl,rfl,trivial⟩ (Hp.Le.refl _) rfl
 ·conv=>whnf
  refine dB (fun hL2=>?_) (fun hL2=>?_)
  ·rw [if_pos (.inr hL2)] at hlF
   conv=>whnf
   repeat (refine ak.go ?_; conv=>whnf)
   refine ⟨_,wid (by omega),?_⟩
   conv=>whnf
   exact Rnd.mk (d + 1) (by show d + 1≤_; omega) (by show m.base - (d + 1) < m.base - d; omega) ⟨congrArg int hlF.symm,rfl,rfl,rfl,rfl,rfl,rfl,rfl,trivial⟩ (Hp.Le.refl _) rfl
  ·rw [if_neg (by omega)] at hlF
   conv=>whnf
   repeat (refine ak.go ?_; conv=>whnf)
   refine ⟨_,wid (by omega),?_⟩
   conv=>whnf
   exact Rnd.mk (d + 1) (by show d + 1≤_; omega) (by show m.base - (d + 1) < m.base - d; omega) ⟨congrArg int hlF.symm,rfl,rfl,rfl,rfl,rfl,rfl,rfl,trivial⟩ (Hp.Le.refl _) rfl
theorem UM (v:Value) (m:Mac) (out:Int) (h:Hp) (hv:MV h v m.i) (hm:OkS m):aJ E 80 [v,int out] h (fun r h'=>(∃ b,r = .tuple ⟨[int (max (gl (m.evK out m.out.length) 0) 0),.bool b]⟩∧bO b (0≤gl (m.evK out m.out.length) 0))∧aC h h'):=by
 obtain ⟨bx,rfl,hbx⟩:=hv.box
 obtain ⟨ao,an,co,cn,hcx⟩:=hbx.cx
 have hlenx:=hbx.len
 have tJ:=hm.n12
 have hn1:=hm.ok.n1
 have hb5:=hm.b5
 have Ir:∃ n,m.out.length = n:=⟨_,rfl⟩
 obtain ⟨n,en⟩:=Ir
 rw [en] at tJ hn1
 have bd:∀ k,k≤n→∀ j,j < n→-1≤gl (m.evK out k) j∧gl (m.evK out k) j≤300000000:=fun k hk j hj=>by
  have h1:=Mac.aaT hm.ok out (k:=k) (s:=j) (by omega)
  have h2:=ada hb5 (k:=k) (by omega)
  omega
 refine enter80 (by simp) ?_
 conv=>whnf
 refine ak.cut (α:=Hp) (fun _=>[(2,ptr h.next 0),(1,int out)]) (fun x H=>x = H∧aC h H∧H.at h.next = some (.row 25 true bx)) ?_ ?_
 ·conv=>whnf
  exact ⟨_,⟨rfl,rfl,trivial⟩,⟨rfl,aC.lay _ _,Hp.aA _ _⟩,rfl⟩
 rintro H φ1 _ ⟨rfl,gH,aX⟩
 have kxH:∀ H2,aC H H2→Cx H2 h.next m.i ao an co cn:=fun H2 g=>hcx H2 h.next 25 (gH.trans g) (g.at_ _ _ aX)
 have c1H:∀ H2,aC H H2→cellAt H2 h.next 1 = some (.slice ao n co):=fun H2 g=>by rw [← en]; exact (kxH H2 g).c1
 conv=>whnf
 refine ak.cut (α:=Hp) (fun _=>[(6,slc H.next 0 n n),(2,ptr h.next 0),(1,int out)]) (fun x H2=>x = H2∧aC H H2∧H2.at H.next = some (.row 2 true ((List.replicate n 0).map int))) ?_ ?_
 ·conv=>whnf
  refine ⟨_,c1H _ (.refl _),?_⟩
  conv=>whnf
  refine ⟨⟨by omega,by omega,by omega,by omega⟩,?_⟩
  conv=>whnf
  refine ⟨_,⟨rfl,rfl,rfl,trivial⟩,⟨rfl,aC.lay _ _,?_⟩,rfl⟩
  rw [← Kn]
  exact Hp.aA _ _
 rintro H2 φ2 _ ⟨rfl,g2,aF⟩
 conv=>whnf
 refine ak.cut (α:=Hp) (fun _=>[(6,slc H.next 0 n n),(2,ptr h.next 0),(1,int out)]) (fun x H3=>x = H3∧aC H H3∧H3.at H.next = some (.row 2 true ((m.evK out 0).map int))) ?_ ?_
 ·conv=>whnf
  repeat (refine ak.go ?_; conv=>whnf)
  refine ⟨_,c1H _ g2,?_⟩
  conv=>whnf
  repeat (refine ak.go ?_; conv=>whnf)
  refine bQ (α:=Nat×List Int×Hp) (fun s=>[(18,int s.1),(17,int n),(16,.slice ao n co),(6,slc H.next 0 n n),(2,ptr h.next 0),(1,int out)]) (fun s=>s.2.2) (fun s=>s.1≤n∧s.2.1.length = n∧(∀ j,j < s.1→gl s.2.1 j = if m.o j = out then 0 else -1)∧aC H s.2.2∧s.2.2.at H.next = some (.row 2 true (s.2.1.map int))) (fun s=>n - s.1) (0,List.replicate n 0,_) ⟨Nat.zero_le _,List.length_replicate,fun j hj=>absurd hj (Nat.not_lt_zero _),g2,aF⟩ ⟨rfl,rfl,rfl,rfl,rfl,rfl,trivial⟩ (Hp.Le.refl _) ?_
  rintro ⟨i,ls,G⟩ φ3 ⟨hi,hls,ER,gG,aG⟩
  dsimp only at hi hls ER gG aG ⊢
  conv=>whnf
  repeat (refine ak.go ?_; conv=>whnf)
  refine dB (fun hlt=>?_) (fun hlt=>?_)
  rotate_left
  ·conv=>whnf
   repeat (refine ak.go ?_; conv=>whnf)
   have:i = n:=by omega
   subst this
   refine ⟨G,⟨rfl,rfl,rfl,trivial⟩,⟨rfl,gG,?_⟩,rfl⟩
   have e:m.evK out 0 = ls:=Dk (by rw [Mac.oH,hls,en]) fun j hj=>by
    rw [Mac.oH,en] at hj
    rw [ER j hj,nA (by rw [Mac.oH,en]; exact hj)]
    have e2:m.o j = m.out[j]:=nA (by rw [en]; exact hj)
    simp [Mac.evK,e2]
   rw [e]
   exact aG
  have hi':i < n:=by omega
  have hol:=(kxH G gG).EY (s:=i) (by omega)
  obtain ⟨r2,o2,sp2,ea,hsp2,hc2⟩:=hol
  subst ea
  have aG1:(G.set H.next (.row 2 true ((ls.map int).set i (int (-1))))).at H.next = some (.row 2 true ((ls.set i (-1)).map int)):=by
   rw [List.map_set]
   exact Hp.bH _ (Hp.aU aG)
  have gG1:aC H (G.set H.next (.row 2 true ((ls.map int).set i (int (-1))))):=gG.dD _ (Nat.le_refl _)
  refine ⟨hsp2,⟨by omega,by omega⟩,?_⟩
  conv=>whnf
  refine ⟨_,hc2,?_⟩
  conv=>whnf
  repeat (refine ak.go ?_; conv=>whnf)
  refine ⟨rfl,⟨by omega,by omega⟩,?_⟩
  conv=>whnf
  refine ⟨rfl,_,iH aG (by rw [List.length_map,Int.toNat_natCast]; omega) rfl,?_⟩
  conv=>whnf
  repeat (refine ak.go ?_; conv=>whnf)
  refine dB (fun heq=>?_) (fun heq=>?_)
  ·conv=>whnf
   repeat (refine ak.go ?_; conv=>whnf)
   refine ⟨rfl,⟨by omega,by omega⟩,?_⟩
   conv=>whnf
   refine ⟨rfl,_,iH aG1 (by rw [List.length_map,List.length_set,Int.toNat_natCast]; omega) rfl,?_⟩
   conv=>whnf
   repeat (refine ak.go ?_; conv=>whnf)
   refine ⟨_,wid (by omega),?_⟩
   conv=>whnf
   refine Rnd.mk (i + 1,(ls.set i (-1)).set i 0,_) ⟨by show i + 1≤_; omega,?_,?_,gG1.dD (.row 2 true (((ls.set i (-1)).map int).set i (int 0))) (Nat.le_refl _),?_⟩ (by show n - (i + 1) < n - i; omega) ⟨rfl,rfl,rfl,rfl,rfl,rfl,trivial⟩ (Hp.Le.refl _) rfl
   ·show ((ls.set i (-1)).set i 0).length = n
    rw [List.length_set,List.length_set,hls]
   ·intro j hj
    show gl ((ls.set i (-1)).set i 0) j = _
    rw [Mj _ _ _ (by rw [List.length_set]; omega)]
    by_cases e:j = i
    ·subst e; rw [if_pos rfl,if_pos heq]
    ·rw [if_neg e,Mj _ _ _ (by omega),if_neg e]
     exact ER j (by have:j < i + 1:=hj; omega)
   ·show (Hp.set _ _ _).at H.next = some (.row 2 true (((ls.set i (-1)).set i 0).map int))
    rw [show ((ls.set i (-1)).set i 0).map int = ((ls.set i (-1)).map int).set i (int 0) from List.map_set]
    exact Hp.bH _ (Hp.aU aG1)
  ·conv=>whnf
   repeat (refine ak.go ?_; conv=>whnf)
   refine ⟨_,wid (by omega),?_⟩
   conv=>whnf
   refine Rnd.mk (i + 1,ls.set i (-1),_) ⟨by show i + 1≤_; omega,?_,?_,gG1,aG1⟩ (by show n - (i + 1) < n - i; omega) ⟨rfl,rfl,rfl,rfl,rfl,rfl,trivial⟩ (Hp.Le.refl _) rfl
   ·show (ls.set i (-1)).length = n
    rw [List.length_set,hls]
   ·intro j hj
    show gl (ls.set i (-1)) j = _
    rw [Mj _ _ _ (by omega)]
    by_cases e:j = i
    ·subst e; rw [if_pos rfl,if_neg heq]
    ·rw [if_neg e]
     exact ER j (by have:j < i + 1:=hj; omega)
 rintro H3 φ3 _ ⟨rfl,g3,a3⟩
 conv=>whnf
 refine ak.cut (α:=Nat×Hp) (fun s=>[(6,slc s.1 0 n n)]) (fun s H4=>s.2 = H4∧aC H s.2∧s.2.at s.1 = some (.row 2 true ((m.evK out n).map int))) ?_ ?_
 rotate_left
 ·rintro ⟨r,H4⟩ φ4 _ ⟨rfl,g4,a4⟩
  dsimp only at g4 a4 ⊢
  have hvw:=View.iO (u7 a4 (by rw [Mac.oH,en])) (i:=0) (by rw [Mac.oH]; omega)
  obtain ⟨r5,o5,sp5,ea,E8,-,hc5⟩:=hvw
  injection ea with ea
  injection ea with e1 e2 e3
  subst e1; subst e2; subst e3
  have XH:∃ x,gl (m.evK out n) 0 = x:=⟨_,rfl⟩
  obtain ⟨x,ex⟩:=XH
  rw [ex] at hc5
  have ade:=bd n (Nat.le_refl _) 0 hn1
  rw [ex] at ade
  rw [en,ex]
  conv=>whnf
  repeat (refine ak.go ?_; conv=>whnf)
  refine ⟨E8,⟨by omega,by omega⟩,?_⟩
  conv=>whnf
  refine ⟨_,hc5,?_⟩
  conv=>whnf
  refine ⟨E8,⟨by omega,by omega⟩,?_⟩
  conv=>whnf
  refine ⟨_,hc5,?_⟩
  conv=>whnf
  refine dB (fun hge=>?_) (fun hge=>?_)
  ·conv=>whnf
   repeat (refine ak.go ?_; conv=>whnf)
   exact ⟨⟨true,congrArg (fun z=>Value.tuple ⟨[z,.bool true]⟩) (FK x 0),pU hge⟩,gH.trans g4⟩
  ·conv=>whnf
   repeat (refine ak.go ?_; conv=>whnf)
   exact ⟨⟨false,congrArg (fun z=>Value.tuple ⟨[z,.bool false]⟩) (FK x 0),uT hge⟩,gH.trans g4⟩
 conv=>whnf
 repeat (refine ak.go ?_; conv=>whnf)
 refine ⟨_,c1H _ g3,?_⟩
 conv=>whnf
 repeat (refine ak.go ?_; conv=>whnf)
 refine bQ (α:=Nat×Nat×Hp) (fun s=>[(36,int s.1),(35,int n),(34,.slice ao n co),(6,slc s.2.1 0 n n),(2,ptr h.next 0),(1,int out)]) (fun s=>s.2.2) (fun s=>s.1≤n∧aC H s.2.2∧s.2.2.at s.2.1 = some (.row 2 true ((m.evK out s.1).map int))) (fun s=>n - s.1) (0,H.next,H3) ⟨Nat.zero_le _,g3,a3⟩ ⟨rfl,rfl,rfl,rfl,rfl,rfl,trivial⟩ (Hp.Le.refl _) ?_
 rintro ⟨k,r,G⟩ φ4 ⟨hk,gG,aG⟩
 dsimp only at hk gG aG ⊢
 conv=>whnf
 repeat (refine ak.go ?_; conv=>whnf)
 refine dB (fun hlt=>?_) (fun hlt=>?_)
 rotate_left
 ·conv=>whnf
  repeat (refine ak.go ?_; conv=>whnf)
  have:k = n:=by omega
  subst this
  exact ⟨(r,G),⟨rfl,trivial⟩,⟨rfl,gG,aG⟩,rfl⟩
 have hk':k < n:=by omega
 conv=>whnf
 refine ak.go ?_
 conv=>whnf
 refine ak.go ?_
 conv=>whnf
 refine ak.cut (α:=Hp) (fun _=>[(9,slc G.next 0 n n),(6,slc r 0 n n),(36,int k),(35,int n),(34,.slice ao n co),(2,ptr h.next 0),(1,int out)]) (fun x H2=>x = H2∧aC G H2∧H2.at G.next = some (.row 2 true ((List.replicate n 0).map int))) ?_ ?_
 ·conv=>whnf
  refine ⟨_,c1H _ gG,?_⟩
  conv=>whnf
  refine ⟨⟨by omega,by omega,by omega,by omega⟩,?_⟩
  conv=>whnf
  refine ⟨_,⟨rfl,rfl,rfl,rfl,rfl,rfl,rfl,trivial⟩,⟨rfl,aC.lay _ _,?_⟩,rfl⟩
  rw [← Kn]
  exact Hp.aA _ _
 rintro H5 φ5 _ ⟨rfl,g5,a5⟩
 conv=>whnf
 refine ak.cut (α:=Hp) (fun _=>[(9,slc G.next 0 n n),(36,int k),(35,int n),(34,.slice ao n co),(2,ptr h.next 0),(1,int out)]) (fun x H6=>x = H6∧aC G H6∧H6.at G.next = some (.row 2 true ((m.evK out (k + 1)).map int))) ?_ ?_
 rotate_left
 ·rintro H6 φ6 _ ⟨rfl,g6,a6⟩
  conv=>whnf
  repeat (refine ak.go ?_; conv=>whnf)
  refine ⟨_,wid (by omega),?_⟩
  conv=>whnf
  exact Rnd.mk (k + 1,G.next,H6) ⟨by show k + 1≤_; omega,gG.trans g6,a6⟩ (by show n - (k + 1) < n - k; omega) ⟨rfl,rfl,rfl,rfl,rfl,rfl,trivial⟩ (Hp.Le.refl _) rfl
 have hbk:=bd k hk
 have hlk:(m.evK out k).length = n:=by rw [Mac.oH,en]
 conv=>whnf
 repeat (refine ak.go ?_; conv=>whnf)
 refine ⟨_,c1H _ (gG.trans g5),?_⟩
 conv=>whnf
 repeat (refine ak.go ?_; conv=>whnf)
 refine bQ (α:=Nat×List Int×Hp) (fun s=>[(45,int s.1),(44,int n),(43,.slice ao n co),(9,slc G.next 0 n n),(6,slc r 0 n n),(36,int k),(35,int n),(34,.slice ao n co),(2,ptr h.next 0),(1,int out)]) (fun s=>s.2.2) (fun s=>s.1≤n∧s.2.1.length = n∧(∀ j,j < s.1→gl s.2.1 j = m.lY (m.evK out k) j m.base)∧aC G s.2.2∧s.2.2.at G.next = some (.row 2 true (s.2.1.map int))) (fun s=>n - s.1) (0,List.replicate n 0,_) ⟨Nat.zero_le _,List.length_replicate,fun j hj=>absurd hj (Nat.not_lt_zero _),g5,a5⟩ ⟨rfl,rfl,rfl,rfl,rfl,rfl,rfl,rfl,rfl,rfl,trivial⟩ (Hp.Le.refl _) ?_
 rintro ⟨i,ls,F⟩ φ6 ⟨hi,hls,ER,gF,aF6⟩
 dsimp only at hi hls ER gF aF6 ⊢
 conv=>whnf
 repeat (refine ak.go ?_; conv=>whnf)
 refine dB (fun hlt2=>?_) (fun hlt2=>?_)
 rotate_left
 ·conv=>whnf
  repeat (refine ak.go ?_; conv=>whnf)
  have:i = n:=by omega
  subst this
  refine ⟨F,⟨rfl,rfl,rfl,rfl,rfl,rfl,trivial⟩,⟨rfl,gF,?_⟩,rfl⟩
  have e:m.evK out (k + 1) = ls:=Dk (by rw [Mac.oH,hls,en]) fun j hj=>by
   rw [Mac.oH,en] at hj
   rw [ER j hj,Mac.XM (by rw [en]; exact hj)]
  rw [e]
  exact aF6
 have hi':i < n:=by omega
 have vl:=u7 (gF.at_ _ _ aG) hlk
 have gHF:=gG.trans gF
 have hsp:=OV (.agg ⟨bx⟩) (some ⟨r,0,none⟩) n (m.evK out k) m i F (Bx.mv (hbx.ext (gH.trans gHF))) hm.ok hb5 (by omega) (by omega) (by rw [hlk]; exact vl) (by rw [hlk,en]) (fun j hj=>hbk j (by omega))
 rw [hlk] at hsp
 conv=>whnf
 repeat (refine ak.go ?_; conv=>whnf)
 refine ⟨_,aM (gHF.at_ _ _ aX) hlenx,?_⟩
 conv=>whnf
 refine aJ.mono hsp ?_
 rintro _ F2 ⟨rfl,gF2⟩
 have aF7:=gF2.at_ _ _ aF6
 conv=>whnf
 refine ⟨rfl,⟨by omega,by omega⟩,?_⟩
 conv=>whnf
 refine ⟨rfl,_,iH aF7 (by rw [List.length_map,Int.toNat_natCast]; omega) rfl,?_⟩
 conv=>whnf
 repeat (refine ak.go ?_; conv=>whnf)
 refine ⟨_,wid (by omega),?_⟩
 conv=>whnf
 refine Rnd.mk (i + 1,ls.set i (m.lY (m.evK out k) i m.base),_) ⟨by show i + 1≤_; omega,?_,?_,(gF.trans gF2).dD (.row 2 true ((ls.map int).set i (int (m.lY (m.evK out k) i m.base)))) (Nat.le_refl _),?_⟩ (by show n - (i + 1) < n - i; omega) ⟨rfl,rfl,rfl,rfl,rfl,rfl,rfl,rfl,rfl,rfl,trivial⟩ (Hp.Le.refl _) rfl
 ·show (ls.set i _).length = n
  rw [List.length_set,hls]
 ·intro j hj
  show gl (ls.set i _) j = _
  rw [Mj _ _ _ (by omega)]
  by_cases e:j = i
  ·subst e; rw [if_pos rfl]
  ·rw [if_neg e]
   exact ER j (by have:j < i + 1:=hj; omega)
 ·show (Hp.set _ _ _).at G.next = some (.row 2 true ((ls.set i (m.lY (m.evK out k) i m.base)).map int))
  rw [List.map_set]
  exact Hp.bH _ (Hp.aU aF7)
end
end Go.Proofs.Ytedneplaibmppaa
namespace Go.Proofs.Ytedneplaibmppaa
open Go.Rx Go.RowKit
theorem aaV {A B:jL} (hb:A.base = B.base) (ho:A.out.length = B.out.length) (hn:A.next.length = B.next.length) (hno:A.next.length = A.out.length) (h:∀ k,k < A.out.length→gl A.out k = gl B.out k∧rw_ A.next k = rw_ B.next k):A = B:=by
 obtain ⟨b1,o1,n1⟩:=A
 obtain ⟨b2,o2,n2⟩:=B
 dsimp only at *
 have e1:o1 = o2:=Dk ho fun j hj=>(h j hj).1
 have e2:n1 = n2:=List.ext_getElem hn fun i h1 h2=>by
  have:=(h i (by omega)).2
  rwa [EI h1,EI h2] at this
 rw [hb,e1,e2]
attribute [local irreducible] E iV cellAt bM storeAt callable dz dI dP findKey eD bT Hp.at Hp.set Hp.lay dO dw setAt aJ dA bO dG Rnd gD fK iN Int.tmod Int.tdiv Int.fdiv
section
variable [bE]
attribute [local irreducible] sameAt
theorem UN (va vb:Value) (a b:List Int) (h:Hp) (ha:View h va a) (hb:View h vb b) (hla:a.length≤1000000):aJ E 61 [va,vb] h (fun r h'=>(∃ x,r = .bool x∧bO x (a = b))∧h' = h):=by
 obtain ⟨aa,ca,rfl⟩:=ha.known
 obtain ⟨ab,cb,rfl⟩:=hb.known
 refine enter61 (by simp) ?_
 conv=>whnf
 repeat (refine ak.go ?_; conv=>whnf)
 refine dB (fun hne=>?_) (fun heq=>?_)
 ·conv=>whnf
  repeat (refine ak.go ?_; conv=>whnf)
  exact ⟨⟨false,rfl,uT fun e=>hne (by rw [e])⟩,rfl⟩
 have hlen:a.length = b.length:=by omega
 conv=>whnf
 repeat (refine ak.go ?_; conv=>whnf)
 refine bQ (α:=Nat) (fun i=>[(5,int i),(0,.slice aa a.length ca),(1,.slice ab b.length cb)]) (fun _=>h) (fun i=>i≤a.length∧∀ j,j < i→gl a j = gl b j) (fun i=>a.length - i) 0 ⟨Nat.zero_le _,fun j hj=>absurd hj (Nat.not_lt_zero _)⟩ ⟨rfl,rfl,rfl,trivial⟩ (Hp.Le.refl _) ?_
 rintro i φ1 ⟨hi,hsame⟩
 conv=>whnf
 repeat (refine ak.go ?_; conv=>whnf)
 refine dB (fun hlt=>?_) (fun hlt=>?_)
 rotate_left
 ·conv=>whnf
  repeat (refine ak.go ?_; conv=>whnf)
  have:i = a.length:=by omega
  subst this
  exact ⟨⟨true,rfl,pU (Dk hlen hsame)⟩,rfl⟩
 have hi':i < a.length:=by omega
 have hca:=View.iO ha hi'
 have hcb:=View.iO hb (i:=i) (by omega)
 obtain ⟨r1,o1,sp1,ea,hsp1,-,hc1⟩:=hca
 obtain ⟨r2,o2,sp2,eb,hsp2,-,hc2⟩:=hcb
 subst ea
 subst eb
 conv=>whnf
 repeat (refine ak.go ?_; conv=>whnf)
 refine ⟨hsp1,⟨by omega,by omega⟩,?_⟩
 conv=>whnf
 refine ⟨_,hc1,?_⟩
 conv=>whnf
 refine ⟨hsp2,⟨by omega,by omega⟩,?_⟩
 conv=>whnf
 refine ⟨_,hc2,?_⟩
 conv=>whnf
 refine dB (fun hne=>?_) (fun he=>?_)
 ·conv=>whnf
  repeat (refine ak.go ?_; conv=>whnf)
  exact ⟨⟨false,rfl,uT fun e=>hne (by rw [e])⟩,rfl⟩
 conv=>whnf
 repeat (refine ak.go ?_; conv=>whnf)
 refine ⟨_,wid (by omega),?_⟩
 conv=>whnf
 exact Rnd.mk (i + 1) ⟨by omega,fun j hj=>by
  by_cases e:j = i
  ·subst e; omega
  ·exact hsame j (by omega)⟩ (by show a.length - (i + 1) < a.length - i; omega) ⟨rfl,rfl,rfl,trivial⟩ (Hp.Le.refl _) rfl
theorem zo (va vb:Value) (A B:jL) (h:Hp) (ha:MV h va A) (hb:MV h vb B) (hn:A.next.length = A.out.length) (hl:A.out.length≤1000000) (hr:∀ s,(rw_ A.next s).length≤1000000):aJ E 41 [va,vb] h (fun r h'=>(∃ x,r = .bool x∧bO x (A = B))∧aC h h'):=by
 obtain ⟨bxa,rfl,hxa⟩:=ha.box
 obtain ⟨bxb,rfl,hxb⟩:=hb.box
 obtain ⟨aoa,ana,coa,cna,XG⟩:=hxa.cx
 obtain ⟨aob,anb,cob,cnb,Ze⟩:=hxb.cx
 refine enter41 (by simp) ?_
 conv=>whnf
 refine ak.cut (α:=Hp) (fun _=>[(4,.bool false),(3,ptr (h.next + 1) 0),(2,ptr h.next 0)]) (fun x H=>x = H∧aC h H∧H.at h.next = some (.row 26 true bxa)∧H.at (h.next + 1) = some (.row 26 true bxb)) ?_ ?_
 ·conv=>whnf
  have n1:(h.lay (.row 26 true bxa)).next = h.next + 1:=Hp.bG _ _
  exact ⟨_,⟨rfl,congrArg (fun k=>ptr k 0) n1,rfl,trivial⟩,⟨rfl,(aC.lay _ _).bL _,Hp.bC _ (Hp.aA _ _),fM n1 (Hp.aA _ _)⟩,rfl⟩
 rintro H φ1 _ ⟨rfl,gH,aX,aY⟩
 have kx:=XG H h.next 26 gH aX
 have ky:=Ze H (h.next + 1) 26 gH aY
 have x0:=kx.c0
 have x1:=kx.c1
 have x2:=kx.c2
 have y0:=ky.c0
 have y1:=ky.c1
 have y2:=ky.c2
 have no:¬ A = B→∀ v:Value,v = .bool false→(∃ x,v = .bool x∧bO x (A = B))∧aC h H:=fun k v e=>⟨⟨false,e,uT k⟩,gH⟩
 conv=>whnf
 repeat (refine ak.go ?_; conv=>whnf)
 refine ⟨_,x0,?_⟩
 conv=>whnf
 refine ⟨_,y0,?_⟩
 conv=>whnf
 refine dB (fun hne=>?_) (fun heq=>?_)
 ·conv=>whnf
  repeat (refine ak.go ?_; conv=>whnf)
  exact no (fun e=>hne (by rw [e])) _ rfl
 conv=>whnf
 refine ⟨_,x1,?_⟩
 conv=>whnf
 refine ⟨_,y1,?_⟩
 conv=>whnf
 refine dB (fun hne=>?_) (fun heq1=>?_)
 ·conv=>whnf
  repeat (refine ak.go ?_; conv=>whnf)
  exact no (fun e=>hne (by rw [e])) _ rfl
 conv=>whnf
 refine ⟨_,x2,?_⟩
 conv=>whnf
 refine ⟨_,y2,?_⟩
 conv=>whnf
 refine dB (fun hne=>?_) (fun heq2=>?_)
 ·conv=>whnf
  repeat (refine ak.go ?_; conv=>whnf)
  exact no (fun e=>hne (by rw [e])) _ rfl
 have adf:A.base = B.base:=by omega
 have hol:A.out.length = B.out.length:=by omega
 have hnl:A.next.length = B.next.length:=by omega
 conv=>whnf
 repeat (refine ak.go ?_; conv=>whnf)
 refine bQ (α:=Nat) (fun i=>[(5,int i),(4,.bool false),(3,ptr (h.next + 1) 0),(2,ptr h.next 0)]) (fun _=>H) (fun i=>i≤A.out.length∧∀ j,j < i→gl A.out j = gl B.out j∧rw_ A.next j = rw_ B.next j) (fun i=>A.out.length - i) 0 ⟨Nat.zero_le _,fun j hj=>absurd hj (Nat.not_lt_zero _)⟩ ⟨rfl,rfl,rfl,rfl,trivial⟩ (Hp.Le.refl _) ?_
 rintro i φ2 ⟨hi,hsame⟩
 conv=>whnf
 repeat (refine ak.go ?_; conv=>whnf)
 refine ⟨_,x1,?_⟩
 conv=>whnf
 refine dB (fun hlt=>?_) (fun hlt=>?_)
 rotate_left
 ·conv=>whnf
  repeat (refine ak.go ?_; conv=>whnf)
  have:i = A.out.length:=by omega
  subst this
  exact ⟨⟨true,rfl,pU (aaV adf hol hnl hn hsame)⟩,gH⟩
 have hi':i < A.out.length:=by omega
 have hca:=kx.Ka hi'
 have hcb:=ky.Ka (i:=i) (by omega)
 have hra:=kx.rowAt (i:=i) (by omega)
 have hrb:=ky.rowAt (i:=i) (by omega)
 obtain ⟨r1,o1,sp1,ea,hsp1,hc1⟩:=hca
 obtain ⟨r2,o2,sp2,eb,hsp2,hc2⟩:=hcb
 obtain ⟨r3,o3,sp3,a3,c3,e3,xg,hc3,hv3⟩:=hra
 obtain ⟨r4,o4,sp4,a4,c4,e4,Jt,hc4,hv4⟩:=hrb
 subst ea
 subst eb
 subst e3
 subst e4
 conv=>whnf
 repeat (refine ak.go ?_; conv=>whnf)
 refine ⟨_,x1,?_⟩
 conv=>whnf
 refine ⟨hsp1,⟨by omega,by omega⟩,?_⟩
 conv=>whnf
 refine ⟨_,hc1,?_⟩
 conv=>whnf
 refine ⟨_,y1,?_⟩
 conv=>whnf
 refine ⟨hsp2,⟨by omega,by omega⟩,?_⟩
 conv=>whnf
 refine ⟨_,hc2,?_⟩
 conv=>whnf
 refine dB (fun hne=>?_) (fun he1=>?_)
 ·conv=>whnf
  repeat (refine ak.go ?_; conv=>whnf)
  exact no (fun e=>hne (by rw [e])) _ rfl
 conv=>whnf
 refine ⟨_,x2,?_⟩
 conv=>whnf
 refine ⟨xg,⟨by omega,by omega⟩,?_⟩
 conv=>whnf
 refine ⟨_,hc3,?_⟩
 conv=>whnf
 refine ⟨_,y2,?_⟩
 conv=>whnf
 refine ⟨Jt,⟨by omega,by omega⟩,?_⟩
 conv=>whnf
 refine ⟨_,hc4,?_⟩
 conv=>whnf
 refine dB (fun hne=>?_) (fun he2=>?_)
 ·conv=>whnf
  repeat (refine ak.go ?_; conv=>whnf)
  exact no (fun e=>hne (by rw [e])) _ rfl
 have hrl:(rw_ A.next i).length = (rw_ B.next i).length:=by omega
 have hrA:=hr i
 conv=>whnf
 repeat (refine ak.go ?_; conv=>whnf)
 refine bQ (α:=Nat) (fun j=>[(6,int j),(5,int i),(4,.bool false),(3,ptr (h.next + 1) 0),(2,ptr h.next 0)]) (fun _=>H) (fun j=>j≤(rw_ A.next i).length∧∀ k,k < j→gl (rw_ A.next i) k = gl (rw_ B.next i) k) (fun j=>(rw_ A.next i).length - j) 0 ⟨Nat.zero_le _,fun j hj=>absurd hj (Nat.not_lt_zero _)⟩ ⟨rfl,rfl,rfl,rfl,rfl,trivial⟩ (Hp.Le.refl _) ?_
 rintro j φ3 ⟨hj,XQ⟩
 conv=>whnf
 repeat (refine ak.go ?_; conv=>whnf)
 refine ⟨_,x2,?_⟩
 conv=>whnf
 refine ⟨xg,⟨by omega,by omega⟩,?_⟩
 conv=>whnf
 refine ⟨_,hc3,?_⟩
 conv=>whnf
 refine dB (fun hlt2=>?_) (fun hlt2=>?_)
 rotate_left
 ·conv=>whnf
  repeat (refine ak.go ?_; conv=>whnf)
  refine ⟨_,wid (by omega),?_⟩
  conv=>whnf
  have:j = (rw_ A.next i).length:=by omega
  subst this
  exact Rnd.mk (i + 1) ⟨by omega,fun k hk=>by
   by_cases e:k = i
   ·subst e; exact ⟨by omega,Dk hrl XQ⟩
   ·exact hsame k (by omega)⟩ (by show A.out.length - (i + 1) < A.out.length - i; omega) ⟨rfl,rfl,rfl,rfl,trivial⟩ (Hp.Le.refl _) rfl
 have hj':j < (rw_ A.next i).length:=by omega
 have hj3:=View.iO hv3 hj'
 have hj4:=View.iO hv4 (i:=j) (by omega)
 obtain ⟨r5,o5,sp5,e5,E8,-,hc5⟩:=hj3
 obtain ⟨r6,o6,sp6,e6,aaW,-,hc6⟩:=hj4
 subst e5
 subst e6
 conv=>whnf
 repeat (refine ak.go ?_; conv=>whnf)
 refine ⟨_,x2,?_⟩
 conv=>whnf
 refine ⟨xg,⟨by omega,by omega⟩,?_⟩
 conv=>whnf
 refine ⟨_,hc3,?_⟩
 conv=>whnf
 refine ⟨E8,⟨by omega,by omega⟩,?_⟩
 conv=>whnf
 refine ⟨_,hc5,?_⟩
 conv=>whnf
 refine ⟨_,y2,?_⟩
 conv=>whnf
 refine ⟨Jt,⟨by omega,by omega⟩,?_⟩
 conv=>whnf
 refine ⟨_,hc4,?_⟩
 conv=>whnf
 refine ⟨aaW,⟨by omega,by omega⟩,?_⟩
 conv=>whnf
 refine ⟨_,hc6,?_⟩
 conv=>whnf
 refine dB (fun hne=>?_) (fun he3=>?_)
 ·conv=>whnf
  repeat (refine ak.go ?_; conv=>whnf)
  exact no (fun e=>hne (by rw [e])) _ rfl
 conv=>whnf
 repeat (refine ak.go ?_; conv=>whnf)
 refine ⟨_,wid (by omega),?_⟩
 conv=>whnf
 exact Rnd.mk (j + 1) ⟨by omega,fun k hk=>by
  by_cases e:k = j
  ·subst e; omega
  ·exact XQ k (by omega)⟩ (by show (rw_ A.next i).length - (j + 1) < (rw_ A.next i).length - j; omega) ⟨rfl,rfl,rfl,rfl,rfl,trivial⟩ (Hp.Le.refl _) rfl
end
end Go.Proofs.Ytedneplaibmppaa
namespace Go.Proofs.Ytedneplaibmppaa
open Go.Rx Go.RowKit
def abY (m:Mac) (out:Int) (r:Value):Prop:=(¬ (0≤out∧out≤9)→r = .tuple ⟨[int 0,.bool false,int 1]⟩)∧(0≤out∧out≤9→∃ b,r = .tuple ⟨[int (max (gl (m.evK out m.out.length) 0) 0),.bool b,int 0]⟩∧bO b (0≤gl (m.evK out m.out.length) 0))
attribute [local irreducible] E iV cellAt bM storeAt callable dz dI dP findKey eD bT Hp.at Hp.set Hp.lay dO dw setAt aJ dA bO dG Rnd gD fK iN Int.tmod Int.tdiv Int.fdiv
section
variable [bE]
attribute [local irreducible] sameAt
theorem UO (v:Value) (m:Mac) (out:Int) (h:Hp) (hv:MV h v m.i) (hm:OkS m):aJ E 35 [v,int out] h (fun r h'=>abY m out r∧aC h h'):=by
 obtain ⟨bx,rfl,hbx⟩:=hv.box
 have hL:=hm.lens
 refine enter35 (by simp) ?_
 conv=>whnf
 refine ak.cut (α:=Hp) (fun _=>[(2,ptr h.next 0),(1,int out)]) (fun x H=>x = H∧aC h H∧H.at h.next = some (.row 25 true bx)) ?_ ?_
 ·conv=>whnf
  exact ⟨_,⟨rfl,rfl,trivial⟩,⟨rfl,aC.lay _ _,Hp.aA _ _⟩,rfl⟩
 rintro H φ1 _ ⟨rfl,gH,aX⟩
 conv=>whnf
 repeat (refine ak.go ?_; conv=>whnf)
 refine ⟨_,aM aX hbx.len,?_⟩
 conv=>whnf
 refine aJ.mono (om _ m.i _ (Bx.mv (hbx.ext gH)) hL.1 hL.2.1 hL.2.2) ?_
 rintro r H2 ⟨⟨e,rfl,he,-⟩,g2⟩
 have he:=he hm.ck
 subst he
 have aX2:=g2.at_ _ _ aX
 have gh2:=gH.trans g2
 conv=>whnf
 repeat (refine ak.go ?_; conv=>whnf)
 refine yH (by omega) ?_
 conv=>whnf
 repeat (refine ak.go ?_; conv=>whnf)
 refine aJ.mono (Ip out _) ?_
 rintro r _ ⟨⟨b,rfl,hb⟩,rfl⟩
 cases b with
 | false =>
  have hb:=hb.f
  conv=>whnf
  repeat (refine ak.go ?_; conv=>whnf)
  exact ⟨⟨fun _=>rfl,fun k=>absurd k hb⟩,gh2⟩
 | true =>
  have hb:=hb.t
  conv=>whnf
  repeat (refine ak.go ?_; conv=>whnf)
  refine ⟨_,aM aX2 hbx.len,?_⟩
  conv=>whnf
  refine aJ.mono (UM _ m out _ (Bx.mv (hbx.ext gh2)) hm) ?_
  rintro r H3 ⟨⟨b,rfl,hb2⟩,g3⟩
  conv=>whnf
  repeat (refine ak.go ?_; conv=>whnf)
  exact ⟨⟨fun k=>absurd hb k,fun _=>⟨b,rfl,hb2⟩⟩,gh2.trans g3⟩
end
end Go.Proofs.Ytedneplaibmppaa
namespace Go.Proofs.Ytedneplaibmppaa
open Go.Rx Go.RowKit
def tm:Mac:=⟨2,[0,1],[[0,1],[1,0]]⟩
def rd:Mac:=⟨2,[0,0,1],[[1,2],[1,1],[2,2]]⟩
theorem tK:OkS tm where
 ok:=⟨by decide,by decide,rfl,by decide,fun s d hs hd=>(show ∀ s < 2,∀ d < 2,tm.nx s d < 2 by decide) s hs d hd⟩
 zer:=by unfold Mac.Zer; decide
 ck:=⟨by decide,by decide,by decide,by decide,by decide,rfl,fun s hs=>by
  have:s = 0∨s = 1:=by have:s < 2:=hs; omega
  rcases this with rfl | rfl
  ·exact ⟨by decide,by decide,rfl⟩
  ·exact ⟨by decide,by decide,rfl⟩⟩
theorem aaX:OkS rd where
 ok:=⟨by decide,by decide,rfl,by decide,fun s d hs hd=>(show ∀ s < 3,∀ d < 2,rd.nx s d < 3 by decide) s hs d hd⟩
 zer:=by unfold Mac.Zer; decide
 ck:=⟨by decide,by decide,by decide,by decide,by decide,rfl,fun s hs=>by
  have:s = 0∨s = 1∨s = 2:=by have:s < 3:=hs; omega
  rcases this with rfl | rfl | rfl
  ·exact ⟨by decide,by decide,rfl⟩
  ·exact ⟨by decide,by decide,rfl⟩
  ·exact ⟨by decide,by decide,rfl⟩⟩
theorem Zi:tm.form = tm:=by
 unfold Mac.form built
 rw [show tm.cl 0 = 0 from rfl,D8 (L:=[0,1]) (.step (s:=0) rfl (.step (s:=1) rfl (.done (Nat.le_refl 2))))]
 rfl
theorem Zj:rd.form = rd:=by
 unfold Mac.form built
 rw [show rd.cl 0 = 0 from rfl,D8 (L:=[0,1,2]) (.step (s:=0) rfl (.step (s:=1) rfl (.step (s:=2) rfl (.done (Nat.le_refl 3)))))]
 rfl
theorem XR:(tm.every 2 0).form = tm:=by
 have h1:=Mac.pE tK.ok 2 0
 rw [Mac.Us h1.1 tK.ok rfl ?_,Zi]
 rw [Mac.Oj h1.1 tK.ok (by decide) rfl (Mac.Ef tK.ok tK.b2 tK.zer 2 0) tK.zer h1.1.n1 tK.ok.n1]
 intro n
 rw [Mac.zh tK.ok tK.b2 tK.zer]
 have:=Mac.Sd tK.ok tK.b2 tK.zer (s:=0) (d:=0) (n:=n) (by decide) (by decide)
 rw [Nat.zero_add] at this
 exact this
theorem Zk:mR 2 [0,1] 0 = rd:=by
 unfold mR built
 rw [show ((((iF [(0:Int),1].length 0 1:Nat):Int)),(0:Int)) = ((1:Int),(0:Int)) from rfl,D8 (L:=[((1:Int),(0:Int)),(0,0),(0,1)]) (.step (s:=((1:Int),(0:Int))) rfl (.step (s:=((0:Int),(0:Int))) rfl (.step (s:=((0:Int),(1:Int))) rfl (.done (Nat.le_refl 3)))))]
 rfl
theorem aaY:QD tm 8 = [0,1,1,0,1,0,0,1]:=by kernel_rfl
theorem Zl:gl (tm.evK 1 tm.out.length) 0 = 1:=by kernel_rfl
theorem Mk:∀ w s,(s = 1∨s = 2)→Mac.Wd 2 w→rd.run s w = s
 | [],s,_,_=>rfl
 | d :: w,s,hs,hw=>by
  have hd:d < 2:=hw d (by simp)
  have hw':Mac.Wd 2 w:=fun x hx=>hw x (by simp [hx])
  have e:rd.nx s d = s:=by
   have hd':d = 0∨d = 1:=by omega
   rcases hs with rfl | rfl <;> rcases hd' with rfl | rfl <;> rfl
  show rd.run (rd.nx s d) w = s
  rw [e]
  exact Mk w s hs hw'
theorem SC (n:Nat):rd.at_ 0 n = ((n % 2:Nat):Int):=by
 by_cases h:n = 0
 ·subst h; rfl
 ·show rd.o (rd.run 0 (dg 2 n)) = _
  rw [Ea (Nat.le_refl 2) h]
  show rd.o (rd.run (rd.nx 0 (n % 2)) (dg 2 (n / 2))) = _
  have hm:n % 2 = 0∨n % 2 = 1:=by omega
  rcases hm with e | e
  ·rw [e,show rd.nx 0 0 = 1 from rfl,Mk _ _ (.inl rfl) (wX (Nat.le_refl 2) _)]; rfl
  ·rw [e,show rd.nx 0 1 = 2 from rfl,Mk _ _ (.inr rfl) (wX (Nat.le_refl 2) _)]; rfl
theorem Zm {r:Value} (h:Sy rd r):r = .tuple ⟨[int 0,int 2,.bool true,int 0]⟩:=by
 have h2:jm rd 60 2:=fun n=>by rw [SC,SC,show (n + 60) % 2 = (n + 60 + 2) % 2 by omega]
 have h1:¬ jm rd 60 1:=fun k=>by
  have:=k 0
  rw [SC,SC] at this
  revert this
  decide
 rcases h with ⟨p,hp1,ad1,hp,hmin,e⟩ | ⟨hno,_⟩
 ·have:p = 2:=by
   by_cases h3:p = 2
   ·exact h3
   ·by_cases h4:p = 1
    ·subst h4; exact absurd hp h1
    ·exact absurd h2 (hmin 2 (by omega) (by omega))
  subst this
  rw [e,show jN rd 2 60 = 0 from by kernel_rfl]
  rfl
 ·exact absurd h2 (hno 2 (by omega) (by omega))
end Go.Proofs.Ytedneplaibmppaa
namespace Go.Proofs.Ytedneplaibmppaa
open Go.Rx Go.RowKit
theorem FM {m:Mac} (h:OkS m):Lens m.i:=by
 have:=h.lens
 exact ⟨by omega,by omega,fun s=>by have:=this.2.2 s; omega⟩
theorem XT:QB tm.i = tm.i:=rfl
theorem aaZ:QB rd.i = rd.i:=rfl
theorem MV.bx {h:Hp} {cs:List Value} {M:jL} (k:MV h (.agg ⟨cs⟩) M):Bx h cs M:=by
 obtain ⟨bx,e,hb⟩:=k.box
 injection e with e
 injection e with e
 subst e
 exact hb
theorem abZ {H:Hp} {r1 r2 r3 r4 r5:Nat} (h1:H.at r1 = some (.row 3 true [int 0,int 0,int 1])) (h2:H.at r2 = some (.row 3 true [int 1,int 2])) (h3:H.at r3 = some (.row 3 true [int 1,int 1])) (h4:H.at r4 = some (.row 3 true [int 2,int 2])) (h5:H.at r5 = some (.row 22 true [slc r2 0 2 2,slc r3 0 2 2,slc r4 0 2 2])):MV H (.agg ⟨[int 2,slc r1 0 3 3,slc r5 0 3 3]⟩) rd.i:=by
 refine jD.mv (h0:=⟨0,H.raw⟩) ⟨_,_,[slc r2 0 2 2,slc r3 0 2 2,slc r4 0 2 2],rfl,⟨rfl,.inr ⟨_,rfl,Nat.zero_le _,true,h1⟩⟩,⟨rfl,.inr ⟨_,rfl,Nat.zero_le _,true,h5⟩⟩,rfl,fun k u l e1 e2=>?_⟩
 match k,e1,e2 with
 | 0,e1,e2=>cases e1; cases e2; exact .inr ⟨_,rfl,Nat.zero_le _,true,h2⟩
 | 1,e1,e2=>cases e1; cases e2; exact .inr ⟨_,rfl,Nat.zero_le _,true,h3⟩
 | 2,e1,e2=>cases e1; cases e2; exact .inr ⟨_,rfl,Nat.zero_le _,true,h4⟩
 | k + 3,e1,e2=>simp at e1
attribute [local irreducible] E iV cellAt bM storeAt callable dz dI dP findKey eD bT Hp.at Hp.set Hp.lay dO dw setAt aJ dA bO dG Rnd gD fK iN Int.tmod Int.tdiv Int.fdiv
section
variable [bE]
attribute [local irreducible] sameAt
theorem Q7 (h:Hp):aJ E 21 [] h (fun r h'=>r = .bool true∧aC h h'):=by
 refine enter21 (by simp) ?_
 conv=>whnf
 refine ak.go ?_
 conv=>whnf
 refine ak.cut (α:=Nat×List Value×Hp) (fun s=>[(1,ptr s.1 0)]) (fun s H=>s.2.2 = H∧aC h H∧H.at s.1 = some (.row 25 true s.2.1)∧Bx H s.2.1 tm.i) ?_ ?_
 ·conv=>whnf
  refine aJ.mono (QY _) ?_
  rintro w H ⟨hw,g⟩
  have hk:=hw.known
  obtain ⟨a,b,rfl⟩:=hk
  conv=>whnf
  refine ⟨rfl,_,cK (vs:=[int 2,.slice a _ _,.slice b _ _]) rfl rfl rfl,?_⟩
  conv=>whnf
  refine ⟨(H.next,_,_),⟨rfl,trivial⟩,⟨rfl,g.bL _,Hp.aA _ _,?_⟩,rfl⟩
  exact (hw.mv.ext (aC.lay _ _)).bx
 rintro ⟨N1,bx,H1⟩ φ1 _ ⟨rfl,g1,a1,b1⟩
 dsimp only at g1 a1 b1 ⊢
 conv=>whnf
 refine ak.cut (α:=Nat×Option Addr×Hp) (fun s=>[(1,ptr N1 0),(2,.slice s.2.1 8 8),(3,int 0)]) (fun s H=>s.2.2 = H∧aC H1 H∧View H (.slice s.2.1 8 8) [0,1,1,0,1,0,0,1]) ?_ ?_
 ·conv=>whnf
  refine ⟨_,aM a1 b1.len,?_⟩
  conv=>whnf
  refine aJ.mono (QE _ tm 8 _ (Bx.mv b1) tK) ?_
  rintro r H2 ⟨⟨-,hw0⟩,g2⟩
  have hw0:=hw0 (by omega) (by omega)
  obtain ⟨w,rfl,hw⟩:=hw0
  have e8:QD tm (8:Int).toNat = [0,1,1,0,1,0,0,1]:=aaY
  rw [e8] at hw
  have hws:=hw.c.slice
  obtain ⟨aw,rfl,-⟩:=hws
  conv=>whnf
  exact ⟨(0,aw,_),⟨rfl,rfl,rfl,trivial⟩,⟨rfl,g2,hw.view⟩,rfl⟩
 rintro ⟨x2,aw,H2⟩ φ2 _ ⟨rfl,g2,v2⟩
 dsimp only at g2 v2 ⊢
 conv=>whnf
 refine ak.cut (α:=Nat×List Value×Hp) (fun s=>[(1,ptr N1 0),(2,.slice aw 8 8),(3,int 0),(4,ptr s.1 0),(5,int 0)]) (fun s H=>s.2.2 = H∧aC H2 H∧H.at s.1 = some (.row 25 true s.2.1)∧Bx H s.2.1 rd.i) ?_ ?_
 ·conv=>whnf
  have gl1:aC H2 (H2.lay (.row 3 true [int 0,int 1])):=aC.lay _ _
  have vb:View (H2.lay (.row 3 true [int 0,int 1])) (slc H2.next 0 2 2) [0,1]:=u7 (ls:=[0,1]) (Hp.aA _ _) rfl
  have vn:View (H2.lay (.row 3 true [int 0,int 1])) bg []:=Built.view (h0:=H2) (e:=3) (.inl ⟨rfl,rfl⟩)
  refine aJ.mono (Q6 2 _ _ [] [0,1] _ vn vb (by simp) (by simp)) ?_
  rintro r H3 ⟨⟨-,hr⟩,g3⟩
  have hnb:¬ Mi 2 ([]:List Int) [0,1]:=by unfold Mi; simp
  have hr:=hr hnb
  obtain ⟨u,e,rfl,hu,-⟩:=hr
  have er:mR (2:Int).toNat ([] ++ [0,1]) ([]:List Int).length = rd:=Zk
  rw [er,Zj] at hu
  have hu2:=hu (by decide)
  obtain ⟨rfl,hu3⟩:=hu2
  have hk:=hu3.known
  obtain ⟨a,b,rfl⟩:=hk
  conv=>whnf
  refine ⟨rfl,_,cK (vs:=[int 2,.slice a _ _,.slice b _ _]) rfl rfl rfl,?_⟩
  conv=>whnf
  exact ⟨(H3.next,_,_),⟨rfl,rfl,rfl,rfl,rfl,trivial⟩,⟨rfl,(gl1.trans g3).bL _,Hp.aA _ _,(hu3.mv.ext (aC.lay _ _)).bx⟩,rfl⟩
 rintro ⟨N4,by4,H3⟩ φ3 _ ⟨rfl,g3,a4,b4⟩
 dsimp only at g3 a4 b4 ⊢
 have g13:=g2.trans g3
 have a1:=g13.at_ _ _ a1
 have b1:=b1.ext g13
 have v2:=v2.ext g3
 have g1:=g1.trans g13
 clear g2 g3 g13
 conv=>whnf
 refine ak.cut (α:=Nat×List Value×Hp) (fun s=>[(1,ptr N1 0),(2,.slice aw 8 8),(3,int 0),(4,ptr N4 0),(5,int 0),(6,ptr s.1 0),(7,int 0)]) (fun s H=>s.2.2 = H∧aC H3 H∧H.at s.1 = some (.row 25 true s.2.1)∧Bx H s.2.1 tm.i) ?_ ?_
 ·conv=>whnf
  refine ⟨_,aM a1 b1.len,?_⟩
  conv=>whnf
  refine aJ.mono (QT _ tm 2 0 _ (Bx.mv b1) tK) ?_
  rintro r H4 ⟨⟨-,hr⟩,g4⟩
  have hnb:¬ IV 2 0:=by unfold IV; omega
  have hr:=hr hnb
  obtain ⟨u,e,rfl,hu,-⟩:=hr
  have er:(tm.every (2:Int).toNat (0:Int).toNat).form = tm:=XR
  rw [er] at hu
  have hu2:=hu (by decide)
  obtain ⟨rfl,hu3⟩:=hu2
  have hk:=hu3.known
  obtain ⟨a,b,rfl⟩:=hk
  conv=>whnf
  refine ⟨rfl,_,cK (vs:=[int 2,.slice a _ _,.slice b _ _]) rfl rfl rfl,?_⟩
  conv=>whnf
  exact ⟨(H4.next,_,_),⟨rfl,rfl,rfl,rfl,rfl,rfl,rfl,trivial⟩,⟨rfl,g4.bL _,Hp.aA _ _,(hu3.mv.ext (aC.lay _ _)).bx⟩,rfl⟩
 rintro ⟨N6,by6,H4⟩ φ4 _ ⟨rfl,g4,a6,b6⟩
 dsimp only at g4 a6 b6 ⊢
 have a1:=g4.at_ _ _ a1
 have b1:=b1.ext g4
 have a4:=g4.at_ _ _ a4
 have b4:=b4.ext g4
 have v2:=v2.ext g4
 have g1:=g1.trans g4
 clear g4
 conv=>whnf
 refine ak.cut (α:=Hp) (fun s=>[(1,ptr N1 0),(2,.slice aw 8 8),(3,int 0),(4,ptr N4 0),(5,int 0),(6,ptr N6 0),(7,int 0),(8,int 1),(9,.bool true),(10,int 0)]) (fun s H=>s = H∧aC H4 H) ?_ ?_
 ·conv=>whnf
  refine ⟨_,aM a1 b1.len,?_⟩
  conv=>whnf
  refine aJ.mono (UO _ tm 1 _ (Bx.mv b1) tK) ?_
  rintro r H5 ⟨⟨-,hr⟩,g5⟩
  have hr:=hr (by omega)
  rw [Zl] at hr
  obtain ⟨b,rfl,hb⟩:=hr
  cases b with
  | false=>exact absurd (by omega) hb.f
  | true =>
   conv=>whnf
   exact ⟨_,⟨rfl,rfl,rfl,rfl,rfl,rfl,rfl,rfl,rfl,rfl,trivial⟩,⟨rfl,g5⟩,rfl⟩
 rintro H5 φ5 _ ⟨rfl,g5⟩
 have a1:=g5.at_ _ _ a1
 have b1:=b1.ext g5
 have a4:=g5.at_ _ _ a4
 have b4:=b4.ext g5
 have a6:=g5.at_ _ _ a6
 have b6:=b6.ext g5
 have v2:=v2.ext g5
 have g1:=g1.trans g5
 clear g5
 conv=>whnf
 refine ak.cut (α:=Hp) (fun s=>[(1,ptr N1 0),(2,.slice aw 8 8),(3,int 0),(4,ptr N4 0),(5,int 0),(6,ptr N6 0),(7,int 0),(8,int 1),(9,.bool true),(10,int 0),(11,int 0),(12,int 2),(13,.bool true),(14,int 0)]) (fun s H=>s = H∧aC H5 H) ?_ ?_
 ·conv=>whnf
  refine ⟨_,aM a4 b4.len,?_⟩
  conv=>whnf
  refine aJ.mono (zk _ rd _ (Bx.mv b4) aaX) ?_
  rintro r H6 ⟨hr,g6⟩
  have hr:=Zm hr
  subst hr
  conv=>whnf
  exact ⟨_,⟨rfl,rfl,rfl,rfl,rfl,rfl,rfl,rfl,rfl,rfl,rfl,rfl,rfl,rfl,trivial⟩,⟨rfl,g6⟩,rfl⟩
 rintro H6 φ6 _ ⟨rfl,g6⟩
 have a1:=g6.at_ _ _ a1
 have b1:=b1.ext g6
 have a4:=g6.at_ _ _ a4
 have b4:=b4.ext g6
 have a6:=g6.at_ _ _ a6
 have b6:=b6.ext g6
 have v2:=v2.ext g6
 have g1:=g1.trans g6
 clear g6
 conv=>whnf
 repeat (refine ak.go ?_; conv=>whnf)
 refine ⟨_,aM a1 b1.len,?_⟩
 conv=>whnf
 refine aJ.mono (Iq _ tm.i _ (Bx.mv b1) (FM tK)) ?_
 rintro r H7 ⟨hw,g7⟩
 rw [XT] at hw
 have hk:=hw.known
 obtain ⟨p1,q1,rfl⟩:=hk
 conv=>whnf
 refine aJ.mono (EP _) ?_
 rintro r H8 ⟨hw2,g8⟩
 have hk:=hw2.known
 obtain ⟨p2,q2,rfl⟩:=hk
 conv=>whnf
 refine aJ.mono (zo _ _ tm.i tm.i _ (hw.mv.ext g8) hw2.mv rfl (by decide) tK.lens.2.2) ?_
 rintro _ H9 ⟨⟨x,rfl,hx⟩,g9⟩
 cases x with
 | false=>exact absurd rfl hx.f
 | true =>
  have g69:=(g7.trans g8).trans g9
  have a1:=g69.at_ _ _ a1
  have b1:=b1.ext g69
  have a4:=g69.at_ _ _ a4
  have b4:=b4.ext g69
  have a6:=g69.at_ _ _ a6
  have b6:=b6.ext g69
  have v2:=v2.ext g69
  have g1:=g1.trans g69
  clear g69 g7 g8 g9 hw hw2 hx
  conv=>whnf
  refine yG rfl ?_
  conv=>whnf
  have gl1:aC H9 (H9.lay (.row 3 true [int 0,int 1,int 1,int 0,int 1,int 0,int 0,int 1])):=aC.lay _ _
  have vb:View (H9.lay (.row 3 true [int 0,int 1,int 1,int 0,int 1,int 0,int 0,int 1])) (slc H9.next 0 8 8) [0,1,1,0,1,0,0,1]:=u7 (ls:=[0,1,1,0,1,0,0,1]) (Hp.aA _ _) rfl
  refine aJ.mono (UN _ _ [0,1,1,0,1,0,0,1] [0,1,1,0,1,0,0,1] _ (v2.ext gl1) vb (by simp)) ?_
  rintro _ _ ⟨⟨x,rfl,hx⟩,rfl⟩
  cases x with
  | false=>exact absurd rfl hx.f
  | true =>
   conv=>whnf
   refine yG rfl ?_
   conv=>whnf
   have a4:=gl1.at_ _ _ a4
   have b4:=b4.ext gl1
   have a6:=gl1.at_ _ _ a6
   have b6:=b6.ext gl1
   have g1:=g1.trans gl1
   clear vb v2 hx gl1 a1 b1
   refine ⟨_,aM a4 b4.len,?_⟩
   conv=>whnf
   refine aJ.mono (Iq _ rd.i _ (Bx.mv b4) (FM aaX)) ?_
   rintro r H11 ⟨hw,g11⟩
   rw [aaZ] at hw
   have hk:=hw.known
   obtain ⟨p1,q1,rfl⟩:=hk
   conv=>whnf
   have h1:=Hp.aA H11 (.row 3 true [int 0,int 0,int 1])
   have m1:(H11.lay (.row 3 true [int 0,int 0,int 1])).next = H11.next + 1:=Hp.bG _ _
   have adg:∃ A,H11.lay (.row 3 true [int 0,int 0,int 1]) = A:=⟨_,rfl⟩
   have gA:∀ o1 o2 o3 o4 o5,aC H11 (((((H11.lay o1).lay o2).lay o3).lay o4).lay o5):=fun _ _ _ _ _=>((((aC.lay _ _).bL _).bL _).bL _).bL _
   refine aJ.mono (zo _ _ rd.i rd.i _ ?_ ?_ rfl (by decide) aaX.lens.2.2) ?_
   ·exact hw.mv.ext (gA _ _ _ _ _)
   ·exact abZ (Hp.bC _ (Hp.bC _ (Hp.bC _ (Hp.bC _ (Hp.aA _ _))))) (Hp.bC _ (Hp.bC _ (Hp.bC _ (Hp.aA _ _)))) (Hp.bC _ (Hp.bC _ (Hp.aA _ _))) (Hp.bC _ (Hp.aA _ _)) (Hp.aA _ _)
   rintro _ H12 ⟨⟨x,rfl,hx⟩,g12⟩
   cases x with
   | false=>exact absurd rfl hx.f
   | true =>
    have g69:=(g11.trans (gA _ _ _ _ _)).trans g12
    have a6:=g69.at_ _ _ a6
    have b6:=b6.ext g69
    have g1:=g1.trans g69
    clear g69 g11 gA g12 hx hw adg h1 m1
    conv=>whnf
    refine yG rfl ?_
    conv=>whnf
    refine ⟨_,aM a6 b6.len,?_⟩
    conv=>whnf
    refine aJ.mono (Iq _ tm.i _ (Bx.mv b6) (FM tK)) ?_
    rintro r H13 ⟨hw,g13⟩
    rw [XT] at hw
    have hk:=hw.known
    obtain ⟨p3,q3,rfl⟩:=hk
    conv=>whnf
    refine aJ.mono (EP _) ?_
    rintro r H14 ⟨hw2,g14⟩
    have hk:=hw2.known
    obtain ⟨p4,q4,rfl⟩:=hk
    conv=>whnf
    refine aJ.mono (zo _ _ tm.i tm.i _ (hw.mv.ext g14) hw2.mv rfl (by decide) tK.lens.2.2) ?_
    rintro _ H15 ⟨⟨x,rfl,hx⟩,g15⟩
    cases x with
    | false=>exact absurd rfl hx.f
    | true =>
     have g1:=((g1.trans g13).trans g14).trans g15
     conv=>whnf
     refine yG rfl ?_
     conv=>whnf
     refine yG rfl ?_
     conv=>whnf
     refine yG rfl ?_
     conv=>whnf
     refine yG rfl ?_
     conv=>whnf
     refine yG rfl ?_
     conv=>whnf
     have me:MV H15 (.agg ⟨[int 0,bg,bg]⟩) ⟨0,[],[]⟩:=⟨bg,bg,rfl,Built.view (h0:=H15) (e:=3) (.inl ⟨rfl,rfl⟩),Mat.nil _⟩
     refine aJ.mono (om _ _ _ me (by simp) (by simp) (by simp [rw_])) ?_
     rintro _ H16 ⟨⟨e,rfl,-,he⟩,g16⟩
     have he:=he (fun k=>by have:=k.b2; dsimp only at this; omega)
     subst he
     conv=>whnf
     refine yG rfl ?_
     conv=>whnf
     repeat (refine ak.go ?_; conv=>whnf)
     exact ⟨rfl,g1.trans g16⟩
end
end Go.Proofs.Ytedneplaibmppaa
namespace Go.Proofs.Ytedneplaibmppaa
open Go.Rx Go.RowKit
abbrev InR (n:Int):Prop:=-9223372036854775808≤n∧n < 9223372036854775808
end Go.Proofs.Ytedneplaibmppaa
namespace Go.Proofs.Ytedneplaibmppaa
open Go.Rx Go.RowKit
theorem zq:Try.prog.underlying 3 = some (.int .i64):=Try.underlying3
theorem FN:Try.prog.underlying 22 = some (.slice 3):=Try.underlying22
theorem Zn:Try.prog.underlying 23 = some (.slice 22):=Try.underlying23
def fieldTy (i:Nat) (t:TypeId):Option TypeDesc→Option (TypeId×Nat)
 | some (.struct fs)=>(fs[i]?).map fun f=>(f.type,f.offset)
 | _=>none
theorem vg {t ft off i:Nat} (h:fieldTy i t (Try.prog.underlying t) = some (ft,off)) {ts:List Tr} (hy:TyT Try.prog t ts):ts.length = Try.prog.cellsOf t∧TyT Try.prog ft ((ts.drop off).take (Try.prog.cellsOf ft)):=by
 cases hu:Try.prog.underlying t with
 | none=>rw [hu] at h; cases h
 | some d =>
  rw [hu] at h
  cases d with
  | struct fs =>
   have hf:=WZ hu hy
   unfold fieldTy at h
   dsimp only at h
   cases hg:fs[i]? with
   | none=>rw [hg] at h; cases h
   | some f =>
    rw [hg] at h
    cases h
    exact ⟨hf.1,hf.2 i f hg⟩
  | _=>cases h
theorem cells3:Try.prog.cellsOf 3 = 1:=by kernel_rfl
theorem Ml:Try.prog.cellsOf 22 = 1:=by kernel_rfl
theorem Zo:Try.prog.cellsOf 23 = 1:=by kernel_rfl
theorem IZ {ts:List Tr} {o:Nat} (h:o < ts.length):(ts.drop o).take 1 = [ts[o]]:=by
 rw [List.drop_eq_getElem_cons h]; rfl
theorem Q8 {h:Hp} {v:Value} {ts:List Tr} (k:oV h v (.ag ts)):∃ vs:List Value,v = .agg ⟨vs⟩∧vs.length = ts.length∧∀ (k:Nat) v t,vs[k]? = some v→ts[k]? = some t→oV h v t:=by
 cases k with
 | ag vs cs hl ht=>exact ⟨vs,rfl,hl,ht⟩
theorem num_inv {h:Hp} {v:Value} {n:Int} (k:oV h v (.num n)):v = int n:=by cases k; rfl
theorem Zp {ts:List Tr} (hy:TyT Try.prog 25 ts):∃ M:jL,InR M.base∧Lens M∧∀ h v,oV h v (.ag ts)→MV h v M:=by
 have hmax:maxLen < 9223372036854775808:=by decide
 have f0:=vg (i:=0) (ft:=3) (off:=0) (by kernel_rfl) hy
 have f1:=vg (i:=1) (ft:=22) (off:=1) (by kernel_rfl) hy
 have f2:=vg (i:=2) (ft:=23) (off:=2) (by kernel_rfl) hy
 have hl:ts.length = 3:=f0.1.trans (by kernel_rfl)
 have f0:=f0.2
 have f1:=f1.2
 have f2:=f2.2
 rw [cells3,IZ (by omega)] at f0
 rw [Ml,IZ (by omega)] at f1
 rw [Zo,IZ (by omega)] at f2
 obtain ⟨n,en,hn⟩:=Ig zq f0
 obtain ⟨l1,e1,m1,r1⟩:=FJ FN cells3 zq f1
 obtain ⟨L,e2,m2,r2⟩:=aaz Zn Ml FN cells3 zq f2
 refine ⟨⟨n,l1,L⟩,hn,⟨by show l1.length < _; omega,by show L.length < _; omega,fun s=>?_⟩,fun h v k=>?_⟩
 ·show (rw_ L s).length < _
  by_cases hs:s < L.length
  ·rw [EI hs]
   have:=(r2 _ (List.getElem_mem hs)).1
   omega
  ·unfold rw_
   rw [List.getD_eq_getElem?_getD,List.getElem?_eq_none (by omega)]
   simp
 obtain ⟨vs,rfl,hvl,hk⟩:=Q8 k
 match vs,hvl with
 | [v0,v1,v2],_ =>
 have k0:=hk 0 v0 _ rfl (List.getElem?_eq_getElem (by omega))
 have k1:=hk 1 v1 _ rfl (List.getElem?_eq_getElem (by omega))
 have k2:=hk 2 v2 _ rfl (List.getElem?_eq_getElem (by omega))
 rw [show ts[0] = .num n from List.cons.inj en |>.1] at k0
 rw [e1] at k1
 rw [e2] at k2
 have:=num_inv k0
 subst this
 exact ⟨v1,v2,rfl,k1.view,k2.mat⟩
 | [],h | [_],h | [_,_],h | _ :: _ :: _ :: _ :: _,h=>simp [hl] at h
end Go.Proofs.Ytedneplaibmppaa
namespace Go.Proofs.Ytedneplaibmppaa
open Go.Rx Go.RowKit
theorem OkS.cut {m:Mac} (h:OkS m):QB m.i = m.i:=by
 have h1:=h.n12
 have h2:=h.ok.yT
 have h5:=h.b5
 refine Y2 (by show m.out.length≤13; omega) (by omega) fun l hl=>?_
 obtain ⟨i,hi,rfl⟩:=List.getElem_of_mem hl
 have:=h.ok.Uv (s:=i) (by omega)
 rw [EI hi] at this
 omega
theorem jD.bx {h0 h:Hp} {cs:List Value} {M:jL} (k:jD h0 h (.agg ⟨cs⟩) M):Bx h cs M:=k.mv.bx
end Go.Proofs.Ytedneplaibmppaa
namespace Go.Proofs.Ytedneplaibmppaa
open Go.Rx Go.RowKit
namespace Mac
theorem Ok.ck {m:Mac} (h:m.Ok) (z:m.Zer) (b2:2≤m.base) (b5:m.base≤5) (n12:m.out.length≤12) (outs:∀ x ∈ m.out,0≤x∧x≤9):OkS m where
 ok:=h
 zer:=z
 ck:=by
  have hil:=h.yT
  refine ⟨by show (2:Int)≤m.base; omega,by show (m.base:Int)≤5; omega,h.n1,n12,outs,hil,fun s hs=>?_⟩
  have hs:s < m.out.length:=hs
  have hr:=h.Uv hs
  have g0:=m.Xl s
  refine ⟨by show ((rw_ m.i.next s).length:Int) = (m.base:Int); omega,fun x hx=>?_,?_⟩
  ·obtain ⟨d,hd,rfl⟩:=List.getElem_of_mem hx
   rw [← nA hd,g0]
   have:=h.lt s d hs (by omega)
   show (0:Int)≤(m.nx s d:Int)∧(m.nx s d:Int) < (m.out.length:Int)
   omega
  ·rw [g0,Int.toNat_natCast]
   exact z s hs
theorem XU {m:Mac} (h:m.Ok) (z:m.Zer):m.form.Zer:=Ee (ru h) (List.mem_of_getElem? (pR h h.n1)) h.b1 fun c hc=>by
 obtain ⟨i,hi,rfl⟩:=List.getElem_of_mem hc
 rw [ny h] at hi
 have e:=pR h hi
 rw [List.getElem?_eq_getElem (by rw [ny h]; exact hi)] at e
 injection e with e
 rw [e,uS h hi h.b1,Ac h hi,Ac h (h.lt i 0 hi h.b1)]
 exact z i hi
theorem UQ {m:Mac} (h:m.Ok) {P:Int→Prop} (q:∀ x ∈ m.out,P x):∀ x ∈ m.form.out,P x:=Bu (ru h) (List.mem_of_getElem? (pR h h.n1)) fun c hc=>by
 obtain ⟨i,hi,rfl⟩:=List.getElem_of_mem hc
 rw [ny h] at hi
 have e:=pR h hi
 rw [List.getElem?_eq_getElem (by rw [ny h]; exact hi)] at e
 injection e with e
 rw [e,Ac h hi]
 have e2:m.o i = m.out[i]:=nA hi
 rw [e2]
 exact q _ (List.getElem_mem hi)
theorem aa0 {m:Mac} (h:m.Ok) (z:m.Zer) (b2:2≤m.base) (b5:m.base≤5) (outs:∀ x ∈ m.out,0≤x∧x≤9) (n12:m.form.out.length≤12):OkS m.form:=(YW h).ck (XU h z) b2 b5 n12 (UQ h outs)
theorem I4 {m:Mac} (h:OkS m) (s f:Nat):∀ x ∈ (m.every s f).out,0≤x∧x≤9:=Bu (qA h.ok (Nat.le_max_left s f)) (qB h.ok (Nat.le_max_right s f)) fun p hp=>by
 have:=iX.1 hp
 exact h.o (h.ok.run (by omega) (wX h.b2 _))
end Mac
end Go.Proofs.Ytedneplaibmppaa
namespace Go.Proofs.Ytedneplaibmppaa
open Go.Rx Go.RowKit
def ab0 (M:jL):Prop:=M.out.length≤1000000∧M.next.length≤1000000∧∀ s,(rw_ M.next s).length≤1000000
abbrev no0:jL:=⟨0,[],[]⟩
theorem aa1 (h:Hp):MV h noM no0:=⟨bg,bg,rfl,Built.view (h0:=h) (e:=3) (.inl ⟨rfl,rfl⟩),Mat.nil _⟩
end Go.Proofs.Ytedneplaibmppaa
namespace Go.Proofs.Ytedneplaibmppaa
open Go.Rx Go.RowKit
theorem SE (x y:Operand) (a:Bool):Jc E .neq 4 x y (.bool a) (.bool a) = some (.bool false):=by
 cases a <;> kernel_rfl
def Slot (H:Hp) (N:Nat) (e:Int) (F:Mac):Prop:=∃ bx:List Value,bx.length = 3∧H.at N = some (.row 25 true bx)∧(e = 0∧F.out.length≤12∧Bx H bx F.i∨e≠0∧bx = [int 0,bg,bg])
theorem Slot.ext {H H':Hp} {N:Nat} {e:Int} {F:Mac} (g:aC H H') (k:Slot H N e F):Slot H' N e F:=by
 obtain ⟨bx,h1,h2,h3⟩:=k
 refine ⟨bx,h1,g.at_ _ _ h2,?_⟩
 rcases h3 with ⟨h3,h4,h5⟩ | h3
 ·exact .inl ⟨h3,h4,h5.ext g⟩
 ·exact .inr h3
theorem Slot.mv {H:Hp} {N:Nat} {e:Int} {F:Mac} (k:Slot H N e F):∃ bx:List Value,bx.length = 3∧H.at N = some (.row 25 true bx)∧fF 4 (.agg ⟨bx⟩) (.agg ⟨bx⟩) = true∧(e = 0→F.out.length≤12∧MV H (.agg ⟨bx⟩) F.i)∧(e≠0→MV H (.agg ⟨bx⟩) no0):=by
 obtain ⟨bx,h1,h2,h3⟩:=k
 rcases h3 with ⟨h3,h4,h5⟩ | ⟨h3,rfl⟩
 ·exact ⟨bx,h1,h2,h5.same,fun _=>⟨h4,Bx.mv h5⟩,fun q=>absurd h3 q⟩
 ·exact ⟨_,h1,h2,Km _ _ _ _ _ _ _,fun q=>absurd q h3,fun _=>aa1 H⟩
end Go.Proofs.Ytedneplaibmppaa
namespace Go.Proofs.Ytedneplaibmppaa
open Go.Rx Go.RowKit
theorem ab0.lens {M:jL} (h:ab0 M):Lens M:=⟨by have:=h.1; omega,by have:=h.2.1; omega,fun s=>by have:=h.2.2 s; omega⟩
end Go.Proofs.Ytedneplaibmppaa
namespace Go.Proofs.Ytedneplaibmppaa
open Go.Rx Go.RowKit
abbrev gb (l:List Bool) (i:Nat):Bool:=l.getD i false
theorem aa2 (l:List Bool) (i j:Nat) (h:gb l j = true):gb (l.set i true) j = true:=by
 unfold gb at *
 rw [List.getD_eq_getElem?_getD] at *
 by_cases e:i = j
 ·subst e
  by_cases hi:i < l.length
  ·rw [List.getElem?_set_self hi]; rfl
  ·rw [List.getElem?_eq_none (by omega)] at h; cases h
 ·rw [List.getElem?_set_ne e]; exact h
theorem Zq (l:List Bool) (i:Nat) (h:i < l.length):gb (l.set i true) i = true:=by
 unfold gb
 rw [List.getD_eq_getElem?_getD,List.getElem?_set_self h]; rfl
structure Rk (F:Mac) (k:Nat) (ms:List Bool):Prop where
 len:ms.length = F.out.length
 all:∀ w,Mac.Wd F.base w→w.length≤k→gb ms (F.run 0 w) = true
def Nk (F:Mac) (k u:Nat):Prop:=∃ w,Mac.Wd F.base w∧w.length≤k∧F.run 0 w = u
theorem Rk.set {F:Mac} {k:Nat} {ms:List Bool} (h:Rk F k ms) (i:Nat):Rk F k (ms.set i true):=⟨by rw [List.length_set]; exact h.len,fun w hw hk=>aa2 _ _ _ (h.all w hw hk)⟩
theorem Rk.start {F:Mac} (hn:1≤F.out.length):Rk F 0 ((List.replicate F.out.length false).set 0 true):=⟨by simp,fun w hw hk=>by
 have:w = []:=List.eq_nil_of_length_eq_zero (by omega)
 subst this
 exact Zq _ 0 (by simp; omega)⟩
theorem Rk.step {F:Mac} (hm:F.Ok) {k:Nat} {ms:List Bool} (h:Rk F k ms) (hall:∀ u,u < F.out.length→Nk F k u→∀ d,d < F.base→gb ms (F.nx u d) = true):Rk F (k + 1) ms:=⟨h.len,fun w hw hk=>by
 rcases List.eq_nil_or_concat w with rfl | ⟨v,d,rfl⟩
 ·exact h.all [] hw (Nat.zero_le _)
 ·have hv:Mac.Wd F.base v:=fun x hx=>hw x (by simp [hx])
  rw [List.concat_eq_append,List.length_append,List.length_singleton] at hk
  rw [List.concat_eq_append,Ou]
  exact hall _ (hm.run hm.n1 hv) ⟨v,hv,by omega,rfl⟩ d (hw d (by simp))⟩
structure SM (h:Hp) (r:Nat) (ms:List Bool) (H:Hp):Prop where
 at_:H.at r = some (.row 4 true (ms.map .bool))
 gr:aC h H
 hr:h.next≤r
theorem SM.put {h:Hp} {r:Nat} {ms:List Bool} {H:Hp} (k:SM h r ms H) (ms':List Bool):SM h r ms' (H.set r (.row 4 true (ms'.map .bool))):=⟨Hp.bH _ (Hp.aU k.at_),k.gr.dD _ k.hr,k.hr⟩
end Go.Proofs.Ytedneplaibmppaa
namespace Go.Proofs.Ytedneplaibmppaa
open Go.Rx Go.RowKit
theorem ZP {n:Int} (h:0≤n∧n < 256):dG .u8 n n:=by
 unfold dG jT IntKind.wrap
 simp [IntKind.signed,IntKind.bits]
 omega
def tx (n:Nat):List UInt8:=[UInt8.ofNat (n % 256),UInt8.ofNat (n / 256),44]
theorem UR (h:Hp) (a b:Nat) (ha:a < 256) (hb:b < 256) (r:Nat) (hr:h.at r = some (.row 5 true [.int .u8 a,.int .u8 b,.int .u8 44])):oO E h 155 9 (slc r 0 3 3) = .val (.string ⟨⟨[UInt8.ofNat a,UInt8.ofNat b,44]⟩⟩) h:=by
 have hd:dQ 1 (slc r 0 3 3) = false:=rfl
 have hb_:(isBytes E 155 && isStr E 9) = true:=by kernel_rfl
 have he:dz h 1 3 (slc r 0 3 3) = some [.int .u8 a,.int .u8 b,.int .u8 44]:=aM hr rfl
 unfold oO
 rw [hd]
 show qP E h 155 9 (slc r 0 3 3) = _
 unfold qP
 show (match isBytes E 155 && isStr E 9 with | true=>(match BU (dz h 1 3 (slc r 0 3 3)) with | some bs=>fV.val (.string ⟨⟨bs⟩⟩) h | none=>.fail) | false=>.fail) = _
 rw [hb_,he]
 rfl
attribute [local irreducible] E iV cellAt bM storeAt callable dz dI dP findKey eD bT Hp.at Hp.set Hp.lay dO dw setAt aJ dA bO dG Rnd gD fK iN Int.tmod Int.tdiv Int.fdiv
section
variable [bE]
attribute [local irreducible] sameAt
theorem I5 (v:Value) (l:List Int) (h:Hp) (hv:View h v l) (hl:l.length≤1000000) (hb:∀ x ∈ l,0≤x∧x≤1000000):aJ E 82 [v] h (fun r h'=>r = int (l.foldl max 0 + 1)∧h' = h):=by
 obtain ⟨aa,ca,rfl⟩:=hv.known
 refine enter82 (by simp) ?_
 conv=>whnf
 repeat (refine ak.go ?_; conv=>whnf)
 refine bQ (α:=Nat) (fun i=>[(4,int i),(3,int ((l.take i).foldl max 0)),(0,.slice aa l.length ca)]) (fun _=>h) (fun i=>i≤l.length∧0≤(l.take i).foldl max 0∧(l.take i).foldl max 0≤1000000) (fun i=>l.length - i) 0 ⟨Nat.zero_le _,by simp,by simp⟩ ⟨rfl,rfl,rfl,trivial⟩ (Hp.Le.refl _) ?_
 rintro i φ1 ⟨hi,h0,h1⟩
 conv=>whnf
 repeat (refine ak.go ?_; conv=>whnf)
 refine dB (fun hlt=>?_) (fun hlt=>?_)
 rotate_left
 ·have:i = l.length:=by omega
  subst this
  rw [List.take_length] at *
  conv=>whnf
  repeat (refine ak.go ?_; conv=>whnf)
  refine ⟨(l.foldl max 0 + 1),wie (by omega) (by omega),?_⟩
  conv=>whnf
  repeat (refine ak.go ?_; conv=>whnf)
  exact ⟨rfl,rfl⟩
 have hi':i < l.length:=by omega
 have hc:=View.iO hv hi'
 obtain ⟨r1,o1,sp1,ea,hsp1,-,hc1⟩:=hc
 subst ea
 have hx:=hb _ (List.getElem_mem hi')
 have e:(l.take (i + 1)).foldl max 0 = max ((l.take i).foldl max 0) (gl l i):=by
  rw [List.take_succ_eq_append_getElem hi',List.foldl_append,nA hi']; rfl
 rw [← nA hi'] at hx
 conv=>whnf
 repeat (refine ak.go ?_; conv=>whnf)
 refine ⟨hsp1,⟨by omega,by omega⟩,?_⟩
 conv=>whnf
 refine ⟨_,hc1,?_⟩
 conv=>whnf
 repeat (refine ak.go ?_; conv=>whnf)
 refine ⟨((i + 1:Nat):Int),wie (by omega) (by omega),?_⟩
 conv=>whnf
 refine Rnd.mk (i + 1) ⟨by omega,by rw [e]; omega,by rw [e]; omega⟩ (by show l.length - (i + 1) < l.length - i; omega) ⟨rfl,(FK _ _).trans (congrArg int e.symm),rfl,trivial⟩ (Hp.Le.refl _) rfl
end
section
variable [bE]
attribute [local irreducible] jZ sameAt
theorem Ej (n:Nat) (h:Hp) (hn:n < 65536):aJ E 99 [int n] h (fun r h'=>r = .string ⟨⟨tx n⟩⟩∧aC h h'):=by
 have em:=nu n 256
 have ed:=uN n 256
 refine enter99 (by simp) ?_
 conv=>whnf
 repeat (refine ak.go ?_; conv=>whnf)
 refine ⟨by omega,?_⟩
 conv=>whnf
 refine ⟨((n % 256:Nat):Int),by rw [show ((n:Int).tmod 256) = ((n % 256:Nat):Int) from em]; exact ZP (by omega),?_⟩
 conv=>whnf
 refine ⟨by omega,((n / 256:Nat):Int),wie ed (by omega),?_⟩
 conv=>whnf
 refine ⟨((n / 256:Nat):Int),ZP (by omega),?_⟩
 conv=>whnf
 refine lV (v:=.string ⟨⟨tx n⟩⟩) (h:=h.lay (.row 5 true [.int .u8 (n % 256:Nat),.int .u8 (n / 256:Nat),.int .u8 44])) ?_ ?_
 ·exact UR _ _ _ (by omega) (by omega) _ (Hp.aA _ _)
 conv=>whnf
 repeat (refine ak.go ?_; conv=>whnf)
 exact ⟨rfl,aC.lay _ _⟩
end
end Go.Proofs.Ytedneplaibmppaa
namespace Go.Proofs.Ytedneplaibmppaa
open Go.Rx Go.RowKit
structure OkB (m:Mac):Prop where
 ok:m.Ok
 outs:∀ x ∈ m.out,0≤x∧x≤9
 b:m.base≤100
 n:m.out.length≤10000
theorem OkB.o {m:Mac} (h:OkB m) {s:Nat} (hs:s < m.out.length):0≤m.o s∧m.o s≤9:=gM (P:=fun x=>0≤x∧x≤9) h.outs hs
theorem XV {a b:Nat} (ha:a < 65536) (hb:b < 65536) (h:tx a = tx b):a = b:=by
 unfold tx at h
 simp only [List.cons.injEq,and_true] at h
 have h1:=congrArg UInt8.toNat h.1
 have h2:=congrArg UInt8.toNat h.2
 rw [UInt8.toNat_ofNat',UInt8.toNat_ofNat'] at h1 h2
 omega
def kbN (m:Mac) (c:List Int) (i d:Nat):List UInt8:=tx (m.o i).toNat ++ tx (gl c i).toNat ++ ((List.range d).map fun e=>tx (gl c (m.nx i e)).toNat).flatten
def splitK (m:Mac) (c:List Int):List (List UInt8):=(List.range m.out.length).map fun i=>kbN m c i m.base
theorem Q9 (m:Mac) (c:List Int):(splitK m c).length = m.out.length:=by unfold splitK; rw [List.length_map,List.length_range]
theorem Ra {m:Mac} {c:List Int} {i:Nat} (h:i < m.out.length):(splitK m c)[i]? = some (kbN m c i m.base):=by
 unfold splitK; rw [List.getElem?_map,List.getElem?_range h]; rfl
theorem Dl (m:Mac) (c:List Int) (i d:Nat):kbN m c i (d + 1) = kbN m c i d ++ tx (gl c (m.nx i d)).toNat:=by
 unfold kbN
 rw [List.range_succ,List.map_append,List.flatten_append,List.append_assoc,List.append_assoc,List.append_assoc]
 simp
theorem FP (m:Mac) (c:List Int) (i:Nat):∀ d,(kbN m c i d).length = 6 + 3 * d
 | 0=>rfl
 | d + 1=>by rw [Dl,List.length_append,FP m c i d]; show 6 + 3 * d + 3 = _; omega
theorem Zr (a b:List UInt8):((⟨⟨a⟩⟩:ByteArray) ++ ⟨⟨b⟩⟩) = ⟨⟨a ++ b⟩⟩:=by
 apply ByteArray.ext
 simp
theorem XW {a b:Nat} {u v:List UInt8} (hl:u.length = v.length) (ha:a < 65536) (hb:b < 65536):u ++ tx a = v ++ tx b↔u = v∧a = b:=by
 constructor
 ·intro h
  have:=List.append_inj h hl
  exact ⟨this.1,XV ha hb this.2⟩
 ·rintro ⟨rfl,rfl⟩; rfl
theorem toNat_eq {x y:Int} (hx:0≤x) (hy:0≤y):x.toNat = y.toNat↔x = y:=by omega
theorem XY {m:Mac} {c:List Int} (hm:OkB m) (hc:c.length = m.out.length) (hcb:∀ x ∈ c,0≤x∧x < 65536) {s t:Nat} (hs:s < m.out.length) (ht:t < m.out.length):∀ d,d≤m.base→(kbN m c s d = kbN m c t d↔m.o s = m.o t∧gl c s = gl c t∧∀ e,e < d→gl c (m.nx s e) = gl c (m.nx t e))
 | 0,_=>by
  have h1:=hm.o hs
  have h2:=hm.o ht
  have h3:=gM (P:=fun x=>0≤x∧x < 65536) hcb (j:=s) (by omega)
  have h4:=gM (P:=fun x=>0≤x∧x < 65536) hcb (j:=t) (by omega)
  have e:∀ i,kbN m c i 0 = tx (m.o i).toNat ++ tx (gl c i).toNat:=fun i=>by unfold kbN; simp
  rw [e,e,XW (u:=tx (m.o s).toNat) (v:=tx (m.o t).toNat) rfl (by omega) (by omega),toNat_eq h3.1 h4.1]
  constructor
  ·rintro ⟨a,b⟩
   have:=XV (by omega) (by omega) a
   exact ⟨by omega,b,fun e he=>absurd he (Nat.not_lt_zero _)⟩
  ·rintro ⟨a,b,_⟩
   rw [a]; exact ⟨rfl,b⟩
 | d + 1,hd=>by
  have h1:=hm.ok.lt s d hs (by omega)
  have h2:=hm.ok.lt t d ht (by omega)
  have h3:=gM (P:=fun x=>0≤x∧x < 65536) hcb (j:=m.nx s d) (by omega)
  have h4:=gM (P:=fun x=>0≤x∧x < 65536) hcb (j:=m.nx t d) (by omega)
  rw [Dl,Dl,XW (by rw [FP,FP]) (by omega) (by omega),XY hm hc hcb hs ht d (by omega),toNat_eq h3.1 h4.1]
  constructor
  ·rintro ⟨⟨a,b,q⟩,e⟩
   refine ⟨a,b,fun x hx=>?_⟩
   by_cases hxd:x = d
   ·rw [hxd]; exact e
   ·exact q x (by omega)
  ·rintro ⟨a,b,q⟩
   exact ⟨⟨a,b,fun x hx=>q x (by omega)⟩,q d (by omega)⟩
theorem Ko {m:Mac} {c:List Int} (hm:OkB m) (hc:c.length = m.out.length) (hcb:∀ x ∈ c,0≤x∧x < 65536) (href:∀ s t,s < m.out.length→t < m.out.length→gl c s = gl c t→m.o s = m.o t):num (splitK m c) = m.ref c∧many (splitK m c) = m.cnt c:=by
 have h:=D7 (zs:=(List.range m.out.length).map fun s=>(kbN m c s m.base,m.key c s)) (fun x hx y hy=>by
  obtain ⟨s,hs,rfl⟩:=List.mem_map.1 hx
  obtain ⟨t,ht,rfl⟩:=List.mem_map.1 hy
  have hs:=List.mem_range.1 hs
  have ht:=List.mem_range.1 ht
  dsimp only
  rw [XY hm hc hcb hs ht m.base (Nat.le_refl _),Mac.key_eq]
  constructor
  ·rintro ⟨_,b,q⟩
   exact ⟨b,q⟩
  ·rintro ⟨b,q⟩
   exact ⟨href s t hs ht b,b,q⟩)
 rw [List.map_map,List.map_map] at h
 exact h
theorem foldl_max:∀ (l:List Int) (a:Int),a≤l.foldl max a∧(∀ x ∈ l,x≤l.foldl max a)∧∀ B,a≤B→(∀ x ∈ l,x≤B)→l.foldl max a≤B
 | [],a=>⟨Int.le_refl _,by simp,fun B h _=>h⟩
 | y :: l,a=>by
  have ih:=foldl_max l (max a y)
  refine ⟨by show a≤l.foldl max (max a y); omega,fun x hx=>?_,fun B h1 h2=>?_⟩
  ·show x≤l.foldl max (max a y)
   rcases List.mem_cons.1 hx with rfl | hx
   ·omega
   ·exact ih.2.1 x hx
  ·show l.foldl max (max a y)≤B
   exact ih.2.2 B (by have:=h2 y (by simp); omega) fun x hx=>h2 x (by simp [hx])
theorem SF {κ:Type} [DecidableEq κ] {ks:List κ} (h:ks≠[]):(num ks).foldl max 0 + 1 = (many ks:Nat):=by
 have hp:=Od h
 have hall:∀ x ∈ num ks,x≤(many ks:Int) - 1:=fun x hx=>by
  unfold num at hx
  obtain ⟨k,hk,rfl⟩:=List.mem_map.1 hx
  have:(notes [] ks).idxOf k < (notes [] ks).length:=List.idxOf_lt_length_of_mem (fI hk)
  unfold many
  omega
 have hlast:∃ x ∈ num ks,x = (many ks:Int) - 1:=by
  have hl:many ks - 1 < (notes [] ks).length:=by unfold many at hp ⊢; omega
  have hg:=List.getElem?_eq_getElem hl
  have hin:(notes [] ks)[many ks - 1] ∈ ks:=by
   rcases jX (List.getElem_mem hl) with h | h
   ·simp at h
   ·exact h
  refine ⟨_,List.mem_map.2 ⟨_,hin,rfl⟩,?_⟩
  rw [Um (jg List.nodup_nil) hg]
  omega
 obtain ⟨x,hx,ex⟩:=hlast
 have h3:=foldl_max (num ks) 0
 have h4:=h3.2.1 x hx
 have h5:=h3.2.2 ((many ks:Int) - 1) (by omega) hall
 omega
theorem aa3 {κ:Type} [DecidableEq κ] (ks:List κ):∀ x ∈ num ks,0≤x∧x < (many ks:Nat):=fun x hx=>by
 unfold num at hx
 obtain ⟨k,hk,rfl⟩:=List.mem_map.1 hx
 have:(notes [] ks).idxOf k < (notes [] ks).length:=List.idxOf_lt_length_of_mem (fI hk)
 unfold many
 omega
theorem XZ {m:Mac} (c:List Int) (hn:m.out.length≤10000):∀ x ∈ m.ref c,0≤x∧x < 65536:=fun x hx=>by
 have h1:=aa3 (m.keys c) x hx
 have h2:many (m.keys c)≤m.out.length:=Mac.LW m c
 omega
end Go.Proofs.Ytedneplaibmppaa
namespace Go.Proofs.Ytedneplaibmppaa
open Go.Rx Go.RowKit
theorem OW (a b:List UInt8) (h:a.length + b.length≤1000):TW .add (.string ⟨⟨a⟩⟩) (.string ⟨⟨b⟩⟩) = some (.string ⟨⟨a ++ b⟩⟩):=by
 unfold TW
 dsimp only
 rw [if_pos (by show a.length + b.length≤_; omega),Zr]
theorem Rb (n:Nat):(tx n).length = 3:=rfl
attribute [local irreducible] E iV cellAt bM storeAt callable dz dI dP findKey eD bT Hp.at Hp.set Hp.lay dO dw setAt aJ dA bO dG Rnd gD fK iN Int.tmod Int.tdiv Int.fdiv
section
variable [bE]
attribute [local irreducible] jZ sameAt
theorem I6 (v w:Value) (m:Mac) (c:List Int) (h:Hp) (hv:MV h v m.i) (hw:View h w c) (hm:OkB m) (hc:c.length = m.out.length) (hcb:∀ x ∈ c,0≤x∧x < 65536):aJ E 81 [v,w] h (fun r h'=>Built h h' 3 r (num (splitK m c))∧aC h h'):=by
 obtain ⟨bx,rfl,hbx⟩:=hv.box
 obtain ⟨ao,an,co,cn,hcx⟩:=hbx.cx
 obtain ⟨aw,cw,rfl⟩:=hw.known
 obtain ⟨i3,t3,-,z3⟩:=ty3
 obtain ⟨ad2,X0,X3⟩:=aby
 have tJ:=hm.n
 have hb5:=hm.b
 have hil:=hm.ok.yT
 have hks:=Q9 m c
 refine enter81 (by simp) ?_
 conv=>whnf
 refine ak.cut (α:=Hp) (fun _=>[(2,ptr h.next 0),(1,.slice aw c.length cw)]) (fun x H=>x = H∧aC h H∧H.at h.next = some (.row 26 true bx)) ?_ ?_
 ·conv=>whnf
  exact ⟨_,⟨rfl,rfl,trivial⟩,⟨rfl,aC.lay _ _,Hp.aA _ _⟩,rfl⟩
 rintro H φ1 _ ⟨rfl,gH,aX⟩
 conv=>whnf
 refine ak.cut (α:=Hp) (fun _=>[(5,bK H.next),(2,ptr h.next 0),(1,.slice aw c.length cw)]) (fun x H2=>x = H2∧aC h H2∧H2.at h.next = some (.row 26 true bx)∧dN H2 H.next encS ([]:List (List UInt8))∧H2.next = H.next + 1) ?_ ?_
 ·conv=>whnf
  exact ⟨_,⟨rfl,rfl,rfl,trivial⟩,⟨rfl,gH.bL _,Hp.bC _ aX,dN.nil _,Hp.bG _ _⟩,rfl⟩
 rintro H2 φ2 _ ⟨rfl,g2,aX2,hM2,nM⟩
 have qh:=gH.next
 have adh:=Hp.aU aX
 have Mc:∃ M,H.next = M:=⟨_,rfl⟩
 obtain ⟨M,eM⟩:=Mc
 rw [eM] at hM2 nM qh adh ⊢
 have Xv:∃ ks,splitK m c = ks:=⟨_,rfl⟩
 obtain ⟨ks,eks⟩:=Xv
 rw [eks] at hks ⊢
 have hnl:(num ks).length = m.out.length:=by rw [qd,hks]
 conv=>whnf
 refine ak.go ?_
 conv=>whnf
 refine ak.cut (α:=Value×Hp) (fun q=>[(6,q.1)]) (fun q H3=>q.2 = H3∧aC h q.2∧Built (EN (M + 1)) q.2 3 q.1 (num ks)) ?_ ?_
 rotate_left
 ·rintro ⟨u,H3⟩ φ3 _ ⟨rfl,g3,hu⟩
  dsimp only at g3 hu ⊢
  have hus:=hu.c.slice
  obtain ⟨au,rfl,-⟩:=hus
  conv=>whnf
  repeat (refine ak.go ?_; conv=>whnf)
  exact ⟨hu.back (by show h.next≤M + 1; omega),g3⟩
 conv=>whnf
 repeat (refine ak.go ?_; conv=>whnf)
 refine bQ (α:=Nat×Value×Hp) (fun q=>[(7,int q.1),(6,q.2.1),(5,bK M),(2,ptr h.next 0),(1,.slice aw c.length cw)]) (fun q=>q.2.2) (fun q=>q.1≤m.out.length∧aC h q.2.2∧q.2.2.at h.next = some (.row 26 true bx)∧dN q.2.2 M encS (notes [] (ks.take q.1))∧Built (EN (M + 1)) q.2.2 3 q.2.1 ((num ks).take q.1)∧M + 1≤q.2.2.next) (fun q=>m.out.length - q.1) (0,bg,H2) ⟨Nat.zero_le _,g2,aX2,hM2,.inl ⟨rfl,rfl⟩,by show M + 1≤H2.next; omega⟩ ⟨rfl,rfl,rfl,rfl,rfl,trivial⟩ (Hp.Le.refl _) ?_
 rintro ⟨i,u,H3⟩ φ3 ⟨hi,g3,aX3,hM3,hu3,hMn⟩
 dsimp only at hi g3 aX3 hM3 hu3 hMn ⊢
 have k3:=hcx H3 h.next 26 g3 aX3
 have e1:cellAt H3 h.next 1 = some (.slice ao m.out.length co):=k3.c1
 conv=>whnf
 repeat (refine ak.go ?_; conv=>whnf)
 refine ⟨_,e1,?_⟩
 conv=>whnf
 refine dB (fun q1=>?_) (fun q1=>?_)
 rotate_left
 ·have:i = m.out.length:=by omega
  subst this
  conv=>whnf
  repeat (refine ak.go ?_; conv=>whnf)
  refine ⟨(u,H3),⟨rfl,trivial⟩,⟨rfl,g3,?_⟩,rfl⟩
  rw [List.take_of_length_le (by omega)] at hu3
  exact hu3
 have hi':i < m.out.length:=by omega
 have hso:=hm.o hi'
 have aaA:∃ z:Nat,m.o i = z:=⟨(m.o i).toNat,by omega⟩
 obtain ⟨z,ez⟩:=aaA
 have ho:=k3.EY hi'
 rw [ez] at ho hso
 obtain ⟨r1,o1,sp1,ea,hsp1,hc1⟩:=ho
 subst ea
 have hcl:=View.iO (hw.ext g3) (i:=i) (by omega)
 obtain ⟨r2,o2,sp2,ea,hsp2,-,hc2⟩:=hcl
 subst ea
 have hci:=gM (P:=fun x=>0≤x∧x < 65536) hcb (j:=i) (by omega)
 have adi:∃ y:Nat,gl c i = y:=⟨(gl c i).toNat,by omega⟩
 obtain ⟨y,ey⟩:=adi
 rw [ey] at hc2 hci
 have ek0:kbN m c i 0 = tx z ++ tx y:=by
  unfold kbN
  rw [ez,ey,Int.toNat_natCast,Int.toNat_natCast]
  simp
 conv=>whnf
 refine ak.go ?_
 conv=>whnf
 refine ak.cut (α:=Hp) (fun q=>[(8,.string ⟨⟨kbN m c i 0⟩⟩),(7,int i),(6,u),(5,bK M),(2,ptr h.next 0),(1,.slice (some ⟨r2,o2,sp2⟩) c.length cw)]) (fun q H4=>q = H4∧aC H3 H4) ?_ ?_
 ·conv=>whnf
  refine ⟨_,e1,?_⟩
  conv=>whnf
  refine ⟨hsp1,⟨by omega,by omega⟩,?_⟩
  conv=>whnf
  refine ⟨_,hc1,?_⟩
  conv=>whnf
  refine aJ.mono (Ej z _ (by omega)) ?_
  rintro r H4 ⟨rfl,g4⟩
  have e1a:=g4.cell e1
  have aa4:=g4.cell hc1
  have Zt:=g4.cell hc2
  conv=>whnf
  refine ⟨hsp2,⟨by omega,by omega⟩,?_⟩
  conv=>whnf
  refine ⟨_,Zt,?_⟩
  conv=>whnf
  refine aJ.mono (Ej y _ (by omega)) ?_
  rintro r H5 ⟨rfl,g5⟩
  have e1b:=g5.cell e1a
  have ab1:=g5.cell aa4
  have ab2:=g5.cell Zt
  conv=>whnf
  refine ⟨_,OW (tx z) (tx y) (by rw [Rb,Rb]; omega),?_⟩
  conv=>whnf
  refine ⟨?_,?_⟩
  ·repeat' (first | exact True.intro | (refine And.intro ?_ ?_ <;> (conv=>whnf)))
   all_goals first
    | exact aj (h2:=_) rfl (aI _)
    | exact aj (h2:=_) rfl (dh _ _)
    | exact aj (h2:=_) rfl (aD _ _ _)
    | exact aj (h2:=_) rfl (iP _ _)
    | exact aj (h2:=_) (congrArg (hval _) e1) (aI _)
    | exact aj (h2:=_) (congrArg (hval _) e1) (aD _ _ _)
    | exact aj (h2:=_) (congrArg (hval _) e1a) (aI _)
    | exact aj (h2:=_) (congrArg (hval _) e1a) (aD _ _ _)
    | exact aj (h2:=_) (congrArg (hval _) e1b) (aI _)
    | exact aj (h2:=_) (congrArg (hval _) e1b) (aD _ _ _)
    | exact aj (h2:=_) (congrArg (hval _) hc1) (aI _)
    | exact aj (h2:=_) (congrArg (hval _) hc1) (aD _ _ _)
    | exact aj (h2:=_) (congrArg (hval _) aa4) (aI _)
    | exact aj (h2:=_) (congrArg (hval _) aa4) (aD _ _ _)
    | exact aj (h2:=_) (congrArg (hval _) ab1) (aI _)
    | exact aj (h2:=_) (congrArg (hval _) ab1) (aD _ _ _)
    | exact aj (h2:=_) (congrArg (hval _) hc2) (aI _)
    | exact aj (h2:=_) (congrArg (hval _) hc2) (aD _ _ _)
    | exact aj (h2:=_) (congrArg (hval _) Zt) (aI _)
    | exact aj (h2:=_) (congrArg (hval _) Zt) (aD _ _ _)
    | exact aj (h2:=_) (congrArg (hval _) ab2) (aI _)
    | exact aj (h2:=_) (congrArg (hval _) ab2) (aD _ _ _)
    | exact aj (h2:=_) (show hval _ (jU 1 (.slice (some ⟨_,_,_⟩) _ _) (int _)) = _ from eX hsp1 ⟨by omega,by omega⟩) (dh _ _)
    | exact aj (h2:=_) (show hval _ (jU 1 (.slice (some ⟨_,_,_⟩) _ _) (int _)) = _ from eX hsp2 ⟨by omega,by omega⟩) (dh _ _)
    | exact ⟨_,rfl,Hp.aA _ _,rfl⟩
  rw [ek0]
  exact ⟨H5,⟨rfl,rfl,rfl,rfl,rfl,rfl,trivial⟩,⟨rfl,g4.trans g5⟩,rfl⟩
 rintro H4 φ4 _ ⟨rfl,g4⟩
 have g3:=g3.trans g4
 have aX4:=g4.at_ _ _ aX3
 have hM4:=hM3.ext g4
 have hu4:=hu3.ext g4
 have ad3:=g4.next
 clear aX3 hM3 hu3 g4
 conv=>whnf
 refine ak.cut (α:=Hp) (fun q=>[(8,.string ⟨⟨kbN m c i m.base⟩⟩),(7,int i),(6,u),(5,bK M),(2,ptr h.next 0),(1,.slice (some ⟨r2,o2,sp2⟩) c.length cw)]) (fun q H5=>q = H5∧aC H4 H5) ?_ ?_
 ·conv=>whnf
  repeat (refine ak.go ?_; conv=>whnf)
  refine bQ (α:=Nat×Hp) (fun q=>[(9,int q.1),(8,.string ⟨⟨kbN m c i q.1⟩⟩),(7,int i),(6,u),(5,bK M),(2,ptr h.next 0),(1,.slice (some ⟨r2,o2,sp2⟩) c.length cw)]) (fun q=>q.2) (fun q=>q.1≤m.base∧aC H4 q.2) (fun q=>m.base - q.1) (0,H4) ⟨Nat.zero_le _,.refl _⟩ ⟨rfl,rfl,rfl,rfl,rfl,rfl,rfl,trivial⟩ (Hp.Le.refl _) ?_
  rintro ⟨d,G⟩ φ5 ⟨hd,gG⟩
  dsimp only at hd gG ⊢
  have kG:=hcx G h.next 26 (g3.trans gG) (gG.at_ _ _ aX4)
  have f0:cellAt G h.next 0 = some (int (m.base:Int)):=kG.c0
  have f2:=kG.c2
  conv=>whnf
  repeat (refine ak.go ?_; conv=>whnf)
  refine ⟨_,f0,?_⟩
  conv=>whnf
  refine dB (fun q2=>?_) (fun q2=>?_)
  rotate_left
  ·have:d = m.base:=by omega
   subst this
   conv=>whnf
   repeat (refine ak.go ?_; conv=>whnf)
   exact ⟨G,⟨rfl,rfl,rfl,rfl,rfl,rfl,trivial⟩,⟨rfl,gG⟩,rfl⟩
  have hd':d < m.base:=by omega
  have hnx:=kG.lG hm.ok hi' hd'
  obtain ⟨r5,o5,sp5,r6,o6,sp6,c6',ea,E8,hc5,aaW,hc6⟩:=hnx
  subst ea
  have ad4:=hm.ok.lt i d hi' hd'
  have hcl:=View.iO (hw.ext (g3.trans gG)) (i:=m.nx i d) (by omega)
  obtain ⟨r7,o7,sp7,ea,ab3,-,hc7⟩:=hcl
  injection ea with ea
  injection ea with ea1 ea2 ea3
  subst ea1
  subst ea2
  subst ea3
  have hcj:=gM (P:=fun x=>0≤x∧x < 65536) hcb (j:=m.nx i d) (by omega)
  have XH:∃ x:Nat,gl c (m.nx i d) = x:=⟨(gl c (m.nx i d)).toNat,by omega⟩
  obtain ⟨x,ex⟩:=XH
  rw [ex] at hc7 hcj
  have hkl:=FP m c i d
  have ab4:kbN m c i (d + 1) = kbN m c i d ++ tx x:=by rw [Dl,ex,Int.toNat_natCast]
  conv=>whnf
  repeat (refine ak.go ?_; conv=>whnf)
  refine ⟨_,f2,?_⟩
  conv=>whnf
  refine ⟨E8,⟨by omega,by omega⟩,?_⟩
  conv=>whnf
  refine ⟨_,hc5,?_⟩
  conv=>whnf
  refine ⟨aaW,⟨by omega,by omega⟩,?_⟩
  conv=>whnf
  refine ⟨_,hc6,?_⟩
  conv=>whnf
  refine ⟨hsp2,⟨by omega,by omega⟩,?_⟩
  conv=>whnf
  refine ⟨_,hc7,?_⟩
  conv=>whnf
  refine aJ.mono (Ej x _ (by omega)) ?_
  rintro r G2 ⟨rfl,g2'⟩
  conv=>whnf
  refine ⟨_,OW (kbN m c i d) (tx x) (by rw [Rb]; omega),?_⟩
  conv=>whnf
  repeat (refine ak.go ?_; conv=>whnf)
  refine ⟨((d + 1:Nat):Int),wie (by omega) (by omega),?_⟩
  conv=>whnf
  exact Rnd.mk (d + 1,G2) ⟨by show d + 1≤m.base; omega,gG.trans g2'⟩ (by show m.base - (d + 1) < m.base - d; omega) ⟨rfl,congrArg (fun l=>Value.string ⟨⟨l⟩⟩) ab4.symm,rfl,rfl,rfl,rfl,rfl,trivial⟩ (Hp.Le.refl _) rfl
 rintro H5 φ5 _ ⟨rfl,g5⟩
 have g3:=g3.trans g5
 have aX5:=g5.at_ _ _ aX4
 have hM5:=hM4.ext g5
 have hu5:=hu4.ext g5
 have adj:=g5.next
 clear aX4 hM4 hu4 g5
 have hkk:ks[i]? = some (kbN m c i m.base):=by rw [← eks]; exact Ra hi'
 have IB:∃ kk,kbN m c i m.base = kk:=⟨_,rfl⟩
 obtain ⟨kk,ekk⟩:=IB
 rw [ekk] at hkk ⊢
 have htk:notes [] (ks.take (i + 1)) = note (notes [] (ks.take i)) kk:=by rw [fZ hkk,iE]
 have hgn:=Xu hkk
 have rz:∃ L,notes [] (ks.take i) = L:=⟨_,rfl⟩
 obtain ⟨L,eL⟩:=rz
 rw [eL] at hM5 htk
 have hMu:∀ (H':Hp),Keeps M H5 H'→Built (EN (M + 1)) H' 3 u ((num ks).take i):=fun H' y=>oh hu5 fun r o hr ho=>y.at_ _ _ (by have:=(hu5.jf r hr).1; show r≠M; have:M + 1≤r:=this; omega) ho
 conv=>whnf
 refine ak.cut (α:=Hp) (fun q=>[(8,.string ⟨⟨kk⟩⟩),(7,int i),(6,u),(5,bK M),(2,ptr h.next 0),(1,.slice (some ⟨r2,o2,sp2⟩) c.length cw)]) (fun q H6=>q = H6∧aC h H6∧H6.at h.next = some (.row 26 true bx)∧dN H6 M encS (note L kk)∧Built (EN (M + 1)) H6 3 u ((num ks).take i)∧M + 1≤H6.next) ?_ ?_
 ·by_cases hin:kk ∈ L
  ·have iQ:note L kk = L:=by unfold note; rw [if_pos hin]
   rw [iQ]
   conv=>whnf
   refine ak.go ?_
   conv=>whnf
   refine gY X0 X3 t3 z3 Y3 (k:=kk) rfl rfl hM5 (lD hin) ?_
   conv=>whnf
   repeat (refine ak.go ?_; conv=>whnf)
   exact ⟨H5,⟨rfl,rfl,rfl,rfl,rfl,rfl,trivial⟩,⟨rfl,g3,aX5,hM5,hu5,by omega⟩,rfl⟩
  ·have iQ:note L kk = L ++ [kk]:=by unfold note; rw [if_neg hin]
   rw [iQ]
   conv=>whnf
   refine ak.go ?_
   conv=>whnf
   refine gZ X0 X3 t3 z3 Y3 (k:=kk) rfl rfl hM5 (qg hin) ?_
   conv=>whnf
   repeat (refine ak.go ?_; conv=>whnf)
   refine Bo X0 X3 rfl hM5 ?_
   conv=>whnf
   refine iD X0 X3 Y3 (k:=kk) (v:=int L.length) rfl rfl rfl hM5 ?_
   intro H7 hM7 y7
   conv=>whnf
   exact ⟨H7,⟨rfl,rfl,rfl,rfl,rfl,rfl,trivial⟩,⟨rfl,y7.grows g3 qh,y7.at_ _ _ (by omega) aX5,dN.add hin hM7,hMu H7 y7,by have:=y7.next; omega⟩,rfl⟩
 rintro H6 φ6 _ ⟨rfl,g6,aX6,hM6,hu6,adk⟩
 clear hMu hu5 hM5 aX5 adj
 have aaJ:kk ∈ note L kk:=oZ L kk
 have hus:=hu6.c.slice
 obtain ⟨au,eu,-⟩:=hus
 subst eu
 have htl:((num ks).take i).length = i:=by rw [List.length_take]; omega
 have esn:(num ks).take i ++ [gl (num ks) i] = (num ks).take (i + 1):=by
  rw [List.take_succ_eq_append_getElem (by omega),nA (by omega)]
 have ev:fN (note L kk) kk = some (int (gl (num ks) i)):=by
  rw [lD aaJ,hgn,htk]; rfl
 conv=>whnf
 refine gu X0 X3 t3 z3 Y3 (k:=kk) rfl rfl hM6 ev ?_
 conv=>whnf
 have gl6:aC H6 (H6.lay (.row 3 true [int (gl (num ks) i)])):=aC.lay _ _
 have vz:View (H6.lay (.row 3 true [int (gl (num ks) i)])) (slc H6.next 0 1 1) [gl (num ks) i]:=u7 (ls:=[gl (num ks) i]) (Hp.aA _ _) rfl
 refine fK.ints (hu6.ext gl6) (EO (Nat.le_trans adk gl6.next)) vz.elems (by rw [htl]; simp; omega) ?_
 intro u' H7 hb' hg' keep
 rw [esn] at hb'
 have hne:∀ r,r≤M→∀ n' c',Value.slice au ((num ks).take i).length ((num ks).take i).length≠slc r 0 n' c':=fun r hr n' c' e=>by
  have h1:=hu6.jf r (by rw [e]; rfl)
  have h2:M + 1≤r:=h1.1
  omega
 have hM7:dN H7 M encS (note L kk):=MapAt.R7 (fun ob hob=>keep _ _ (gl6.at_ _ _ hob) (hne M (Nat.le_refl _))) hM6
 have aX7:=keep _ _ (gl6.at_ _ _ aX6) (hne h.next (by omega))
 have hn7:M + 1≤H7.next:=hg'.next
 have g7:aC h H7:=⟨by omega,fun r o e=>keep _ _ (gl6.at_ _ _ (g6.at_ _ _ e)) (hne r (by have:=Hp.aU e; omega))⟩
 have adl:=hb'.c.slice
 obtain ⟨au',eu',-⟩:=adl
 subst eu'
 conv=>whnf
 repeat (refine ak.go ?_; conv=>whnf)
 refine ⟨((i + 1:Nat):Int),wie (by omega) (by omega),?_⟩
 conv=>whnf
 exact Rnd.mk (i + 1,_,H7) ⟨by show i + 1≤m.out.length; omega,g7,aX7,by show dN H7 M encS (notes [] (ks.take (i + 1))); rw [htk]; exact hM7,hb',hn7⟩ (by show m.out.length - (i + 1) < m.out.length - i; omega) ⟨rfl,rfl,rfl,rfl,rfl,trivial⟩ (Hp.Le.refl _) rfl
end
end Go.Proofs.Ytedneplaibmppaa
namespace Go.Proofs.Ytedneplaibmppaa
open Go.Rx Go.RowKit
def dZ (m:Mac) (S:List Nat):List Int:=S.map m.cl
structure Rq (m:Mac) (S:List Nat) (a:Nat):Prop where
 lt:∀ s ∈ S,s < m.out.length
 bq:Bq m.q9 m.base (m.cl 0) m.cls (dZ m S) a
def vk (m:Mac) (S:List Nat) (s:Nat):List Int:=(List.range m.base).map fun d=>((kS (dZ m S) (m.cl (m.nx s d)):Nat):Int)
theorem Rq.start {m:Mac} (hm:m.Ok):Rq m [0] 0:=⟨fun s hs=>by rw [List.mem_singleton.1 hs]; exact hm.n1,Bq.start (Mac.ru hm) (List.mem_of_getElem? (Mac.pR hm hm.n1))⟩
def wY (m:Mac) (S:List Nat) (t:Nat):List Nat:=if m.cl t ∈ dZ m S then S else S ++ [t]
theorem Ah (m:Mac) (S:List Nat) (t:Nat):dZ m (wY m S t) = note (dZ m S) (m.cl t):=by
 unfold wY note
 by_cases h:m.cl t ∈ dZ m S
 ·rw [if_pos h,if_pos h]
 ·rw [if_neg h,if_neg h]
  unfold dZ
  rw [List.map_append]; rfl
def fO (m:Mac) (S:List Nat) (s:Nat):Nat→List Nat
 | 0=>S
 | d + 1=>wY m (fO m S s d) (m.nx s d)
theorem Bw {m:Mac} (hm:m.Ok) (S:List Nat) {s:Nat} (hs:s < m.out.length):∀ d,d≤m.base→dZ m (fO m S s d) = notes (dZ m S) (bR m.q9 (m.cl s) d)
 | 0,_=>rfl
 | d + 1,hd=>by
  show dZ m (wY m (fO m S s d) (m.nx s d)) = _
  rw [Ah,Bw hm S hs d (by omega),jl,iE,Mac.uS hm hs (by omega)]
theorem Kq {m:Mac} (hm:m.Ok) {S:List Nat} {s:Nat} (hs:s < m.out.length) (hS:∀ x ∈ S,x < m.out.length):∀ d,d≤m.base→∀ x ∈ fO m S s d,x < m.out.length
 | 0,_=>hS
 | d + 1,hd=>fun x hx=>by
  have ih:=Kq hm hs hS d (by omega)
  have hx:x ∈ wY m (fO m S s d) (m.nx s d):=hx
  unfold wY at hx
  split at hx
  ·exact ih x hx
  ·rcases List.mem_append.1 hx with h | h
   ·exact ih x h
   ·rw [List.mem_singleton.1 h]; exact hm.lt s d hs (by omega)
theorem I7 (m:Mac) (S:List Nat) (s:Nat):∀ d,∃ r,fO m S s d = S ++ r
 | 0=>⟨[],by simp [fO]⟩
 | d + 1=>by
  obtain ⟨r,e⟩:=I7 m S s d
  show ∃ r,wY m (fO m S s d) (m.nx s d) = S ++ r
  unfold wY
  split
  ·exact ⟨r,e⟩
  ·exact ⟨r ++ [m.nx s d],by rw [e,List.append_assoc]⟩
theorem Rq.next {m:Mac} (hm:m.Ok) {S:List Nat} {a s:Nat} (k:Rq m S a) (hs:S[a]? = some s):Rq m (fO m S s m.base) (a + 1):=by
 have hsl:=k.lt s (List.mem_of_getElem? hs)
 refine ⟨Kq hm hsl k.lt m.base (Nat.le_refl _),?_⟩
 rw [Bw hm S hsl m.base (Nat.le_refl _)]
 exact k.bq.next (Mac.ru hm) (s:=m.cl s) (by unfold dZ; rw [List.getElem?_map,hs]; rfl)
theorem Mq {m:Mac} (hm:m.Ok) (S:List Nat) {s:Nat} (hs:s < m.out.length):vk m S s = rowOf m.q9 m.base (dZ m S) (m.cl s):=by
 unfold vk rowOf
 refine List.map_congr_left fun d hd=>?_
 rw [Mac.uS hm hs (List.mem_range.1 hd)]
theorem Rq.form {m:Mac} (hm:m.Ok) {S:List Nat} {a:Nat} (k:Rq m S a) (h:S.length≤a):m.form.i = ⟨m.base,S.map m.o,S.map (vk m S)⟩:=by
 have hb:=k.bq.done (by unfold dZ; rw [List.length_map]; exact h)
 unfold Mac.form built
 rw [hb]
 unfold yR Mac.i
 dsimp only
 have h1:(dZ m S).map m.Og = S.map m.o:=by
  unfold dZ
  rw [List.map_map]
  exact List.map_congr_left fun s hs=>Mac.Ac hm (k.lt s hs)
 rw [h1]
 congr 1
 unfold dZ
 rw [List.map_map,List.map_map]
 refine List.map_congr_left fun s hs=>?_
 rw [Mq hm S (k.lt s hs)]
 unfold rowOf
 show List.map _ (List.map _ _) = _
 rw [List.map_map]
 rfl
end Go.Proofs.Ytedneplaibmppaa
