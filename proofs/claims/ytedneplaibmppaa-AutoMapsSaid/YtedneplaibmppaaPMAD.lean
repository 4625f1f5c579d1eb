/- Contracts of the functions that PMAH comes to. -/
import Derived.Test.YtedneplaibmppaaPMAC
set_option maxRecDepth 100000
set_option maxHeartbeats 2000000
set_option linter.unusedVariables false
set_option linter.unusedSectionVars false
set_option linter.unusedSimpArgs false
namespace Go.Proofs.Ytedneplaibmppaa
open Go.Rx Go.RowKit
attribute [local irreducible] E iJ cellAt bJ storeAt callable dh dG dO findKey dZ bP Hp.at Hp.set Hp.lay dL cO setAt aJ dx bO dz Rnd gq fB gY Int.tmod Int.tdiv Int.fdiv
section
variable [bC]
attribute [local irreducible] sameAt j6
theorem Vp (v:Value)(m:Mac)(h:Hp)(hv:MV h v m.i)(hm:m.Ok)(hl:m.out.length≤100000)(hbl:m.base≤1000):aJ E 63 [v] h (fun r h'=>jY h h' r m.form.i∧aA h h'):=by
 obtain ⟨bx,rfl,hbx⟩:=hv.box;obtain ⟨ao,an,co,cn,hcx⟩:=hbx.cx;have hlenx:=hbx.len;have hn1:=hm.n1;have hcl:=Mac.nO hm;obtain ⟨i3,t3,-,z3⟩:=ty3;obtain ⟨iM,tM,dM⟩:=Pg;refine enter63 (by simp) ?_;conv=>whnf
 refine aC.cut (α:=Hp) (fun _=>[(2,ptr (h.next + 1) 0),(1,ptr h.next 0)]) (fun x H=>x = H∧aA h H∧H.at h.next = some (.row 25 true bx)∧H.at (h.next + 1) = some (.row 25 true [int 0,aN,aN])∧H.next = h.next + 2) ?_ ?_
 ·conv=>whnf
  have n1:(h.lay (.row 25 true bx)).next = h.next + 1:=Hp.bF _ _;exact ⟨_,⟨congrArg (fun k=>ptr k 0) n1,rfl,trivial⟩,⟨rfl,(aA.lay _ _).bH _,Hp.bg _ (Hp.ak _ _),eB n1 (Hp.ak _ _),by rw [Hp.bF,n1]⟩,rfl⟩
 rintro H φ1 _ ⟨rfl,gH,aX,aR,nH⟩;conv=>whnf
 refine aC.cut (α:=Value×Nat×Hp) (fun s=>[(3,ptr s.2.1 0),(2,ptr (h.next + 1) 0),(1,ptr h.next 0)]) (fun s H2=>s.2.2 = H2∧aA H s.2.2∧Built h s.2.2 3 s.1 m.cls∧s.2.2.at s.2.1 = some (.row 22 true [s.1])) ?_ ?_
 ·conv=>whnf
  refine ⟨_,aI aX hlenx,?_⟩;conv=>whnf
  refine aJ.mono (MB _ m _ (Bx.mv (hbx.ext gH)) hm hl hbl) ?_;rintro w H2 ⟨hw,g2⟩;have hws:=hw.c.slice;obtain ⟨aw,rfl,-⟩:=hws;conv=>whnf
  refine ⟨rfl,_,bX (vs:=[.slice aw m.cls.length m.cls.length]) rfl rfl rfl,?_⟩;conv=>whnf
  exact ⟨(_,H2.next,_),⟨rfl,rfl,rfl,trivial⟩,⟨rfl,g2.bH _,(hw.ext (aA.lay _ _)).back gH.next,Hp.ak _ _⟩,rfl⟩
 rintro ⟨w,D3,H2⟩ φ2 _ ⟨rfl,g2,hw,a3⟩;dsimp only at g2 hw a3 ⊢;have hws:=hw.c.slice;obtain ⟨aw,rfl,haw⟩:=hws;have haw:=haw 0 (by omega);obtain ⟨rw,erw,-⟩:=haw;subst erw;conv=>whnf
 refine aC.cut (α:=Nat×Nat×Hp) (fun s=>[(4,ptr s.1 0),(3,ptr D3 0),(2,ptr (h.next + 1) 0),(1,ptr h.next 0)]) (fun s H3=>s.2.2 = H3∧aA H2 s.2.2∧s.2.2.at s.1 = some (.row 114 true [bL s.2.1])∧wW s.2.2 s.2.1 []∧s.2.1 < s.1∧H2.next≤s.2.1) ?_ ?_
 ·conv=>whnf
  refine ⟨rfl,_,bX (vs:=[bL H2.next]) rfl rfl rfl,?_⟩;conv=>whnf
  have n2:(H2.lay (.map [] 0)).next = H2.next + 1:=Hp.bF _ _;refine ⟨(H2.next + 1,H2.next,_),⟨congrArg (fun k=>ptr k 0) n2,rfl,rfl,rfl,trivial⟩,⟨rfl,(aA.lay _ _).bH _,eB n2 (Hp.ak _ _),⟨0,?_⟩,Nat.lt_succ_self _,Nat.le_refl _⟩,rfl⟩;exact ((MapAt.new (enc:=encI) H2).ext (aA.lay _ _)).congr fun k=>(if_neg (by simp)).symm
 rintro ⟨D4,M,H3⟩ φ3 _ ⟨rfl,g3,a4,hM3,hMD,rP⟩;dsimp only at g3 a4 hM3 hMD rP ⊢;have g23:=g2.trans g3;have a33:=g3.at_ _ _ a3;have hlt3:=Hp.aU a3;have hlt1:=Hp.aU (g2.at_ _ _ aR);conv=>whnf
 refine aC.cut (α:=Hp) (fun s=>[(4,ptr D4 0),(3,ptr D3 0),(2,ptr (h.next + 1) 0),(1,ptr h.next 0)]) (fun s H4=>s = H4∧aA H s∧s.at D4 = some (.row 114 true [bL M])∧s.at D3 = some (.row 22 true [slc rw 0 m.cls.length m.cls.length])∧wW s M m.cls∧Built h s 3 (slc rw 0 m.cls.length m.cls.length) m.cls) ?_ ?_
 ·have cl3:cellAt H3 D3 0 = some (slc rw 0 m.cls.length m.cls.length):=bA a33 rfl;conv=>whnf
  refine aC.go ?_;conv=>whnf
  refine ⟨_,cl3,?_⟩;conv=>whnf
  refine bT (α:=Nat×Hp) (fun s=>[(16,int s.1),(15,int m.cls.length),(14,slc rw 0 m.cls.length m.cls.length),(4,ptr D4 0),(3,ptr D3 0),(2,ptr (h.next + 1) 0),(1,ptr h.next 0)]) (fun s=>s.2) (fun s=>s.1≤m.cls.length∧aA H s.2∧s.2.at D4 = some (.row 114 true [bL M])∧s.2.at D3 = some (.row 22 true [slc rw 0 m.cls.length m.cls.length])∧wW s.2 M (m.cls.take s.1)∧Built h s.2 3 (slc rw 0 m.cls.length m.cls.length) m.cls) (fun s=>m.cls.length - s.1) (0,H3) ⟨Nat.zero_le _,g23,a4,a33,hM3,hw.ext g3⟩ ⟨rfl,rfl,rfl,rfl,rfl,rfl,rfl,trivial⟩ (Hp.Le.refl _) ?_;rintro ⟨k,H4⟩ φ4 ⟨hk,g4,b4,b3,hM4,hw4⟩;dsimp only at hk g4 b4 b3 hM4 hw4 ⊢;conv=>whnf
  repeat (refine aC.go ?_; conv=>whnf)
  refine dJ (fun q1=>?_) (fun q1=>?_);rotate_left
  ·have:k = m.cls.length:=by omega
   rw [this,List.take_length] at hM4;conv=>whnf
   exact ⟨H4,⟨rfl,rfl,rfl,rfl,trivial⟩,⟨rfl,g4,b4,b3,hM4,hw4⟩,rfl⟩
  have hkl:k < m.cls.length:=by omega
  have hvc:=View.iI hw4.view hkl;obtain ⟨r,o,sp,er,hsp,-,hc⟩:=hvc;cases er
  have adT:∃ c,gl m.cls k = c:=⟨_,rfl⟩;obtain ⟨c,ec⟩:=adT;have hck:m.cls[k]? = some c:=by rw [← ec,l9 hkl]; exact List.getElem?_eq_getElem hkl
  have htk:=gK hck;rw [ec] at hc;obtain ⟨n4,hM4⟩:=hM4;have c4:cellAt H4 D4 0 = some (bL M):=bA b4 rfl;have htl:(m.cls.take k).length = k:=by rw [List.length_take]; omega
  have ZE:M < H4.next:=by have:=Hp.aU b4; omega
  conv=>whnf
  refine aC.go ?_;conv=>whnf
  refine aC.cut (α:=Hp) (fun s=>[(16,int k),(15,int m.cls.length),(14,slc rw 0 m.cls.length m.cls.length),(4,ptr D4 0),(3,ptr D3 0),(2,ptr (h.next + 1) 0),(1,ptr h.next 0)]) (fun s H5=>s = H5∧aA H s∧s.at D4 = some (.row 114 true [bL M])∧s.at D3 = some (.row 22 true [slc rw 0 m.cls.length m.cls.length])∧wW s M (m.cls.take (k + 1))∧Built h s 3 (slc rw 0 m.cls.length m.cls.length) m.cls) ?_ ?_;rotate_left
  ·rintro H5 φ5 _ ⟨rfl,g5,b4',b3',hM5,hw5⟩;conv=>whnf
   refine ⟨((k + 1:Nat):Int),wie (by omega) (by omega),?_⟩;conv=>whnf
   exact Rnd.mk (k + 1,H5) ⟨by show k + 1≤_; omega,g5,b4',b3',hM5,hw5⟩ (by show _ - (k + 1) < _ - k; omega) ⟨rfl,rfl,rfl,rfl,rfl,rfl,rfl,trivial⟩ (Hp.Le.refl _) rfl
  rw [htk];by_cases hin:c ∈ m.cls.take k
  ·have hf:stF (m.cls.take k) c = some (int (nT (m.cls.take k) c:Nat)):=if_pos hin;conv=>whnf
   refine aC.go ?_;conv=>whnf
   refine ⟨hsp,⟨by omega,by omega⟩,?_⟩;conv=>whnf
   refine ⟨_,hc,?_⟩;conv=>whnf
   refine aC.go ?_;conv=>whnf
   refine ⟨_,c4,?_⟩;conv=>whnf
   refine gy tM dM t3 z3 Bn (k:=c) rfl rfl hM4 hf ?_;conv=>whnf
   repeat (refine aC.go ?_; conv=>whnf)
   exact ⟨H4,⟨rfl,rfl,rfl,rfl,rfl,rfl,rfl,trivial⟩,⟨rfl,g4,b4,b3,⟨n4,hM4.congr (ZB hin)⟩,hw4⟩,rfl⟩
  ·have hf:stF (m.cls.take k) c = none:=if_neg hin;conv=>whnf
   refine aC.go ?_;conv=>whnf
   refine ⟨hsp,⟨by omega,by omega⟩,?_⟩;conv=>whnf
   refine ⟨_,hc,?_⟩;conv=>whnf
   refine aC.go ?_;conv=>whnf
   refine ⟨_,c4,?_⟩;conv=>whnf
   refine gI tM dM t3 z3 Bn (k:=c) rfl rfl hM4 hf ?_;conv=>whnf
   repeat (refine aC.go ?_; conv=>whnf)
   refine ⟨_,c4,?_⟩;conv=>whnf
   refine iO tM dM Bn (k:=c) (v:=int k) rfl rfl rfl hM4 ?_;intro H5 hM5 y5;have hnew:=ZC hin;rw [htl] at hnew;have hrM:rw≠M:=fun e=>by
    subst e;rcases hw with ⟨e1,_⟩ | ⟨r',e1,h2,x,hr'⟩
    ·cases e1
    ·cases e1
     have:=Hp.aU hr';omega
   conv=>whnf
   exact ⟨H5,⟨rfl,rfl,rfl,rfl,rfl,rfl,rfl,trivial⟩,⟨rfl,y5.grows g4 (by have:=g2.next; omega),y5.at_ _ _ (by omega) b4,y5.at_ _ _ (by omega) b3,⟨_,hM5.congr hnew⟩,oK hw4 fun r' o' e1 e2=>y5.at_ _ _ (by cases e1; exact hrM) e2⟩,rfl⟩
 rintro H4 φ4 _ ⟨rfl,g4,b4,b3,hM4,hw4⟩;have gh4:=gH.trans g4;have aX4:=g4.at_ _ _ aX;have aR4:=g4.at_ _ _ aR;have c0:=(hcx H4 h.next 25 gh4 aX4).c0;have c3:cellAt H4 D3 0 = some (slc rw 0 m.cls.length m.cls.length):=bA b3 rfl;have hv0:=View.iI hw4.view (i:=0) (by omega);obtain ⟨r,o,sp,er,hsp,-,hc0⟩:=hv0;cases er
 have ho:Ms 93 [ptr h.next 0,ptr D4 0] encI m.OT m.cls H4:=⟨can93,fun c hc H5 g5=>Ry m c h.next D4 M bx h H5 hbx hm hc (gh4.trans g5) (g5.at_ _ _ aX4) (g5.cell (bA b4 rfl)) (hM4.ext g5)⟩;have hn:Di 94 [ptr D3 0,ptr h.next 0,ptr D4 0] encI m.rJ m.base m.cls H4:=⟨can94,fun c hc d hd H5 g5=>Rz m c d D3 h.next D4 M _ bx h H5 hbx hm hc hd (gh4.trans g5) (g5.at_ _ _ aX4) (g5.cell c3) (hw4.view.ext g5) (g5.cell (bA b4 rfl)) (hM4.ext g5)⟩;have hb:=Dq m.base (m.cl 0) m.OT m.rJ m.cls 93 94 _ _ H4 ⟨hm.b1,hbl⟩ (Mac.rM hm) (List.mem_of_getElem? (Mac.qj hm hm.n1)) (by omega) ho hn;conv=>whnf
 refine aC.go ?_;conv=>whnf
 refine aC.go ?_;conv=>whnf
 refine aC.go ?_;conv=>whnf
 refine ⟨_,c0,?_⟩;conv=>whnf
 refine ⟨_,c3,?_⟩;conv=>whnf
 refine ⟨hsp,⟨by omega,by omega⟩,?_⟩;conv=>whnf
 refine ⟨_,hc0,?_⟩;conv=>whnf
 refine aJ.mono hb ?_;rintro w5 H5 ⟨hown,g5⟩;have hk5:=hown.known;obtain ⟨a5,b5,rfl⟩:=hk5;have aR5:=g5.at_ _ _ aR4;conv=>whnf
 refine ⟨rfl,_,bE (vs:=[int m.form.i.base,.slice a5 m.form.i.out.length m.form.i.out.length,.slice b5 m.form.i.next.length m.form.i.next.length]) aR5 rfl rfl rfl,?_⟩;conv=>whnf
 obtain ⟨i25,t25,jl,jm⟩:=C8;refine fu (r:=h.next + 1) (o:=0) (cs:=[int m.form.i.base,.slice a5 m.form.i.out.length m.form.i.out.length,.slice b5 m.form.i.next.length m.form.i.next.length]) rfl t25 jl ?_ ?_
 ·rw [jm];exact aI (Hp.bB _ (Hp.aU aR5)) rfl
 ·exact ⟨(hown.put (Hp.aU aR4) _).back gh4.next,(gh4.trans g5).bQ _ (by omega)⟩
end
end Go.Proofs.Ytedneplaibmppaa
namespace Go.Proofs.Ytedneplaibmppaa
open Go.Rx
section
variable {S:Type} [DecidableEq S]
theorem vI {next:S→Nat→S}{b:Nat}{s:S}{U:List S}(hU:wR next b U)(hs:s ∈ U):Whole next b s (bfs next b s):=(Ej hU hs).whole
theorem Dt {next:S→Nat→S}{b:Nat}{s:S}{U:List S}(hU:wR next b U)(hs:s ∈ U)(out:S→Int)(hb:1≤b):(built b s out next).Ok∧(built b s out next).out.length≤U.length:=by
 refine ⟨(vI hU hs).ok out hb,?_⟩;unfold built;rw [Il];refine j4 (vI hU hs).nodup ?_;exact (Ej hU hs).all (P:=fun s=>s ∈ U) (fun s h d hd=>hU.cl s h d hd) (fun x hx=>by rw [List.mem_singleton.1 hx]; exact hs)
theorem IG {next:S→Nat→S}{b:Nat}{s:S}{U:List S}(hU:wR next b U)(hs:s ∈ U)(out:S→Int){w:List Nat}(hw:Mac.Wd b w):(built b s out next).o ((built b s out next).run 0 w) = out (wS next s w):=(vI hU hs).says (vI hU hs).first hw
theorem II {next:S→Nat→S}{b:Nat}{s:S}{U:List S}(hU:wR next b U)(hs:s ∈ U){out:S→Int}{P:Int→Prop}(h:∀ s ∈ U,P (out s)):∀ x ∈ (built b s out next).out,P x:=fun x hx=>by
 unfold built yS at hx;obtain ⟨y,hy,rfl⟩:=List.mem_map.1 hx;exact h y ((Ej hU hs).all (P:=fun s=>s ∈ U) (fun s h d hd=>hU.cl s h d hd) (fun x hx=>by rw [List.mem_singleton.1 hx]; exact hs) y hy)
theorem Ep {next:S→Nat→S}{b:Nat}{s:S}{U:List S}(hU:wR next b U)(hs:s ∈ U){out:S→Int}(hb:1≤b)(h:∀ s ∈ U,out (next s 0) = out s):(built b s out next).Zer:=fun i hi=>by
 unfold built at hi ⊢;rw [Il] at hi;have w:=vI hU hs;have hi':=List.getElem?_eq_getElem hi;have hm:=List.getElem_mem hi;have hu:=(Ej hU hs).all (P:=fun s=>s ∈ U) (fun s h d hd=>hU.cl s h d hd) (fun x hx=>by rw [List.mem_singleton.1 hx]; exact hs) _ hm;rw [Mi hi' (by omega),Q0 hi',Q0 (vk (w.cl _ hm 0 (by omega)))];exact h _ hu
end
def sq (n k:Nat):List (Int×Int):=(List.range n).flatMap fun s:Nat=>(List.range k).map fun c:Nat=>((s:Int),(c:Int))
theorem ko {n k:Nat}{p:Int×Int}:p ∈ sq n k↔(0≤p.1∧p.1 < n)∧(0≤p.2∧p.2 < k):=by
 unfold sq;rw [List.mem_flatMap];constructor
 ·rintro ⟨s,hs,h⟩;obtain ⟨c,hc,rfl⟩:=List.mem_map.1 h;have:=List.mem_range.1 hs;have:=List.mem_range.1 hc;dsimp only;omega
 ·rintro ⟨⟨h1,h2⟩,h3,h4⟩;refine ⟨p.1.toNat,List.mem_range.2 (by omega),List.mem_map.2 ⟨p.2.toNat,List.mem_range.2 (by omega),?_⟩⟩;obtain ⟨a,b⟩:=p;dsimp only at h1 h3 ⊢;rw [Prod.mk.injEq];omega
theorem Kl (k:Nat):∀ l:List Nat,(l.map fun _=>k).sum = l.length * k
 | []=>by simp
 | x :: l=>by rw [List.map_cons,List.sum_cons,Kl k l,List.length_cons,Nat.add_mul]; omega
theorem yZ (n k:Nat):(sq n k).length = n * k:=by
 unfold sq;rw [List.length_flatMap];have h:=Kl k (List.range n);rw [List.length_range] at h;rw [← h];simp
namespace Mac
def qm (m:Mac)(step:Nat)(p:Int×Int)(d:Nat):Int×Int:=((m.nx p.1.toNat ((step * d + p.2.toNat) % m.base):Nat),((step * d + p.2.toNat) / m.base:Nat))
def MC (m:Mac)(p:Int×Int):Int:=m.at_ p.1.toNat p.2.toNat
noncomputable def every (m:Mac) (step from_:Nat):Mac:=built m.base (0,(from_:Int)) m.MC (m.qm step)
theorem Aa {m:Mac}(hm:m.Ok){step B:Nat}(hB:step≤B):wR (m.qm step) m.base (sq m.out.length (B + 1)):=⟨fun p hp d hd=>by
 have h:=ko.1 hp;refine ko.2 ?_;unfold qm;dsimp only;have hb:=hm.b1;have h1:=hm.lt p.1.toNat ((step * d + p.2.toNat) % m.base) (by omega) (Nat.mod_lt _ (by omega));have h2:(step * d + p.2.toNat) / m.base≤B:=by
  have h3:step * d≤B * (m.base - 1):=Nat.mul_le_mul hB (by omega);have h4:B * (m.base - 1) + B = B * m.base:=by
   obtain ⟨c,hc⟩:∃ c,m.base = c + 1:=⟨m.base - 1,by omega⟩;rw [hc,Nat.add_sub_cancel,Nat.mul_add,Nat.mul_one]
  have h5:(step * d + p.2.toNat) / m.base≤(B * m.base) / m.base:=Nat.div_le_div_right (by omega);rw [Nat.mul_div_cancel _ (by omega)] at h5;exact h5
 have Q7:∃ q,(step * d + p.2.toNat) / m.base = q:=⟨_,rfl⟩;obtain ⟨q,eq⟩:=Q7;rw [eq] at h2 ⊢;omega⟩
theorem Ab {m:Mac}(hm:m.Ok){f B:Nat}(hf:f≤B):((0:Int),(f:Int)) ∈ sq m.out.length (B + 1):=ko.2 (by have:=hm.n1; dsimp only; omega)
theorem vJ {m:Mac}(hm:m.Ok)(step f:Nat):(m.every step f).Ok∧(m.every step f).out.length≤m.out.length * (max step f + 1):=by
 have:=Dt (Aa hm (Nat.le_max_left step f)) (Ab hm (Nat.le_max_right step f)) m.MC hm.b1;rw [yZ] at this;exact this
theorem Ac {m:Mac}(hm:m.Ok)(hb:2≤m.base)(hz:m.Zer)(step:Nat):∀ (w:List Nat) (p:Int×Int),Wd m.base w→0≤p.1→p.1 < m.out.length→m.MC (wS (m.qm step) p w) = m.at_ p.1.toNat (step * val m.base w + p.2.toNat)
 | [],p,_,_,_=>by show m.at_ _ _ = m.at_ _ (step * 0 + _); rw [Nat.mul_zero,Nat.zero_add]; rfl
 | d :: w,p,hw,h0,h1=>by
  have hd:=hw d (by simp);have hl:=hm.lt p.1.toNat ((step * d + p.2.toNat) % m.base) (by omega) (Nat.mod_lt _ (by omega));have ih:=Ac hm hb hz step w (m.qm step p d) (fun x hx=>hw x (by simp [hx])) (by unfold qm; dsimp only; omega) (by unfold qm; dsimp only; omega);show m.MC (wS (m.qm step) (m.qm step p d) w) = _;rw [ih];unfold qm;dsimp only;rw [Int.toNat_natCast,Int.toNat_natCast,← Tg hm hb hz (by omega) (Nat.mod_lt _ (by omega))]
  congr 1
  show _ = step * (d + m.base * val m.base w) + p.2.toNat;have e:=Nat.mod_add_div (step * d + p.2.toNat) m.base;rw [Nat.mul_add,Nat.mul_add];have e2:m.base * (step * val m.base w) = step * (m.base * val m.base w):=by rw [Nat.mul_left_comm]
  omega
theorem Er {m:Mac}(hm:m.Ok)(hb:2≤m.base)(hz:m.Zer)(step f:Nat):(m.every step f).Zer:=Ep (Aa hm (Nat.le_max_left step f)) (Ab hm (Nat.le_max_right step f)) hm.b1 fun p hp=>by
 have h:=ko.1 hp;have h1:=Ac hm hb hz step [0] p (by intro x hx; rw [List.mem_singleton.1 hx]; omega) h.1.1 h.1.2;have h2:=Ac hm hb hz step [] p (by simp [Wd]) h.1.1 h.1.2;have e:val m.base [0] = 0:=by simp [val]
 rw [e] at h1;exact h1.trans h2.symm
theorem za {m:Mac}(hm:m.Ok)(hb:2≤m.base)(hz:m.Zer)(step f n:Nat):(m.every step f).at_ 0 n = m.at_ 0 (step * n + f):=by
 have h:=IG (Aa hm (Nat.le_max_left step f)) (Ab hm (Nat.le_max_right step f)) m.MC (w:=dg m.base n) (CZ hb n);have h2:=Ac hm hb hz step (dg m.base n) (0,(f:Int)) (CZ hb n) (by dsimp only; omega) (by have:=hm.n1; dsimp only; omega);rw [XV hb] at h2;exact h.trans h2
end Mac
end Go.Proofs.Ytedneplaibmppaa
namespace Go.Proofs.Ytedneplaibmppaa
open Go.Rx Go.RowKit
abbrev noM:Value:=.agg ⟨[int 0,aN,aN]⟩
def ql (h h':Hp)(r:Value)(m:Mac):Prop:=∃ u e,r = .tuple ⟨[u,int e]⟩∧(m.form.out.length≤12→e = 0∧jY h h' u m.form.i)∧(12 < m.form.out.length→e = 8∧u = noM)
theorem ql.back {h1 h h':Hp}{r:Value}{m:Mac}(g:h1.next≤h.next)(k:ql h h' r m):ql h1 h' r m:=by
 obtain ⟨u,e,rfl,h1,h2⟩:=k;exact ⟨u,e,rfl,fun q=>⟨(h1 q).1,(h1 q).2.back g⟩,h2⟩
theorem abm {a b c:Nat}(h:a≤b * c)(hb:b≤12)(hc:c≤1001):a≤100000:=by
 have:=Nat.mul_le_mul hb hc;omega
attribute [local irreducible] E iJ cellAt bJ storeAt callable dh dG dO findKey dZ bP Hp.at Hp.set Hp.lay dL cO setAt aJ dx bO dz Rnd gq fB gY Int.tmod Int.tdiv Int.fdiv
section
variable [bC]
attribute [local irreducible] sameAt j6
theorem Pt (m:Mac)(p:Int×Int)(X:Nat)(bx:List Value)(h H:Hp)(hbx:Bx h bx m.i)(hm:OkS m)(hp:(0≤p.1∧p.1 < m.out.length)∧0≤p.2∧p.2 < 100000)(g:aA h H)(aX:H.at X = some (.row 25 true bx)):aJ E 95 [dB p,ptr X 0] H (fun r H'=>r = int (m.MC p)∧aA H H'):=by
 obtain ⟨a,c⟩:=p;obtain ⟨⟨h1,h2⟩,h3,h4⟩:=hp;dsimp only at h1 h2 h3 h4;obtain ⟨s,rfl⟩:∃ s:Nat,a = s:=⟨a.toNat,by omega⟩;obtain ⟨k,rfl⟩:∃ k:Nat,c = k:=⟨c.toNat,by omega⟩;have hlen:=hbx.len;have aP:(H.lay (.row 136 true [int s,int k])).at H.next = some (.row 136 true [int s,int k]):=Hp.ak _ _;have g1:aA H (H.lay (.row 136 true [int s,int k])):=aA.lay _ _;unfold dB;refine enter95 (by simp) ?_;conv=>whnf
 refine aC.go ?_;conv=>whnf
 refine aC.go ?_;conv=>whnf
 refine ⟨_,aI (g1.at_ _ _ aX) hlen,?_⟩;conv=>whnf
 refine ⟨_,bA aP rfl,?_⟩;conv=>whnf
 refine ⟨_,bA aP rfl,?_⟩;conv=>whnf
 refine aJ.mono (FT _ m s k _ (Bx.mv (hbx.ext (g.trans g1))) hm.ok hm.b25 (by omega) (by have:=hm.n12; omega) (by omega)) ?_;rintro r H2 ⟨rfl,g2⟩;conv=>whnf
 exact u7 rfl rfl ⟨rfl,g1.trans g2⟩
theorem Pv (m:Mac)(p:Int×Int)(step d:Nat)(S4 X:Nat)(bx:List Value)(h H:Hp)(hbx:Bx h bx m.i)(hm:OkS m)(hp:(0≤p.1∧p.1 < m.out.length)∧0≤p.2∧p.2 < 100000)(hst:step≤1000)(hd:d < m.base)(g:aA h H)(aX:H.at X = some (.row 25 true bx))(a4:cellAt H S4 0 = some (int step)):aJ E 96 [dB p,int d,ptr S4 0,ptr X 0] H (fun r H'=>r = dB (m.qm step p d)∧aA H H'):=by
 obtain ⟨a,c⟩:=p;obtain ⟨⟨h1,h2⟩,h3,h4⟩:=hp;dsimp only at h1 h2 h3 h4;obtain ⟨s,rfl⟩:∃ s:Nat,a = s:=⟨a.toNat,by omega⟩;obtain ⟨k,rfl⟩:∃ k:Nat,c = k:=⟨c.toNat,by omega⟩;obtain ⟨ao,an,co,cn,hcx⟩:=hbx.cx;have hb5:=hm.b5;have hb2:=hm.b2;have g1:aA H ((H.lay (.row 136 true [int s,int k])).lay (.row 136 true [int 0,int 0])):=(aA.lay _ _).bH _;have n1:(H.lay (.row 136 true [int s,int k])).next = H.next + 1:=Hp.bF _ _;have aP:((H.lay (.row 136 true [int s,int k])).lay (.row 136 true [int 0,int 0])).at H.next = some (.row 136 true [int s,int k]):=Hp.bg _ (Hp.ak _ _);have aR:((H.lay (.row 136 true [int s,int k])).lay (.row 136 true [int 0,int 0])).at (H.next + 1) = some (.row 136 true [int 0,int 0]):=eB n1 (Hp.ak _ _);unfold dB;refine enter96 (by simp) ?_;conv=>whnf
 refine aC.cut (α:=Hp) (fun _=>[(4,ptr H.next 0),(6,ptr (H.next + 1) 0),(1,int d),(2,ptr S4 0),(3,ptr X 0)]) (fun x H2=>x = H2∧aA H x∧x.at H.next = some (.row 136 true [int s,int k])∧x.at (H.next + 1) = some (.row 136 true [int 0,int 0])) ?_ ?_
 ·conv=>whnf
  exact ⟨_,⟨rfl,congrArg (fun k=>ptr k 0) n1,rfl,rfl,rfl,trivial⟩,⟨rfl,g1,aP,aR⟩,rfl⟩
 rintro H2 φ1 _ ⟨rfl,g2,aP,aR⟩;have b4:=g2.cell a4;have kx:=hcx H2 X 25 (g.trans g2) (g2.at_ _ _ aX);have c0:cellAt H2 X 0 = some (int (m.base:Int)):=kx.c0;have c2:=kx.c2;have hil:=hm.ok.vC;have hmul:step * d≤1000 * 5:=Nat.mul_le_mul hst (by omega);have acp:(step:Int) * (d:Int) = ((step * d:Nat):Int):=by rw [Int.natCast_mul]
 have Yb:∃ u,step * d = u:=⟨_,rfl⟩;obtain ⟨u,eu⟩:=Yb;have eE:m.qm step ((s:Int),(k:Int)) d = (((m.nx s ((u + k) % m.base):Nat):Int),(((u + k) / m.base:Nat):Int)):=by
  unfold Mac.qm;dsimp only;rw [Int.toNat_natCast,Int.toNat_natCast,eu]
 rw [eE];rw [eu] at hmul acp;have em:=rG (u + k) m.base;have ed:=CQ (u + k) m.base;have hml:=Nat.mod_lt (u + k) (show m.base > 0 by omega);have hdl:=Nat.div_le_self (u + k) m.base;have Q7:∃ q,(u + k) / m.base = q:=⟨_,rfl⟩;obtain ⟨q,eq⟩:=Q7;have RA:∃ r,(u + k) % m.base = r:=⟨_,rfl⟩;obtain ⟨r,er⟩:=RA;rw [eq] at ed hdl ⊢;rw [er] at em hml ⊢;have hnx:=kx.kR hm.ok (s:=s) (d:=r) (by omega) hml;obtain ⟨r1,o1,sp1,r2,o2,sp2,c2',rfl,hsp1,hc1,hsp2,hc2⟩:=hnx;conv=>whnf
 refine aC.cut (α:=Unit) (fun _=>[(7,int (u + k:Nat)),(4,ptr H.next 0),(6,ptr (H.next + 1) 0),(3,ptr X 0)]) (fun _ H3=>H2 = H3) ?_ ?_
 ·conv=>whnf
  refine ⟨_,b4,?_⟩;conv=>whnf
  refine ⟨(u:Int),wie acp (by omega),?_⟩;conv=>whnf
  refine ⟨_,bA aP rfl,?_⟩;conv=>whnf
  refine ⟨((u + k:Nat):Int),wie (by omega) (by omega),?_⟩;conv=>whnf
  exact ⟨(),⟨rfl,rfl,rfl,rfl,trivial⟩,rfl,rfl⟩
 rintro _ φ2 _ rfl;conv=>whnf
 refine aC.go ?_;conv=>whnf
 refine ⟨_,c2,?_⟩;conv=>whnf
 refine ⟨_,bA aP rfl,?_⟩;conv=>whnf
 refine ⟨hsp1,⟨by omega,by omega⟩,?_⟩;conv=>whnf
 refine ⟨_,hc1,?_⟩;conv=>whnf
 refine ⟨_,c0,?_⟩;conv=>whnf
 refine ⟨by show (m.base:Int)≠0; omega,?_⟩;conv=>whnf
 rw [em];refine ⟨hsp2,⟨by omega,by omega⟩,?_⟩;conv=>whnf
 refine ⟨_,hc2,?_⟩;conv=>whnf
 refine ⟨_,c0,?_⟩;conv=>whnf
 refine ⟨by show (m.base:Int)≠0; omega,(q:Int),wie ed (by omega),?_⟩;conv=>whnf
 refine ⟨rfl,_,bE (vs:=[int (m.nx s r),int q]) aR rfl rfl rfl,?_⟩;conv=>whnf
 have hs:(jL Try.prog 136).isSome = true:=by kernel_rfl
 refine fu (i:=(jL Try.prog 136).get hs) (r:=H.next + 1) (o:=0) (cs:=[int (m.nx s r),int q]) rfl (mP (by kernel_rfl) (Option.some_get hs).symm) (by kernel_rfl) ?_ ?_
 ·rw [show ((jL Try.prog 136).get hs).size = 2 from by kernel_rfl];exact aI (Hp.bB _ (Hp.aU aR)) rfl
 ·exact ⟨rfl,g2.bQ _ (by omega)⟩
theorem Br (v:Value)(m:Mac)(step from_:Nat)(h:Hp)(hv:MV h v m.i)(hm:OkS m)(hs:step≤1000)(hf:from_≤1000):aJ E 67 [v,int step,int from_] h (fun r h'=>jY h h' r (m.every step from_).i∧aA h h'):=by
 obtain ⟨bx,rfl,hbx⟩:=hv.box;obtain ⟨ao,an,co,cn,hcx⟩:=hbx.cx;have hb5:=hm.b5;refine enter67 (by simp) ?_;conv=>whnf
 refine aC.cut (α:=Hp) (fun _=>[(3,ptr h.next 0),(4,ptr (h.next + 1) 0),(6,ptr (h.next + 2) 0),(2,int from_)]) (fun x H=>x = H∧aA h x∧x.at h.next = some (.row 25 true bx)∧x.at (h.next + 1) = some (.row 3 true [int step])∧x.at (h.next + 2) = some (.row 25 true [int 0,aN,aN])) ?_ ?_
 ·conv=>whnf
  have n1:(h.lay (.row 25 true bx)).next = h.next + 1:=Hp.bF _ _;have n2:((h.lay (.row 25 true bx)).lay (.row 3 true [int step])).next = h.next + 2:=by rw [Hp.bF,n1]
  exact ⟨_,⟨rfl,congrArg (fun k=>ptr k 0) n1,congrArg (fun k=>ptr k 0) n2,rfl,trivial⟩,⟨rfl,((aA.lay _ _).bH _).bH _,Hp.bg _ (Hp.bg _ (Hp.ak _ _)),Hp.bg _ (eB n1 (Hp.ak _ _)),eB n2 (Hp.ak _ _)⟩,rfl⟩
 rintro H φ1 _ ⟨rfl,gH,aX,aS,aR⟩;have c0:=(hcx H h.next 25 gH aX).c0;have hU:∀ p ∈ sq m.out.length (1000 + 1),(0≤p.1∧p.1 < (m.out.length:Int))∧0≤p.2∧p.2 < 100000:=fun p hp=>by have:=ko.1 hp; omega
 have ho:Ms 95 [ptr h.next 0] dB m.MC (sq m.out.length (1000 + 1)) H:=⟨can95,fun p hp H5 g5=>Pt m p h.next bx h H5 hbx hm (hU p hp) (gH.trans g5) (g5.at_ _ _ aX)⟩;have hn:Di 96 [ptr (h.next + 1) 0,ptr h.next 0] dB (m.qm step) m.base (sq m.out.length (1000 + 1)) H:=⟨can96,fun p hp d hd H5 g5=>Pv m p step d (h.next + 1) h.next bx h H5 hbx hm (hU p hp) hs hd (gH.trans g5) (g5.at_ _ _ aX) (g5.cell (bA aS rfl))⟩;have hb:=Mx m.base (0,(from_:Int)) m.MC (m.qm step) (sq m.out.length (1000 + 1)) 95 96 _ _ H ⟨hm.ok.b1,by omega⟩ (Mac.Aa hm.ok hs) (Mac.Ab hm.ok hf) (by rw [yZ]; have:=hm.n12; have:=Nat.mul_le_mul this (Nat.le_refl 1001); omega) ho hn;conv=>whnf
 refine aC.go ?_;conv=>whnf
 refine aC.go ?_;conv=>whnf
 refine aC.go ?_;conv=>whnf
 refine ⟨_,c0,?_⟩;conv=>whnf
 refine aJ.mono hb ?_;rintro w5 H5 ⟨hown,g5⟩;have ME:∃ m',built m.base (0,(from_:Int)) m.MC (m.qm step) = m':=⟨_,rfl⟩;obtain ⟨m',em⟩:=ME;rw [em] at hown;have em':m.every step from_ = m':=em;rw [em'];have hk5:=hown.known;obtain ⟨a5,b5,rfl⟩:=hk5;have aR5:=g5.at_ _ _ aR;conv=>whnf
 refine ⟨rfl,_,bE (vs:=[int m'.i.base,.slice a5 m'.i.out.length m'.i.out.length,.slice b5 m'.i.next.length m'.i.next.length]) aR5 rfl rfl rfl,?_⟩;conv=>whnf
 obtain ⟨i25,t25,jl,jm⟩:=C8;refine fu (r:=h.next + 2) (o:=0) (cs:=[int m'.i.base,.slice a5 m'.i.out.length m'.i.out.length,.slice b5 m'.i.next.length m'.i.next.length]) rfl t25 jl ?_ ?_
 ·rw [jm];exact aI (Hp.bB _ (Hp.aU aR5)) rfl
 ·exact ⟨(hown.put (Hp.aU aR) _).back gH.next,(gH.trans g5).bQ _ (by omega)⟩
theorem tF (v:Value)(m:Mac)(h:Hp)(hv:MV h v m.i)(hm:m.Ok)(hl:m.out.length≤100000)(hbl:m.base≤1000):aJ E 66 [v] h (fun r h'=>ql h h' r m∧aA h h'):=by
 obtain ⟨bx,rfl,hbx⟩:=hv.box;have hlenx:=hbx.len;refine enter66 (by simp) ?_;conv=>whnf
 refine aC.cut (α:=Hp) (fun _=>[(3,int 0),(2,ptr (h.next + 1) 0),(1,ptr h.next 0)]) (fun x H=>x = H∧aA h H∧H.at h.next = some (.row 25 true bx)∧H.at (h.next + 1) = some (.row 25 true [int 0,aN,aN])) ?_ ?_
 ·conv=>whnf
  have n1:(h.lay (.row 25 true bx)).next = h.next + 1:=Hp.bF _ _;exact ⟨_,⟨rfl,congrArg (fun k=>ptr k 0) n1,rfl,trivial⟩,⟨rfl,(aA.lay _ _).bH _,Hp.bg _ (Hp.ak _ _),eB n1 (Hp.ak _ _)⟩,rfl⟩
 rintro H φ1 _ ⟨rfl,gH,aX,aR⟩;have Es:=Hp.aU aR;conv=>whnf
 refine aC.cut (α:=List Value×Nat×Hp) (fun s=>[(4,ptr s.2.1 0),(3,int 0),(2,ptr (h.next + 1) 0),(1,ptr h.next 0)]) (fun s H2=>s.2.2 = H2∧aA H s.2.2∧jY H s.2.2 (.agg ⟨s.1⟩) m.form.i∧s.2.2.at s.2.1 = some (.row 25 true s.1)) ?_ ?_
 ·conv=>whnf
  refine ⟨_,aI aX hlenx,?_⟩;conv=>whnf
  refine aJ.mono (Vp _ m _ (Bx.mv (hbx.ext gH)) hm hl hbl) ?_;rintro w H2 ⟨hw,g2⟩;have hk:=hw.known;obtain ⟨a2,b2,rfl⟩:=hk;conv=>whnf
  refine ⟨rfl,_,bX (vs:=[int m.form.i.base,.slice a2 m.form.i.out.length m.form.i.out.length,.slice b2 m.form.i.next.length m.form.i.next.length]) rfl rfl rfl,?_⟩;conv=>whnf
  exact ⟨(_,H2.next,_),⟨rfl,rfl,rfl,rfl,trivial⟩,⟨rfl,g2.bH _,hw.ext (aA.lay _ _),Hp.ak _ _⟩,rfl⟩
 rintro ⟨cs,D4,H2⟩ φ2 _ ⟨rfl,g2,hw,a4⟩;dsimp only at g2 hw a4 ⊢;have gh2:=gH.trans g2;have hk:=hw.known;obtain ⟨a2,b2,ecs⟩:=hk;have ecs:cs = [int m.form.i.base,.slice a2 m.form.i.out.length m.form.i.out.length,.slice b2 m.form.i.next.length m.form.i.next.length]:=by injection ecs with e; injection e
 subst ecs;have c1:cellAt H2 D4 1 = some (.slice a2 m.form.i.out.length m.form.i.out.length):=bA a4 rfl;have aR2:=g2.at_ _ _ aR;obtain ⟨i25,t25,jl,jm⟩:=C8;have efl:m.form.i.out.length = m.form.out.length:=rfl;by_cases hle:m.form.out.length≤12
 ·conv=>whnf
  refine aC.cut (α:=Unit) (fun _=>[(4,ptr D4 0),(3,int 0),(2,ptr (h.next + 1) 0)]) (fun _ H3=>H2 = H3) ?_ ?_
  ·conv=>whnf
   refine aC.go ?_;conv=>whnf
   refine ⟨_,c1,?_⟩;conv=>whnf
   refine Ag (by omega) ?_;conv=>whnf
   exact ⟨(),⟨rfl,rfl,rfl,trivial⟩,rfl,rfl⟩
  rintro _ φ3 _ rfl;conv=>whnf
  refine aC.go ?_;conv=>whnf
  refine ⟨_,aI a4 rfl,?_⟩;conv=>whnf
  refine ⟨rfl,_,bE (vs:=[int m.form.i.base,.slice a2 m.form.i.out.length m.form.i.out.length,.slice b2 m.form.i.next.length m.form.i.next.length]) aR2 rfl rfl rfl,?_⟩;conv=>whnf
  refine dD (r:=h.next + 1) (o:=0) (cs:=[int m.form.i.base,.slice a2 m.form.i.out.length m.form.i.out.length,.slice b2 m.form.i.next.length m.form.i.next.length]) (w:=int 0) rfl rfl rfl t25 jl ?_ ?_
  ·rw [jm];exact aI (Hp.bB _ (Hp.aU aR2)) rfl
  ·exact ⟨⟨_,0,rfl,fun _=>⟨rfl,(hw.put Es _).back gH.next⟩,fun q=>by omega⟩,gh2.bQ _ (by omega)⟩
 ·conv=>whnf
  refine aC.go ?_;conv=>whnf
  refine aC.go ?_;conv=>whnf
  refine ⟨_,c1,?_⟩;conv=>whnf
  refine mO (by omega) ?_;conv=>whnf
  refine aC.go ?_;conv=>whnf
  refine ⟨rfl,_,bE (vs:=[int 0,aN,aN]) aR2 rfl rfl rfl,?_⟩;conv=>whnf
  refine dD (r:=h.next + 1) (o:=0) (cs:=[int 0,aN,aN]) (w:=int 8) rfl rfl rfl t25 jl ?_ ?_
  ·rw [jm];exact aI (Hp.bB _ (Hp.aU aR2)) rfl
  ·exact ⟨⟨_,8,rfl,fun q=>absurd q hle,fun _=>⟨rfl,rfl⟩⟩,gh2.bQ _ (by omega)⟩
end
end Go.Proofs.Ytedneplaibmppaa
namespace Go.Proofs.Ytedneplaibmppaa
open Go.Rx Go.RowKit
theorem ql.known {h h':Hp}{r:Value}{m:Mac}(k:ql h h' r m):∃ a b c e,r = .tuple ⟨[.agg ⟨[a,b,c]⟩,int e]⟩∧oneCell a = true∧oneCell b = true∧oneCell c = true:=by
 obtain ⟨u,e,rfl,h1,h2⟩:=k;by_cases hl:m.form.out.length≤12
 ·obtain ⟨_,ho⟩:=h1 hl;obtain ⟨x,y,rfl⟩:=ho.known;exact ⟨_,_,_,e,rfl,rfl,rfl,rfl⟩
 ·obtain ⟨_,rfl⟩:=h2 (by omega);exact ⟨_,_,_,e,rfl,rfl,rfl,rfl⟩
theorem ql.put {h h':Hp}{r:Value}{m:Mac}(k:ql h h' r m){R:Nat}(hR:R < h.next)(o:Rx.Obj):ql h (h'.set R o) r m:=by
 obtain ⟨u,e,rfl,h1,h2⟩:=k;exact ⟨u,e,rfl,fun q=>⟨(h1 q).1,(h1 q).2.put hR o⟩,h2⟩
theorem ql.ext {h h' h2:Hp}{r:Value}{m:Mac}(g:aA h' h2)(k:ql h h' r m):ql h h2 r m:=by
 obtain ⟨u,e,rfl,h1,h3⟩:=k;exact ⟨u,e,rfl,fun q=>⟨(h1 q).1,(h1 q).2.ext g⟩,h3⟩
theorem ZF {a b c:Value}(h1:oneCell a = true)(h2:oneCell b = true)(h3:oneCell c = true):[a,b,c].all oneCell = true:=by simp [h1,h2,h3]
def IJ (step from_:Int):Prop:=step < 1∨30 < step∨from_ < 0∨100 < from_
attribute [local irreducible] E iJ cellAt bJ storeAt callable dh dG dO findKey dZ bP Hp.at Hp.set Hp.lay dL cO setAt aJ dx bO dz Rnd gq fB gY Int.tmod Int.tdiv Int.fdiv
section
variable [bC]
attribute [local irreducible] sameAt j6
theorem RB (v:Value)(m:Mac)(step from_:Int)(h:Hp)(hv:MV h v m.i)(hm:OkS m):aJ E 28 [v,int step,int from_] h (fun r h'=>((IJ step from_→r = .tuple ⟨[noM,int 1]⟩)∧(¬ IJ step from_→ql h h' r (m.every step.toNat from_.toNat)))∧aA h h'):=by
 obtain ⟨bx,rfl,hbx⟩:=hv.box;have hL:=hm.lens;obtain ⟨i25,t25,jl,jm⟩:=C8;refine enter28 (by simp) ?_;conv=>whnf
 refine aC.cut (α:=Hp) (fun _=>[(6,ptr (h.next + 1) 0),(3,ptr h.next 0),(1,int step),(2,int from_)]) (fun x H=>x = H∧aA h H∧H.at h.next = some (.row 25 true bx)∧H.at (h.next + 1) = some (.row 25 true [int 0,aN,aN])) ?_ ?_
 ·conv=>whnf
  have n1:(h.lay (.row 25 true bx)).next = h.next + 1:=Hp.bF _ _;exact ⟨_,⟨congrArg (fun k=>ptr k 0) n1,rfl,rfl,rfl,trivial⟩,⟨rfl,(aA.lay _ _).bH _,Hp.bg _ (Hp.ak _ _),eB n1 (Hp.ak _ _)⟩,rfl⟩
 rintro H φ1 _ ⟨rfl,gH,aX,aR⟩;conv=>whnf
 refine aC.cut (α:=Hp) (fun _=>[(6,ptr (h.next + 1) 0),(3,ptr h.next 0),(1,int step),(2,int from_)]) (fun x H2=>x = H2∧aA H H2) ?_ ?_
 ·conv=>whnf
  refine aC.go ?_;conv=>whnf
  refine ⟨_,aI aX hbx.len,?_⟩;conv=>whnf
  refine aJ.mono (lg _ m.i _ (Bx.mv (hbx.ext gH)) hL.1 hL.2.1 hL.2.2) ?_;rintro r H2 ⟨⟨e,rfl,he,-⟩,g2⟩;have he:=he hm.ck;subst he;conv=>whnf
  repeat (refine aC.go ?_; conv=>whnf)
  refine Ag (by omega) ?_;conv=>whnf
  exact ⟨_,⟨rfl,rfl,rfl,rfl,trivial⟩,⟨rfl,g2⟩,rfl⟩
 rintro H2 φ2 _ ⟨rfl,g2⟩;have aX2:=g2.at_ _ _ aX;have aR2:=g2.at_ _ _ aR;have gh2:=gH.trans g2;have Es:=Hp.aU aR2;have bad:IJ step from_→∀ H,aA h H→(((IJ step from_→Value.tuple ⟨[noM,int 1]⟩ = .tuple ⟨[noM,int 1]⟩)∧(¬ IJ step from_→ql h H (.tuple ⟨[noM,int 1]⟩) (m.every step.toNat from_.toNat)))∧aA h H):=fun k H g=>⟨⟨fun _=>rfl,fun q=>absurd k q⟩,g⟩;have hRg:=Hp.bB (.row 25 true [int 0,aN,aN]) Es;have gRg:aA h (H2.set (h.next + 1) (.row 25 true [int 0,aN,aN])):=gh2.bQ _ (by omega);conv=>whnf
 refine aC.cut (α:=Unit) (fun _=>[(6,ptr (h.next + 1) 0),(3,ptr h.next 0),(1,int step),(2,int from_)]) (fun _ H3=>H2 = H3∧¬ IJ step from_) ?_ ?_
 ·have fin:IJ step from_→j6 E [.cell 6 25,.tmp 7] ⟨OB φ2 [(6,ptr (h.next + 1) 0),(3,ptr h.next 0),(1,int step),(2,int from_)],H2,[]⟩ (fun _ _=>True)→True:=fun _ _=>trivial;clear fin;conv=>whnf
  refine aC.go ?_;conv=>whnf
  refine dJ (fun q1=>?_) (fun q1=>?_)
  ·conv=>whnf
   refine aC.go ?_;conv=>whnf
   refine ⟨rfl,_,bE (vs:=[int 0,aN,aN]) aR2 rfl rfl rfl,?_⟩;conv=>whnf
   exact dD (r:=h.next + 1) (o:=0) (cs:=[int 0,aN,aN]) (w:=int 1) rfl rfl rfl t25 jl (by rw [jm]; exact aI hRg rfl) (bad (.inl q1) _ gRg)
  conv=>whnf
  refine dJ (fun q2=>?_) (fun q2=>?_)
  ·conv=>whnf
   refine aC.go ?_;conv=>whnf
   refine ⟨rfl,_,bE (vs:=[int 0,aN,aN]) aR2 rfl rfl rfl,?_⟩;conv=>whnf
   exact dD (r:=h.next + 1) (o:=0) (cs:=[int 0,aN,aN]) (w:=int 1) rfl rfl rfl t25 jl (by rw [jm]; exact aI hRg rfl) (bad (.inr (.inl q2)) _ gRg)
  conv=>whnf
  refine dJ (fun q3=>?_) (fun q3=>?_)
  ·conv=>whnf
   refine aC.go ?_;conv=>whnf
   refine ⟨rfl,_,bE (vs:=[int 0,aN,aN]) aR2 rfl rfl rfl,?_⟩;conv=>whnf
   exact dD (r:=h.next + 1) (o:=0) (cs:=[int 0,aN,aN]) (w:=int 1) rfl rfl rfl t25 jl (by rw [jm]; exact aI hRg rfl) (bad (.inr (.inr (.inl q3))) _ gRg)
  conv=>whnf
  refine dJ (fun q4=>?_) (fun q4=>?_)
  ·conv=>whnf
   refine aC.go ?_;conv=>whnf
   refine ⟨rfl,_,bE (vs:=[int 0,aN,aN]) aR2 rfl rfl rfl,?_⟩;conv=>whnf
   exact dD (r:=h.next + 1) (o:=0) (cs:=[int 0,aN,aN]) (w:=int 1) rfl rfl rfl t25 jl (by rw [jm]; exact aI hRg rfl) (bad (.inr (.inr (.inr q4))) _ gRg)
  conv=>whnf
  exact ⟨(),⟨rfl,rfl,rfl,rfl,trivial⟩,⟨rfl,fun k=>by unfold IJ at k; omega⟩,rfl⟩
 rintro _ φ3 _ ⟨rfl,hnb⟩;have hnb':=hnb;unfold IJ at hnb';have yX:∃ s:Nat,step = s:=⟨step.toNat,by omega⟩;obtain ⟨s,rfl⟩:=yX;have abl:∃ f:Nat,from_ = f:=⟨from_.toNat,by omega⟩;obtain ⟨f,rfl⟩:=abl;have heo:=Mac.vJ hm.ok s f;have ze:=hm.n12;have hle:=abm heo.2 ze (by omega);rw [Int.toNat_natCast,Int.toNat_natCast];have hb5:=hm.b5;conv=>whnf
 refine aC.go ?_;conv=>whnf
 refine ⟨_,aI aX2 hbx.len,?_⟩;conv=>whnf
 refine aJ.mono (Br _ m s f _ (Bx.mv (hbx.ext gh2)) hm (by omega) (by omega)) ?_;rintro w H3 ⟨hw,g3⟩;conv=>whnf
 refine aJ.mono (tF _ (m.every s f) _ hw.mv heo.1 hle (by show m.base≤1000; omega)) ?_;rintro r H4 ⟨hr,g4⟩;have hrk:=hr.known;obtain ⟨a4,b4,c4,e4,rfl,o1,o2,o3⟩:=hrk;have aR4:=g4.at_ _ _ (g3.at_ _ _ aR2);conv=>whnf
 refine ⟨rfl,_,bE (vs:=[a4,b4,c4]) aR4 rfl (ZF o1 o2 o3) rfl,?_⟩;conv=>whnf
 refine dD (r:=h.next + 1) (o:=0) (cs:=[a4,b4,c4]) (w:=int e4) rfl rfl rfl t25 jl ?_ ?_
 ·rw [jm];exact aI (Hp.bB _ (Hp.aU aR4)) rfl
 ·exact ⟨⟨fun k=>absurd k hnb,fun _=>(hr.put (by have:=g3.next; omega) _).back (by have:=g3.next; have:=gh2.next; omega)⟩,((gh2.trans g3).trans g4).bQ _ (by omega)⟩
end
end Go.Proofs.Ytedneplaibmppaa
namespace Go.Proofs.Ytedneplaibmppaa
open Go.Rx
structure En where
 p:Int×Int
 bf:Int
 dg:Int
def jo (a b:Mac)(p:Int×Int)(d:Nat):Int×Int:=((a.nx p.1.toNat d:Nat),(b.nx p.2.toNat d:Nat))
def vK (a b:Mac)(p:Int×Int):Prop:=a.o p.1.toNat = b.o p.2.toNat
structure Df (a b:Mac) (T:List En) (S:List Nat) (i d:Nat):Prop where
 len:S.length = T.length
 first:∃ e,T[0]? = some e∧e.p = (0,0)∧e.bf = -1
 s0:S[0]? = some 0
 nodup:(T.map (·.p)).Nodup
 mem:∀ e ∈ T,e.p ∈ sq a.out.length b.out.length
 par:∀ (c:Nat) e,0 < c→T[c]? = some e→∃ (k g:Nat) (e':En) (s:Nat),e.bf = k∧e.dg = g∧k < c∧g < a.base∧T[k]? = some e'∧e.p = jo a b e'.p g∧S[k]? = some s∧S[c]? = some (s + 1)
 mono:∀ (c c':Nat) s s',c≤c'→S[c]? = some s→S[c']? = some s'→s≤s'
 near:∀ (c c':Nat) s s',i≤c→S[c]? = some s→S[c']? = some s'→s'≤s + 1
 clo:∀ (c e:Nat) x s,(c < i∨c = i∧e < d)→e < a.base→T[c]? = some x→S[c]? = some s→∃ (c':Nat) (y:En) (s':Nat),T[c']? = some y∧y.p = jo a b x.p e∧S[c']? = some s'∧s'≤s + 1
 same:∀ (c:Nat) e,c < i→T[c]? = some e→vK a b e.p
theorem Pw {a b:Mac}(ha:a.Ok)(hb:b.Ok)(hbb:a.base = b.base){p:Int×Int}(hp:p ∈ sq a.out.length b.out.length){d:Nat}(hd:d < a.base):jo a b p d ∈ sq a.out.length b.out.length:=by
 have h:=ko.1 hp;refine ko.2 ?_;have h1:=ha.lt p.1.toNat d (by omega) hd;have h2:=hb.lt p.2.toNat d (by omega) (by omega);unfold jo;dsimp only;omega
theorem Df.start {a b:Mac}(ha:a.Ok)(hb:b.Ok):Df a b [⟨(0,0),-1,0⟩] [0] 0 0 where
 len:=rfl
 first:=⟨_,rfl,rfl,rfl⟩
 s0:=rfl
 nodup:=by simp
 mem:=fun e he=>by
  rw [List.mem_singleton.1 he];have:=ha.n1;have:=hb.n1;exact ko.2 (by dsimp only; omega)
 par:=fun c e hc he=>by
  have:=(List.getElem?_eq_some_iff.1 he).1;simp at this; omega
 mono:=fun c c' s s' _ h1 h2=>by
  have:=(List.getElem?_eq_some_iff.1 h1).1;have:=(List.getElem?_eq_some_iff.1 h2).1;simp at *
  subst_vars
  simp at h1 h2;omega
 near:=fun c c' s s' _ h1 h2=>by
  have:=(List.getElem?_eq_some_iff.1 h2).1;simp at this;subst this;simp at h2;omega
 clo:=fun c e x s h=>by omega
 same:=fun c e h=>absurd h (Nat.not_lt_zero _)
theorem nR {α:Type}{l:List α}{x y:α}{c:Nat}(h:(l ++ [x])[c]? = some y):l[c]? = some y∨(c = l.length∧y = x):=by
 by_cases hc:c < l.length
 ·rw [List.getElem?_append_left hc] at h; exact .inl h
 ·have h1:=(List.getElem?_eq_some_iff.1 h).1;rw [List.length_append,List.length_singleton] at h1;have:c = l.length:=by omega
  subst this;rw [List.getElem?_append_right (Nat.le_refl _)] at h;simp at h;exact .inr ⟨rfl,h.symm⟩
theorem lu {α:Type}{l:List α}{x y:α}{c:Nat}(h:l[c]? = some y):(l ++ [x])[c]? = some y:=by
 rw [List.getElem?_append_left (List.getElem?_eq_some_iff.1 h).1]; exact h
theorem Et {α:Type}(l:List α)(x:α):(l ++ [x])[l.length]? = some x:=by
 rw [List.getElem?_append_right (Nat.le_refl _)]; simp
theorem Df.skip {a b:Mac}{T:List En}{S:List Nat}{i d:Nat}(k:Df a b T S i d){x:En}{s:Nat}(hx:T[i]? = some x)(hs:S[i]? = some s)(h:jo a b x.p d ∈ T.map (·.p)):Df a b T S i (d + 1):=by
 refine { k with clo:=fun c e y t hc he hy ht=>?_ };by_cases hq:c = i∧e = d
 ·obtain ⟨rfl,rfl⟩:=hq;rw [hx] at hy;cases hy
  rw [hs] at ht;cases ht
  obtain ⟨z,hz,ez⟩:=List.mem_map.1 h;obtain ⟨c',hc'⟩:=List.getElem?_of_mem hz;have hl:=(List.getElem?_eq_some_iff.1 hc').1;have hsl:c' < S.length:=by have:=k.len; omega
  have hs':S[c']? = some S[c']:=List.getElem?_eq_getElem hsl;exact ⟨c',z,_,hc',ez,hs',k.near c c' _ _ (Nat.le_refl _) hs hs'⟩
 ·exact k.clo c e y t (by omega) he hy ht
theorem Df.add {a b:Mac}(ha:a.Ok)(hb:b.Ok)(hbb:a.base = b.base){T:List En}{S:List Nat}{i d:Nat}(k:Df a b T S i d){x:En}{s:Nat}(hx:T[i]? = some x)(hs:S[i]? = some s)(hd:d < a.base)(h:jo a b x.p d ∉ T.map (·.p)):Df a b (T ++ [⟨jo a b x.p d,(i:Int),(d:Int)⟩]) (S ++ [s + 1]) i (d + 1):=by
 have hl:=k.len;have hil:=(List.getElem?_eq_some_iff.1 hx).1;refine ⟨by rw [List.length_append,List.length_append,hl]; rfl,?_,lu k.s0,?_,?_,?_,?_,?_,?_,?_⟩
 ·obtain ⟨e,h1,h2⟩:=k.first;exact ⟨e,lu h1,h2⟩
 ·rw [List.map_append,List.nodup_append];exact ⟨k.nodup,by simp,fun y hy z hz=>by
   simp at hz;rw [hz];exact fun e=>h (e ▸ hy)⟩
 ·intro e he;rcases List.mem_append.1 he with he | he
  ·exact k.mem e he
  ·rw [List.mem_singleton.1 he];exact Pw ha hb hbb (k.mem x (List.mem_of_getElem? hx)) hd
 ·intro c e hc he;rcases nR he with he | ⟨rfl,rfl⟩
  ·obtain ⟨k',g,e',s',h1,h2,h3,h4,h5,h6,h7,h8⟩:=k.par c e hc he;exact ⟨k',g,e',s',h1,h2,h3,h4,lu h5,h6,lu h7,lu h8⟩
  ·exact ⟨i,d,x,s,rfl,rfl,hil,hd,lu hx,rfl,lu hs,by rw [← hl]; exact Et _ _⟩
 ·intro c c' t t' hcc h1 h2;rcases nR h2 with h2 | ⟨rfl,rfl⟩
  ·rcases nR h1 with h1 | ⟨rfl,rfl⟩
   ·exact k.mono c c' t t' hcc h1 h2
   ·have:=(List.getElem?_eq_some_iff.1 h2).1;omega
  ·rcases nR h1 with h1 | ⟨rfl,rfl⟩
   ·exact k.near i c s t (Nat.le_refl _) hs h1
   ·exact Nat.le_refl _
 ·intro c c' t t' hic h1 h2;have hst:s≤t:=by
   rcases nR h1 with h1 | ⟨rfl,rfl⟩
   ·exact k.mono i c s t hic hs h1
   ·omega
  rcases nR h2 with h2 | ⟨rfl,rfl⟩
  ·have:=k.near i c' s t' (Nat.le_refl _) hs h2;omega
  ·omega
 ·intro c e y t hc he hy ht;have hcl:c < T.length:=by omega
  have hy2:T[c]? = some y:=by
   rcases nR hy with hy | ⟨e1,_⟩
   ·exact hy
   ·omega
  have ht2:S[c]? = some t:=by
   rcases nR ht with ht | ⟨e1,_⟩
   ·exact ht
   ·omega
  by_cases hq:c = i∧e = d
  ·obtain ⟨rfl,rfl⟩:=hq;rw [hx] at hy2;cases hy2
   rw [hs] at ht2;cases ht2
   exact ⟨T.length,_,s + 1,Et _ _,rfl,by rw [← hl]; exact Et _ _,Nat.le_refl _⟩
  ·obtain ⟨c',y',s',h1,h2,h3,h4⟩:=k.clo c e y t (by omega) he hy2 ht2;exact ⟨c',y',s',lu h1,h2,lu h3,h4⟩
 ·intro c e hc he;rcases nR he with he | ⟨rfl,rfl⟩
  ·exact k.same c e hc he
  ·omega
theorem Df.turn {a b:Mac}{T:List En}{S:List Nat}{i:Nat}(k:Df a b T S i a.base){x:En}(hx:T[i]? = some x)(h:vK a b x.p):Df a b T S (i + 1) 0 :=
 { k with
  near:=fun c c' s s' hc=>k.near c c' s s' (by omega)
  clo:=fun c e y t hc he=>k.clo c e y t (by omega) he
  same:=fun c e hc he=>by
   by_cases hq:c = i
   ·subst hq;rw [hx] at he;cases he
    exact h
   ·exact k.same c e (by omega) he }
theorem Yc (a b:Mac):∀ (w:List Nat) (s t:Nat),wS (jo a b) ((s:Int),(t:Int)) w = (((a.run s w:Nat):Int),((b.run t w:Nat):Int))
 | [],s,t=>rfl
 | d :: w,s,t=>Yc a b w (a.nx s d) (b.nx t d)
theorem Df.alike {a b:Mac}{T:List En}{S:List Nat}{i:Nat}(k:Df a b T S i 0)(hi:T.length≤i):Mac.Alike a b 0 0:=by
 have key:∀ (w:List Nat) (c:Nat) (x:En),Mac.Wd a.base w→T[c]? = some x→vK a b (wS (jo a b) x.p w):=by
  intro w
  induction w with
  | nil=>intro c x _ hx; exact k.same c x (by have:=(List.getElem?_eq_some_iff.1 hx).1; omega) hx
  | cons d w ih =>
   intro c x hw hx;have hl:=(List.getElem?_eq_some_iff.1 hx).1;have hsl:c < S.length:=by have:=k.len; omega
   obtain ⟨c',y,s',h1,h2,_⟩:=k.clo c d x S[c] (.inl (by omega)) (hw d (by simp)) hx (List.getElem?_eq_getElem hsl);have:=ih c' y (fun z hz=>hw z (by simp [hz])) h1;rw [h2] at this;exact this
 intro w hw;obtain ⟨e,h1,h2,_⟩:=k.first;have h:=key w 0 e hw h1;rw [h2] at h;have e2:=Yc a b w 0 0;have e3:((0:Int),(0:Int)) = (((0:Nat):Int),((0:Nat):Int)):=rfl;rw [e3,e2] at h;unfold vK at h;rw [Int.toNat_natCast,Int.toNat_natCast] at h;exact h
theorem Df.least {a b:Mac}{T:List En}{S:List Nat}{i:Nat}(k:Df a b T S i 0){s:Nat}(hs:S[i]? = some s){w:List Nat}(hw:Mac.Wd a.base w)(h:a.o (a.run 0 w)≠b.o (b.run 0 w)):s≤w.length:=by
 have key:∀ (w v:List Nat) (c:Nat) (x:En) (t:Nat),Mac.Wd a.base v→T[c]? = some x→S[c]? = some t→t≤w.length→¬ vK a b (wS (jo a b) x.p v)→s≤w.length + v.length:=by
  intro w v
  induction v generalizing w with
  | nil =>
   intro c x t _ hx ht htw hn;by_cases hc:c < i
   ·exact absurd (k.same c x hc hx) hn
   ·have:=k.mono i c s t (by omega) hs ht;simp; omega
  | cons d v ih =>
   intro c x t hv hx ht htw hn;by_cases hc:c < i
   ·obtain ⟨c',y,s',h1,h2,h3,h4⟩:=k.clo c d x t (.inl hc) (hv d (by simp)) hx ht;have:=ih (w ++ [d]) c' y s' (fun z hz=>hv z (by simp [hz])) h1 h3 (by rw [List.length_append,List.length_singleton]; omega) (by rw [h2]; exact hn);rw [List.length_append,List.length_singleton] at this;rw [List.length_cons];omega
   ·have:=k.mono i c s t (by omega) hs ht;omega
 obtain ⟨e,h1,h2,_⟩:=k.first;have:=key [] w 0 e 0 hw h1 k.s0 (Nat.le_refl _) (by
  rw [h2];have e3:((0:Int),(0:Int)) = (((0:Nat):Int),((0:Nat):Int)):=rfl;rw [e3,Yc];unfold vK;rw [Int.toNat_natCast,Int.toNat_natCast];exact h)
 simpa using this
def both (a b:Mac):Mac:=⟨a.base,a.out ++ b.out,a.next ++ b.next.map fun r=>r.map fun t=>t + a.out.length⟩
theorem ZG {a b:Mac}{s:Nat}(h:s < a.out.length):(both a b).o s = a.o s:=by
 unfold both Mac.o;dsimp only;rw [List.getD_eq_getElem?_getD,List.getD_eq_getElem?_getD,List.getElem?_append_left h]
theorem ZH {a b:Mac}(t:Nat):(both a b).o (t + a.out.length) = b.o t:=by
 unfold both Mac.o;dsimp only;rw [List.getD_eq_getElem?_getD,List.getD_eq_getElem?_getD,List.getElem?_append_right (by omega),Nat.add_sub_cancel]
theorem Tt {a b:Mac}(ha:a.Ok){s d:Nat}(h:s < a.out.length):(both a b).nx s d = a.nx s d:=by
 unfold both Mac.nx;dsimp only;rw [List.getD_eq_getElem?_getD (l:=a.next ++ _),List.getElem?_append_left (by rw [ha.len]; exact h),← List.getD_eq_getElem?_getD]
theorem Km {a b:Mac}(ha:a.Ok)(t:Nat):(both a b).next.getD (t + a.out.length) [] = (b.next.getD t []).map fun t=>t + a.out.length:=by
 unfold both;dsimp only;rw [List.getD_eq_getElem?_getD,List.getElem?_append_right (by rw [ha.len]; omega),ha.len,Nat.add_sub_cancel,List.getElem?_map,List.getD_eq_getElem?_getD];cases b.next[t]? <;> rfl
theorem Tv {a b:Mac}(ha:a.Ok)(hb:b.Ok){t d:Nat}(h:t < b.out.length)(hd:d < b.base):(both a b).nx (t + a.out.length) d = b.nx t d + a.out.length:=by
 unfold Mac.nx;rw [Km ha];have hl:=hb.row t h;generalize b.next.getD t [] = l at hl;rw [List.getD_eq_getElem?_getD,List.getD_eq_getElem?_getD,List.getElem?_map,List.getElem?_eq_getElem (by omega)];rfl
theorem ZI {a b:Mac}(ha:a.Ok)(hb:b.Ok)(hbb:a.base = b.base):(both a b).Ok:=by
 have hlen:(both a b).out.length = a.out.length + b.out.length:=List.length_append;refine ⟨ha.b1,by rw [hlen]; have:=ha.n1; omega,?_,fun s hs=>?_,fun s d hs hd=>?_⟩
 ·rw [hlen];show (a.next ++ _).length = _;rw [List.length_append,List.length_map,ha.len,hb.len]
 ·rw [hlen] at hs;by_cases h:s < a.out.length
  ·have:(both a b).next.getD s [] = a.next.getD s []:=by
    unfold both;dsimp only;rw [List.getD_eq_getElem?_getD,List.getElem?_append_left (by rw [ha.len]; exact h),← List.getD_eq_getElem?_getD]
   rw [this];exact ha.row s h
  ·obtain ⟨t,rfl⟩:∃ t,s = t + a.out.length:=⟨s - a.out.length,by omega⟩;rw [Km ha,List.length_map,hb.row t (by omega)];exact hbb.symm
 ·rw [hlen] at hs ⊢;have hd:d < a.base:=hd;by_cases h:s < a.out.length
  ·rw [Tt ha h];have:=ha.lt s d h hd;omega
  ·obtain ⟨t,rfl⟩:∃ t,s = t + a.out.length:=⟨s - a.out.length,by omega⟩;rw [Tv ha hb (by omega) (by omega)];have:=hb.lt t d (by omega) (by omega);omega
theorem Kn {a b:Mac}(ha:a.Ok):∀ {w:List Nat} {s:Nat},s < a.out.length→Mac.Wd a.base w→(both a b).run s w = a.run s w
 | [],s,_,_=>rfl
 | d :: w,s,hs,hw=>by
  show (both a b).run ((both a b).nx s d) w = a.run (a.nx s d) w;rw [Tt ha hs];exact Kn ha (ha.lt s d hs (hw d (by simp))) fun x hx=>hw x (by simp [hx])
theorem Ko {a b:Mac}(ha:a.Ok)(hb:b.Ok):∀ {w:List Nat} {t:Nat},t < b.out.length→Mac.Wd b.base w→(both a b).run (t + a.out.length) w = b.run t w + a.out.length
 | [],t,_,_=>rfl
 | d :: w,t,ht,hw=>by
  show (both a b).run ((both a b).nx _ d) w = b.run (b.nx t d) w + _;rw [Tv ha hb ht (hw d (by simp))];exact Ko ha hb (hb.lt t d ht (hw d (by simp))) fun x hx=>hw x (by simp [hx])
theorem abn {a b:Mac}(ha:a.Ok)(hb:b.Ok)(hbb:a.base = b.base)(h:¬ Mac.Alike a b 0 0):∃ w,Mac.Wd a.base w∧w.length≤a.out.length + b.out.length∧a.o (a.run 0 w)≠b.o (b.run 0 w):=by
 have ho:=ZI ha hb hbb;have hlen:(both a b).out.length = a.out.length + b.out.length:=List.length_append;have ha1:=ha.n1;have hb1:=hb.n1;have e:∀ w,Mac.Wd a.base w→((both a b).o ((both a b).run 0 w) = a.o (a.run 0 w)∧(both a b).o ((both a b).run (0 + a.out.length) w) = b.o (b.run 0 w)):=fun w hw=>by
  have h1:=ha.run (w:=w) ha1 hw;rw [Kn ha ha1 hw,Ko ha hb hb1 (hbb ▸ hw),ZG h1,ZH];exact ⟨rfl,rfl⟩
 obtain ⟨w,h1,h2,h3⟩:=Mac.ab7 ho (s:=0) (t:=0 + a.out.length) (by omega) (by omega) (fun k=>h fun w hw=>by
  have:=k w hw;rw [(e w hw).1,(e w hw).2] at this;exact this)
 exact ⟨w,h1,by omega,by rw [(e w h1).1,(e w h1).2] at h3; exact h3⟩
end Go.Proofs.Ytedneplaibmppaa
namespace Go.Proofs.Ytedneplaibmppaa
open Go.Rx Go.RowKit
def EX (n:Nat):Hp:=⟨n,fun _=>none⟩
theorem EY {n:Nat}{h:Hp}(hn:n≤h.next):aA (EX n) h:=⟨hn,fun r o e=>by
 unfold Hp.at EX at e;dsimp only at e;split at e <;> cases e⟩
def fl4:List En→List Value
 | []=>[]
 | e :: l=>int e.p.1 :: int e.p.2 :: int e.bf :: int e.dg :: fl4 l
theorem Tw:∀ (l r:List En),fl4 (l ++ r) = fl4 l ++ fl4 r
 | [],r=>rfl
 | e :: l,r=>by show _ :: _ :: _ :: _ :: fl4 (l ++ r) = _; rw [Tw l r]; rfl
theorem Tx:∀ l:List En,(fl4 l).length = l.length * 4
 | []=>rfl
 | e :: l=>by show (fl4 l).length + 1 + 1 + 1 + 1 = (l.length + 1) * 4; rw [Tx l]; omega
theorem Px:∀ (l:List En) (k:Nat) (x:En),l[k]? = some x→(fl4 l).drop (k * 4) = int x.p.1 :: int x.p.2 :: int x.bf :: int x.dg :: fl4 (l.drop (k + 1))
 | e :: l,0,x,h=>by cases h; rfl
 | e :: l,k + 1,x,h=>by
  have:=Px l k x (by simpa using h);rw [show (k + 1) * 4 = k * 4 + 1 + 1 + 1 + 1 by omega];simpa [fl4] using this
def zf (h:Hp)(M:Nat)(l:List (Int×Int)):Prop:=∃ n,MapAt h M dB (fun k=>if k ∈ l then some (.bool true) else none) n
theorem zf.ext {h h':Hp}{M:Nat}{l:List (Int×Int)}(g:aA h h')(k:zf h M l):zf h' M l:=let ⟨n,k⟩:=k; ⟨n,k.ext g⟩
structure DM (h H:Hp) (M:Nat) (bxa bxb:List Value) (st:Value) (T:List En):Prop where
 gr:aA h H
 xa:H.at h.next = some (.row 25 true bxa)
 xb:H.at (h.next + 1) = some (.row 25 true bxb)
 ml:M < H.next
 l:bD (EX (M + 1)) H 133 4 st T.length (fl4 T)
theorem DM.ext {h H H':Hp}{M:Nat}{bxa bxb:List Value}{st:Value}{T:List En}(g:aA H H')(k:DM h H M bxa bxb st T):DM h H' M bxa bxb st T :=
 ⟨k.gr.trans g,g.at_ _ _ k.xa,g.at_ _ _ k.xb,Nat.lt_of_lt_of_le k.ml g.next,k.l.ext g⟩
theorem DM.cell {h H:Hp}{M:Nat}{bxa bxb:List Value}{st:Value}{T:List En}(k:DM h H M bxa bxb st T){i:Nat}{x:En}(hi:T[i]? = some x):∃ r,st = slc r 0 T.length T.length∧bJ H r (gU 0 i 4) 2 = some [int x.p.1,int x.p.2]∧cellAt H r (gU 0 i 4 + 2) = some (int x.bf)∧cellAt H r (gU 0 i 4 + 3) = some (int x.dg):=by
 have hl:=(List.getElem?_eq_some_iff.1 hi).1;have hd:=Px T i x hi;obtain ⟨hlen,⟨_,e1⟩ | ⟨r,er,_,y,hr⟩⟩:=k.l
 ·omega
 ·have get:∀ j v,((fl4 T).drop (i * 4))[j]? = some v→(fl4 T)[i * 4 + j]? = some v:=fun j v e=>by rw [List.getElem?_drop] at e; exact e
  refine ⟨r,er,?_,?_,?_⟩
  ·rw [ig,Nat.zero_add,iq hr (by rw [Tx]; omega),hd];rfl
  ·rw [ig,Nat.zero_add];exact bA hr (get 2 _ (by rw [hd]; rfl))
  ·rw [ig,Nat.zero_add];exact bA hr (get 3 _ (by rw [hd]; rfl))
theorem Df.way {a b:Mac}{T:List En}{S:List Nat}{i d:Nat}(k:Df a b T S i d):∀ (c:Nat) (e:En),T[c]? = some e→∃ w,Mac.Wd a.base w∧wS (jo a b) (0,0) w = e.p:=fun c=>by
 induction c using Nat.strongRecOn with
 | ind c ih =>
  intro e he;by_cases h0:c = 0
  ·subst h0;obtain ⟨e',h1,h2,_⟩:=k.first;rw [he] at h1;cases h1
   exact ⟨[],by simp [Mac.Wd],h2.symm⟩
  ·obtain ⟨k',g,e',s',h1,h2,h3,h4,h5,h6,_,_⟩:=k.par c e (by omega) he;obtain ⟨w,hw,ew⟩:=ih k' h3 e' h5;refine ⟨w ++ [g],fun x hx=>?_,?_⟩
   ·rcases List.mem_append.1 hx with hx | hx
    ·exact hw x hx
    ·rw [List.mem_singleton.1 hx]; exact h4
   ·rw [Ik,ew,h6]; rfl
theorem Df.differ {a b:Mac}{T:List En}{S:List Nat}{i d c:Nat}{e:En}(k:Df a b T S i d)(he:T[c]? = some e)(h:¬ vK a b e.p):¬ Mac.Alike a b 0 0:=fun q=>by
 obtain ⟨w,hw,ew⟩:=k.way c e he;refine h ?_;rw [← ew];have e3:((0:Int),(0:Int)) = (((0:Nat):Int),((0:Nat):Int)):=rfl;rw [e3,Yc];unfold vK;rw [Int.toNat_natCast,Int.toNat_natCast];exact q w hw
theorem acr (k:IntKind)(n:Int):dz k n (jW k n):=rfl
theorem acs {b k:Nat}(hb:b≤5)(hk:k≤26)(hb1:1≤b):b ^ k≤1490116119384765625:=by
 have h1:b ^ k≤5 ^ k:=Nat.pow_le_pow_left hb k;have h2:5 ^ k≤5 ^ 26:=Nat.pow_le_pow_right (by omega) hk;have h3:5 ^ 26 = 1490116119384765625:=by decide
 omega
def acu (a b:Mac)(r:Value):Prop:=∃ n d,r = .tuple ⟨[int n,.bool d]⟩∧(d = false→n = 0∧Mac.Alike a b 0 0)∧(d = true→∃ w,Mac.Wd a.base w∧w.length≤a.out.length + b.out.length∧a.o (a.run 0 w)≠b.o (b.run 0 w)∧(a.out.length + b.out.length≤26→n = val a.base w))
section
variable [bC]
theorem DM.app {h H:Hp}{M:Nat}{bxa bxb:List Value}{st:Value}{T:List En}{e:En}{b:Bool}{K:Value→Hp→Prop}(k:DM h H M bxa bxb st T)(hM:h.next + 2≤M)(hl:T.length≤30000000)
  (q:∀ v' H',(∃ a n,v' = .slice a n n)→DM h H' M bxa bxb v' (T ++ [e])→Kx (ad st) H H'→(∀ r,ad v' = some r→H.next≤r)→K v' H'):fB E (H.lay (.row 133 b [int e.p.1,int e.p.2,int e.bf,int e.dg])) 133 4 32 st (slc H.next 0 1 1) K:=by
 have g1:aA H (H.lay (.row 133 b [int e.p.1,int e.p.2,int e.bf,int e.dg])):=aA.lay _ _;have k1:=k.ext g1;have ZE:M + 1≤(H.lay (.row 133 b [int e.p.1,int e.p.2,int e.bf,int e.dg])).next:=k1.ml;have hel:wO (H.lay (.row 133 b [int e.p.1,int e.p.2,int e.bf,int e.dg])) 4 (slc H.next 0 1 1) 1 [int e.p.1,int e.p.2,int e.bf,int e.dg]:=by
  refine ⟨rfl,?_,rfl,rfl⟩;show bJ (H.lay (.row 133 b [int e.p.1,int e.p.2,int e.bf,int e.dg])) H.next 0 (1 * 4) = _;exact aI (Hp.ak _ _) rfl
 refine fB.uf k1.l (EY ZE) hel (by omega) (by omega) (by omega) ?_;intro v' H' hb' hg' hkeep ⟨r',er,hr'⟩;have hv:=hb'.iU r' (by rw [er]; rfl);have x:=Kx.dA k1.l hkeep;have keep:∀ r o,r≤M→(H.lay (.row 133 b [int e.p.1,int e.p.2,int e.bf,int e.dg])).at r = some o→H'.at r = some o:=fun r o hr ho=>hkeep r o ho fun n c ev=>by
  have:=(k1.l.iU r (by rw [ev]; rfl)).1;have:M + 1≤r:=this;omega
 refine q _ _ ⟨_,_,er⟩ ⟨⟨by have:=k1.gr.next; omega,fun r o ho=>keep r o (by have:=Hp.aU ho; omega) (k1.gr.at_ _ _ ho)⟩,keep _ _ (by omega) k1.xa,keep _ _ (by omega) k1.xb,by omega,by rw [List.length_append,Tw]; exact hb'⟩ ((Kx.grows g1).trans x) (fun r e2=>by
  rw [er] at e2;cases e2
  rw [Hp.bF] at hr';omega)
end
attribute [local irreducible] E iJ cellAt bJ storeAt callable dh dG dO findKey dZ bP Hp.at Hp.set Hp.lay dL cO setAt aJ dx bO dz Rnd gq fB gY Int.tmod Int.tdiv Int.fdiv
section
variable [bC]
attribute [local irreducible] sameAt
theorem Vq (va vb:Value)(a b:Mac)(h:Hp)(hva:MV h va a.i)(hvb:MV h vb b.i)(ha:a.Ok)(hb:b.Ok)(hbb:a.base = b.base)(hb5:a.base≤5)(hsz:a.out.length * b.out.length≤30000000):aJ E 65 [va,vb] h (fun r h'=>acu a b r∧aA h h'):=by
 obtain ⟨bxa,rfl,hxa⟩:=hva.box;obtain ⟨bxb,rfl,hxb⟩:=hvb.box;obtain ⟨aoa,ana,coa,cna,RD⟩:=hxa.cx;obtain ⟨aob,anb,cob,cnb,Vr⟩:=hxb.cx;obtain ⟨i4,t4,z4⟩:=ty4;obtain ⟨iM,tM,dM⟩:=acf;have acv:=ha.vC;have acw:=hb.vC;have few:∀ {T S i d},Df a b T S i d→T.length≤30000000:=fun {T S i d} k=>by
  have:=j4 k.nodup (r:=sq a.out.length b.out.length) (fun p hp=>by
   obtain ⟨e,he,rfl⟩:=List.mem_map.1 hp;exact k.mem e he)
  rw [List.length_map,yZ] at this;omega
 refine enter65 (by simp) ?_;conv=>whnf
 refine aC.cut (α:=Hp) (fun _=>[(3,ptr (h.next + 1) 0),(2,ptr h.next 0)]) (fun x H=>x = H∧aA h H∧H.at h.next = some (.row 25 true bxa)∧H.at (h.next + 1) = some (.row 25 true bxb)∧H.next = h.next + 2) ?_ ?_
 ·conv=>whnf
  have n1:(h.lay (.row 25 true bxa)).next = h.next + 1:=Hp.bF _ _;exact ⟨_,⟨congrArg (fun k=>ptr k 0) n1,rfl,trivial⟩,⟨rfl,(aA.lay _ _).bH _,Hp.bg _ (Hp.ak _ _),eB n1 (Hp.ak _ _),by rw [Hp.bF,n1]⟩,rfl⟩
 rintro H φ1 _ ⟨rfl,gH,aXa,aXb,nH⟩;conv=>whnf
 refine aC.cut (α:=Hp) (fun _=>[(6,ptr H.next 0),(3,ptr (h.next + 1) 0),(2,ptr h.next 0)]) (fun x H2=>x = H2∧aA H x∧x.at H.next = some (.row 106 true [int 0,int 0])) ?_ ?_
 ·conv=>whnf
  refine ⟨rfl,_,bX (vs:=[int 0,int 0]) rfl rfl rfl,?_⟩;conv=>whnf
  exact ⟨_,⟨rfl,rfl,rfl,trivial⟩,⟨rfl,aA.lay _ _,Hp.ak _ _⟩,rfl⟩
 rintro H2 φ2 _ ⟨rfl,g2,aP⟩;conv=>whnf
 refine aC.cut (α:=Nat×Hp) (fun s=>[(7,bL s.1),(6,ptr H.next 0),(3,ptr (h.next + 1) 0),(2,ptr h.next 0)]) (fun s H3=>s.2 = H3∧aA H2 s.2∧zf s.2 s.1 [(0,0)]∧H2.next≤s.1) ?_ ?_
 ·conv=>whnf
  refine ⟨_,aI (Hp.bg _ aP) rfl,?_⟩;conv=>whnf
  refine mQ tM dM oL (k:=((0:Int),(0:Int))) (v:=.bool true) (n:=0) rfl rfl rfl (MapAt.new _) ?_;intro H3 hM3 y3;have gl3:aA H2 (H2.lay (.map [] 0)):=aA.lay _ _;have gk3:aA H2 H3:=⟨by rw [y3.next]; exact gl3.next,fun r o e=>y3.at_ r o (by have:=Hp.aU e; omega) (gl3.at_ r o e)⟩;conv=>whnf
  refine ⟨(H2.next,H3),⟨rfl,rfl,rfl,rfl,trivial⟩,⟨rfl,gk3,⟨_,hM3.congr fun k=>?_⟩,Nat.le_refl _⟩,rfl⟩;by_cases e:k = (0,0)
  ·rw [if_pos e,if_pos (by rw [e]; simp)]
  ·rw [if_neg e,if_neg (by simpa using e)]
 rintro ⟨M,H3⟩ φ3 _ ⟨rfl,g3,hM3,rP⟩;dsimp only at g3 hM3 rP ⊢;have hM2:h.next + 2≤M:=by have:=g2.next; omega
 have g23:=(gH.trans g2).trans g3;have ZE:M + 1≤H3.next:=by
  obtain ⟨_,_,_,h1,_⟩:=hM3;exact Hp.aU h1
 conv=>whnf
 refine aC.cut (α:=Value×Hp) (fun s=>[(8,s.1),(7,bL M),(3,ptr (h.next + 1) 0),(2,ptr h.next 0)]) (fun s H4=>s.2 = H4∧DM h s.2 M bxa bxb s.1 [⟨(0,0),-1,0⟩]∧zf s.2 M [(0,0)]) ?_ ?_
 ·conv=>whnf
  refine ⟨_,aI (g3.at_ _ _ aP) rfl,?_⟩;conv=>whnf
  exact ⟨(slc H3.next 0 1 1,_),⟨rfl,rfl,rfl,rfl,trivial⟩,⟨rfl,⟨g23.bH _,Hp.bg _ (g3.at_ _ _ (g2.at_ _ _ aXa)),Hp.bg _ (g3.at_ _ _ (g2.at_ _ _ aXb)),by dsimp only; rw [Hp.bF]; omega,⟨rfl,.inr ⟨H3.next,rfl,ZE,true,Hp.ak _ _⟩⟩⟩,hM3.ext (aA.lay _ _)⟩,rfl⟩
 rintro ⟨st4,H4⟩ φ4 _ ⟨rfl,hd4,hs4⟩;dsimp only at hd4 hs4 ⊢;conv=>whnf
 refine aC.cut (α:=Unit) (fun _=>[(9,int (-1)),(8,st4),(7,bL M),(3,ptr (h.next + 1) 0),(2,ptr h.next 0)]) (fun _ H5=>H4 = H5) ?_ ?_
 ·conv=>whnf
  exact ⟨(),⟨rfl,rfl,rfl,rfl,rfl,trivial⟩,rfl,rfl⟩
 rintro _ φ5 _ rfl;conv=>whnf
 refine aC.go ?_;conv=>whnf
 refine aC.cut (α:=Int×Value×List En×Hp) (fun s=>[(9,int s.1),(8,s.2.1),(3,ptr (h.next + 1) 0),(2,ptr h.next 0)]) (fun s H5=>s.2.2.2 = H5∧DM h s.2.2.2 M bxa bxb s.2.1 s.2.2.1∧((s.1 = -1∧Mac.Alike a b 0 0)∨∃ (i:Nat) (S:List Nat) (x:En),s.1 = i∧Df a b s.2.2.1 S i 0∧s.2.2.1[i]? = some x∧¬ vK a b x.p)) ?_ ?_
 ·conv=>whnf
  refine aC.go ?_;conv=>whnf
  refine bT (α:=Nat×List Nat×Value×List En×Hp) (fun s=>[(10,int s.1),(9,int (-1)),(8,s.2.2.1),(7,bL M),(3,ptr (h.next + 1) 0),(2,ptr h.next 0)]) (fun s=>s.2.2.2.2) (fun s=>Df a b s.2.2.2.1 s.2.1 s.1 0∧DM h s.2.2.2.2 M bxa bxb s.2.2.1 s.2.2.2.1∧s.1≤s.2.2.2.1.length∧zf s.2.2.2.2 M (s.2.2.2.1.map (·.p))) (fun s=>30000001 - s.1) (0,[0],st4,[⟨(0,0),-1,0⟩],H4) ⟨Df.start ha hb,hd4,Nat.zero_le _,hs4⟩ ⟨rfl,rfl,rfl,rfl,rfl,rfl,trivial⟩ (Hp.Le.refl _) ?_;rintro ⟨i,S,st,T,H5⟩ φ6 ⟨hdf,hdm,hil,hsm⟩;dsimp only at hdf hdm hil hsm ⊢;have Vo:=few hdf;have hsk:=hdm.l.slice;obtain ⟨as5,rfl,-⟩:=hsk;conv=>whnf
  repeat (refine aC.go ?_; conv=>whnf)
  refine dJ (fun q1=>?_) (fun q1=>?_);rotate_left
  ·have hle:T.length≤i:=by omega
   conv=>whnf
   exact ⟨(-1,_,T,H5),⟨rfl,rfl,rfl,rfl,trivial⟩,⟨rfl,hdm,.inl ⟨rfl,hdf.alike hle⟩⟩,rfl⟩
  have hiT:i < T.length:=by omega
  have Yd:∃ x,T[i]? = some x:=⟨_,List.getElem?_eq_getElem hiT⟩;obtain ⟨x,hx⟩:=Yd;have hsl:i < S.length:=by have:=hdf.len; omega
  have yX:∃ s,S[i]? = some s:=⟨_,List.getElem?_eq_getElem hsl⟩;obtain ⟨s0,hs0⟩:=yX;have hxm:=ko.1 (hdf.mem x (List.mem_of_getElem? hx));have Yb:∃ u:Nat,x.p.1 = u:=⟨x.p.1.toNat,by omega⟩;obtain ⟨u,eu⟩:=Yb;have abo:∃ v:Nat,x.p.2 = v:=⟨x.p.2.toNat,by omega⟩;obtain ⟨v,ev⟩:=abo;have hdc:=hdm.cell hx;obtain ⟨rs,ers,hcc,-,-⟩:=hdc;cases ers
  rw [eu,ev] at hcc hxm;conv=>whnf
  refine aC.cut (α:=List Nat×Value×List En×Hp) (fun s=>[(10,int i),(9,int (-1)),(8,s.2.1),(7,bL M),(3,ptr (h.next + 1) 0),(2,ptr h.next 0)]) (fun s H6=>s.2.2.2 = H6∧Df a b s.2.2.1 s.1 (i + 1) 0∧DM h s.2.2.2 M bxa bxb s.2.1 s.2.2.1∧i + 1≤s.2.2.1.length∧zf s.2.2.2 M (s.2.2.1.map (·.p))) ?_ ?_;rotate_left
  ·rintro ⟨S6,st6,T6,H6⟩ φ7 _ ⟨rfl,acy,MF,acz,acA⟩;dsimp only at acy MF acz acA ⊢;conv=>whnf
   refine ⟨((i + 1:Nat):Int),wie (by omega) (by omega),?_⟩;conv=>whnf
   exact Rnd.mk (i + 1,S6,st6,T6,H6) ⟨acy,MF,acz,acA⟩ (by show 30000001 - (i + 1) < 30000001 - i; omega) ⟨rfl,rfl,rfl,rfl,rfl,rfl,trivial⟩ (Hp.Le.refl _) rfl
  conv=>whnf
  refine aC.cut (α:=Nat×Hp) (fun s=>[(11,ptr s.1 0),(10,int i),(9,int (-1)),(8,slc rs 0 T.length T.length),(7,bL M),(3,ptr (h.next + 1) 0),(2,ptr h.next 0)]) (fun s H6=>s.2 = H6∧aA H5 s.2∧s.2.at s.1 = some (.row 106 true [int u,int v])∧H5.next≤s.1) ?_ ?_
  ·conv=>whnf
   refine ⟨rfl,⟨by omega,by omega⟩,?_⟩;conv=>whnf
   refine ⟨_,hcc,?_⟩;conv=>whnf
   refine ⟨rfl,_,bX (vs:=[int u,int v]) rfl rfl rfl,?_⟩;conv=>whnf
   exact ⟨(H5.next,_),⟨rfl,rfl,rfl,rfl,rfl,rfl,rfl,trivial⟩,⟨rfl,aA.lay _ _,Hp.ak _ _,Nat.le_refl _⟩,rfl⟩
  rintro ⟨K,H6⟩ φ7 _ ⟨rfl,g6,aK,hK⟩;dsimp only at g6 aK hK ⊢;have MF:=hdm.ext g6;have adU:ad (slc rs 0 T.length T.length)≠some K:=fun e=>by
   have:=(hdm.l.iU rs rfl).2;cases e
   omega
  have kxa:=RD H6 h.next 25 MF.gr MF.xa;have kxb:=Vr H6 (h.next + 1) 25 MF.gr MF.xb;have ca1:cellAt H6 h.next 1 = some (.slice aoa a.out.length coa):=kxa.c1;have cb1:cellAt H6 (h.next + 1) 1 = some (.slice aob b.out.length cob):=kxb.c1;have k0:cellAt H6 K 0 = some (int u):=bA aK rfl;have k1:cellAt H6 K 1 = some (int v):=bA aK rfl;have hoa:=kxa.qD (s:=u) (by omega);obtain ⟨r1,o1,sp1,rfl,hsp1,adV⟩:=hoa;have hob:=kxb.qD (s:=v) (by omega);obtain ⟨r2,o2,sp2,rfl,hsp2,adW⟩:=hob;have aat:vK a b x.p↔a.o u = b.o v:=by unfold vK; rw [eu,ev,Int.toNat_natCast,Int.toNat_natCast]
  conv=>whnf
  refine aC.cut (α:=Unit) (fun _=>[(11,ptr K 0),(10,int i),(9,int (-1)),(8,slc rs 0 T.length T.length),(7,bL M),(3,ptr (h.next + 1) 0),(2,ptr h.next 0)]) (fun _ H7=>H6 = H7∧vK a b x.p) ?_ ?_
  ·conv=>whnf
   refine aC.go ?_;conv=>whnf
   refine ⟨_,ca1,?_⟩;conv=>whnf
   refine ⟨_,k0,?_⟩;conv=>whnf
   refine ⟨hsp1,⟨by omega,by omega⟩,?_⟩;conv=>whnf
   refine ⟨_,adV,?_⟩;conv=>whnf
   refine ⟨_,cb1,?_⟩;conv=>whnf
   refine ⟨_,k1,?_⟩;conv=>whnf
   refine ⟨hsp2,⟨by omega,by omega⟩,?_⟩;conv=>whnf
   refine ⟨_,adW,?_⟩;conv=>whnf
   refine dJ (fun q2=>?_) (fun q2=>?_)
   ·conv=>whnf
    refine aC.go ?_;conv=>whnf
    exact ⟨(i,_,T,H6),⟨rfl,rfl,rfl,rfl,trivial⟩,⟨rfl,MF,.inr ⟨i,S,x,rfl,hdf,hx,fun q=>q2 (aat.1 q)⟩⟩,rfl⟩
   ·conv=>whnf
    exact ⟨(),⟨rfl,rfl,rfl,rfl,rfl,rfl,rfl,trivial⟩,⟨rfl,aat.2 (Classical.byContradiction q2)⟩,rfl⟩
  rintro _ φ8 _ ⟨rfl,hsame⟩;have ca0:cellAt H6 h.next 0 = some (int (a.base:Int)):=kxa.c0;conv=>whnf
  refine aC.go ?_;conv=>whnf
  refine ⟨_,ca0,?_⟩;conv=>whnf
  refine bT (α:=Nat×List Nat×Value×List En×Hp) (fun s=>[(50,int s.1),(49,int a.base),(11,ptr K 0),(10,int i),(9,int (-1)),(8,s.2.2.1),(7,bL M),(3,ptr (h.next + 1) 0),(2,ptr h.next 0)]) (fun s=>s.2.2.2.2) (fun s=>s.1≤a.base∧Df a b s.2.2.2.1 s.2.1 i s.1∧DM h s.2.2.2.2 M bxa bxb s.2.2.1 s.2.2.2.1∧s.2.2.2.1[i]? = some x∧s.2.1[i]? = some s0∧s.2.2.2.2.at K = some (.row 106 true [int u,int v])∧ad s.2.2.1≠some K∧zf s.2.2.2.2 M (s.2.2.2.1.map (·.p))) (fun s=>a.base - s.1) (0,S,slc rs 0 T.length T.length,T,H6) ⟨Nat.zero_le _,hdf,MF,hx,hs0,aK,adU,hsm.ext g6⟩ ⟨rfl,rfl,rfl,rfl,rfl,rfl,rfl,rfl,rfl,trivial⟩ (Hp.Le.refl _) ?_;rintro ⟨d,S7,st7,T7,H7⟩ φ9 ⟨hd,Ye,MG,hx7,hs7,aK7,abp,abq⟩;dsimp only at hd Ye MG hx7 hs7 aK7 abp abq ⊢;have acB:=few Ye;have adX:=MG.l.slice;obtain ⟨as7,rfl,-⟩:=adX;have aeR:=(List.getElem?_eq_some_iff.1 hx7).1;conv=>whnf
  repeat (refine aC.go ?_; conv=>whnf)
  refine dJ (fun q2=>?_) (fun q2=>?_);rotate_left
  ·have:d = a.base:=by omega
   subst this;conv=>whnf
   exact ⟨(S7,_,T7,H7),⟨rfl,rfl,rfl,rfl,rfl,rfl,trivial⟩,⟨rfl,Ye.turn hx7 hsame,MG,by show i + 1≤T7.length; omega,abq⟩,rfl⟩
  have hdb:d < a.base:=by omega
  have acC:=RD H7 h.next 25 MG.gr MG.xa;have acD:=Vr H7 (h.next + 1) 25 MG.gr MG.xb;have ca2:=acC.c2;have cb2:=acD.c2;have k70:cellAt H7 K 0 = some (int u):=bA aK7 rfl;have k71:cellAt H7 K 1 = some (int v):=bA aK7 rfl;have hna:=acC.kR ha (s:=u) (d:=d) (by omega) hdb;obtain ⟨p1,p2,p3,p4,p5,p6,p7,rfl,hp3,Yf,hp6,Yg⟩:=hna;have hnb:=acD.kR hb (s:=v) (d:=d) (by omega) (by omega);obtain ⟨w1,w2,w3,w4,w5,w6,w7,rfl,hw3,Vs,hw6,Yh⟩:=hnb;rw [← hbb] at Vs;have enx:jo a b x.p d = (((a.nx u d:Nat):Int),((b.nx v d:Nat):Int)):=by unfold jo; rw [eu,ev,Int.toNat_natCast,Int.toNat_natCast]
  have hstep:∃ t,jo a b x.p d = t:=⟨_,rfl⟩;obtain ⟨t,et⟩:=hstep;have hadd:=Ye.add ha hb hbb hx7 hs7 hdb;have aau:=Ye.skip hx7 hs7;rw [et] at hadd aau enx;have Pk:Value.agg ⟨[int (a.nx u d:Nat),int (b.nx v d:Nat)]⟩ = dB t:=by rw [enx]; rfl
  conv=>whnf
  refine aC.go ?_;conv=>whnf
  refine aC.cut (α:=List Nat×Value×List En×Hp) (fun s=>[(50,int d),(49,int a.base),(11,ptr K 0),(10,int i),(9,int (-1)),(8,s.2.1),(7,bL M),(3,ptr (h.next + 1) 0),(2,ptr h.next 0)]) (fun s H8=>s.2.2.2 = H8∧Df a b s.2.2.1 s.1 i (d + 1)∧DM h s.2.2.2 M bxa bxb s.2.1 s.2.2.1∧s.2.2.1[i]? = some x∧s.1[i]? = some s0∧s.2.2.2.at K = some (.row 106 true [int u,int v])∧ad s.2.1≠some K∧zf s.2.2.2 M (s.2.2.1.map (·.p))) ?_ ?_;rotate_left
  ·rintro ⟨S8,st8,T8,H8⟩ Pp _ ⟨rfl,acE,JB,hx8,hs8,aK8,acF,ZJ⟩;dsimp only at acE JB hx8 hs8 aK8 acF ZJ ⊢;conv=>whnf
   refine ⟨((d + 1:Nat):Int),wie (by omega) (by omega),?_⟩;conv=>whnf
   exact Rnd.mk (d + 1,S8,st8,T8,H8) ⟨by show d + 1≤a.base; omega,acE,JB,hx8,hs8,aK8,acF,ZJ⟩ (by show a.base - (d + 1) < a.base - d; omega) ⟨rfl,rfl,rfl,rfl,rfl,rfl,rfl,rfl,rfl,trivial⟩ (Hp.Le.refl _) rfl
  have gl1:aA H7 (H7.lay (.row 106 true [int 0,int 0])):=aA.lay _ _;have gl2:aA H7 (H7.lay (.row 106 true [int (a.nx u d:Nat),int (b.nx v d:Nat)])):=aA.lay _ _;have f1:=gl1.cell ca2;have f2:=gl1.cell cb2;have f3:=gl1.cell k70;have f4:=gl1.cell k71;have f5:=gl1.cell Yf;have f6:=gl1.cell Yg;have f7:=gl1.cell Vs;have f8:=gl1.cell Yh;have s1:=gl2.cell ca2;have s2:=gl2.cell cb2;have s3:=gl2.cell k70;have s4:=gl2.cell k71;have s5:=gl2.cell Yf;have s6:=gl2.cell Yg;have s7:=gl2.cell Vs;have s8:=gl2.cell Yh;conv=>whnf
  refine aC.go ?_;conv=>whnf
  refine aC.cut (α:=Nat×Hp) (fun s=>[(13,ptr s.1 0),(12,int d),(50,int d),(49,int a.base),(11,ptr K 0),(10,int i),(9,int (-1)),(8,.slice as7 T7.length T7.length),(7,bL M),(3,ptr (h.next + 1) 0),(2,ptr h.next 0)]) (fun s H8=>s.2 = H8∧aA H7 s.2∧s.2.at s.1 = some (.row 106 true [int (a.nx u d:Nat),int (b.nx v d:Nat)])∧H7.next≤s.1) ?_ ?_
  ·conv=>whnf
   refine ⟨_,ca2,?_⟩;conv=>whnf
   refine ⟨_,k70,?_⟩;conv=>whnf
   refine ⟨hp3,⟨by omega,by omega⟩,?_⟩;conv=>whnf
   refine ⟨_,Yf,?_⟩;conv=>whnf
   refine ⟨hp6,⟨by omega,by omega⟩,?_⟩;conv=>whnf
   refine ⟨_,Yg,?_⟩;conv=>whnf
   refine ⟨_,cb2,?_⟩;conv=>whnf
   refine ⟨_,k71,?_⟩;conv=>whnf
   refine ⟨hw3,⟨by omega,by omega⟩,?_⟩;conv=>whnf
   refine ⟨_,Vs,?_⟩;conv=>whnf
   refine ⟨hw6,⟨by omega,by omega⟩,?_⟩;conv=>whnf
   refine ⟨_,Yh,?_⟩;conv=>whnf
   refine ⟨rfl,_,bX (vs:=[int (a.nx u d:Nat),int (b.nx v d:Nat)]) rfl rfl rfl,?_⟩;conv=>whnf
   refine ⟨?_,?_⟩
   ·repeat' (first | exact True.intro | (refine And.intro ?_ ?_ <;> (conv=>whnf)))
    all_goals first
     | exact aj (h2:=_) rfl (aM _)
     | exact aj (h2:=_) rfl (bS _ _)
     | exact aj (h2:=_) rfl (aD _ _ _)
     | exact aj (h2:=_) rfl (ji _ _)
     | exact aj (h2:=_) (congrArg (hval _) ca2) (aM _)
     | exact aj (h2:=_) (congrArg (hval _) ca2) (aD _ _ _)
     | exact aj (h2:=_) (congrArg (hval _) cb2) (aM _)
     | exact aj (h2:=_) (congrArg (hval _) cb2) (aD _ _ _)
     | exact aj (h2:=_) (congrArg (hval _) k70) (aM _)
     | exact aj (h2:=_) (congrArg (hval _) k70) (aD _ _ _)
     | exact aj (h2:=_) (congrArg (hval _) k71) (aM _)
     | exact aj (h2:=_) (congrArg (hval _) k71) (aD _ _ _)
     | exact aj (h2:=_) (congrArg (hval _) Yf) (aM _)
     | exact aj (h2:=_) (congrArg (hval _) Yf) (aD _ _ _)
     | exact aj (h2:=_) (congrArg (hval _) Yg) (aM _)
     | exact aj (h2:=_) (congrArg (hval _) Yg) (aD _ _ _)
     | exact aj (h2:=_) (congrArg (hval _) Vs) (aM _)
     | exact aj (h2:=_) (congrArg (hval _) Vs) (aD _ _ _)
     | exact aj (h2:=_) (congrArg (hval _) Yh) (aM _)
     | exact aj (h2:=_) (congrArg (hval _) Yh) (aD _ _ _)
     | exact aj (h2:=_) (congrArg (hval _) f1) (aM _)
     | exact aj (h2:=_) (congrArg (hval _) f1) (aD _ _ _)
     | exact aj (h2:=_) (congrArg (hval _) f2) (aM _)
     | exact aj (h2:=_) (congrArg (hval _) f2) (aD _ _ _)
     | exact aj (h2:=_) (congrArg (hval _) f3) (aM _)
     | exact aj (h2:=_) (congrArg (hval _) f3) (aD _ _ _)
     | exact aj (h2:=_) (congrArg (hval _) f4) (aM _)
     | exact aj (h2:=_) (congrArg (hval _) f4) (aD _ _ _)
     | exact aj (h2:=_) (congrArg (hval _) f5) (aM _)
     | exact aj (h2:=_) (congrArg (hval _) f5) (aD _ _ _)
     | exact aj (h2:=_) (congrArg (hval _) f6) (aM _)
     | exact aj (h2:=_) (congrArg (hval _) f6) (aD _ _ _)
     | exact aj (h2:=_) (congrArg (hval _) f7) (aM _)
     | exact aj (h2:=_) (congrArg (hval _) f7) (aD _ _ _)
     | exact aj (h2:=_) (congrArg (hval _) f8) (aM _)
     | exact aj (h2:=_) (congrArg (hval _) f8) (aD _ _ _)
     | exact aj (h2:=_) (congrArg (hval _) s1) (aM _)
     | exact aj (h2:=_) (congrArg (hval _) s1) (aD _ _ _)
     | exact aj (h2:=_) (congrArg (hval _) s2) (aM _)
     | exact aj (h2:=_) (congrArg (hval _) s2) (aD _ _ _)
     | exact aj (h2:=_) (congrArg (hval _) s3) (aM _)
     | exact aj (h2:=_) (congrArg (hval _) s3) (aD _ _ _)
     | exact aj (h2:=_) (congrArg (hval _) s4) (aM _)
     | exact aj (h2:=_) (congrArg (hval _) s4) (aD _ _ _)
     | exact aj (h2:=_) (congrArg (hval _) s5) (aM _)
     | exact aj (h2:=_) (congrArg (hval _) s5) (aD _ _ _)
     | exact aj (h2:=_) (congrArg (hval _) s6) (aM _)
     | exact aj (h2:=_) (congrArg (hval _) s6) (aD _ _ _)
     | exact aj (h2:=_) (congrArg (hval _) s7) (aM _)
     | exact aj (h2:=_) (congrArg (hval _) s7) (aD _ _ _)
     | exact aj (h2:=_) (congrArg (hval _) s8) (aM _)
     | exact aj (h2:=_) (congrArg (hval _) s8) (aD _ _ _)
     | exact aj (h2:=_) (show hval _ (kI 1 (.slice (some ⟨_,_,_⟩) _ _) (int _)) = _ from fH hp3 ⟨by omega,by omega⟩) (bS _ _)
     | exact aj (h2:=_) (show hval _ (kI 1 (.slice (some ⟨_,_,_⟩) _ _) (int _)) = _ from fH hp6 ⟨by omega,by omega⟩) (bS _ _)
     | exact aj (h2:=_) (show hval _ (kI 1 (.slice (some ⟨_,_,_⟩) _ _) (int _)) = _ from fH hw3 ⟨by omega,by omega⟩) (bS _ _)
     | exact aj (h2:=_) (show hval _ (kI 1 (.slice (some ⟨_,_,_⟩) _ _) (int _)) = _ from fH hw6 ⟨by omega,by omega⟩) (bS _ _)
     | exact ⟨_,rfl,Hp.ak _ _,rfl⟩
   exact ⟨(H7.next,_),⟨rfl,rfl,rfl,rfl,rfl,rfl,rfl,rfl,rfl,rfl,rfl,trivial⟩,⟨rfl,aA.lay _ _,Hp.ak _ _,Nat.le_refl _⟩,rfl⟩
  rintro ⟨K2,H8⟩ Pp _ ⟨rfl,g8,aK2,hK2⟩;dsimp only at g8 aK2 hK2 ⊢;have JB:=MG.ext g8;have aK8:=g8.at_ _ _ aK7;have hm8:=abq.ext g8;have ZJ:=hm8;obtain ⟨n8,hm8⟩:=hm8;have Vn:=MG.ml;by_cases hin:t ∈ T7.map (·.p)
  ·conv=>whnf
   refine aC.go ?_;conv=>whnf
   refine ⟨_,aI aK2 rfl,?_⟩;conv=>whnf
   refine fM tM dM t4 z4 oL (k:=t) rfl (by exact Pk) hm8 (if_pos hin) ?_;conv=>whnf
   exact ⟨(S7,_,T7,H8),⟨rfl,rfl,rfl,rfl,rfl,rfl,rfl,rfl,rfl,trivial⟩,⟨rfl,aau hin,JB,hx7,hs7,aK8,abp,ZJ⟩,rfl⟩
  ·have hadd:=hadd hin;have kJ:=few hadd;have hKM:K≠M:=by have:=hdm.ml; omega
   conv=>whnf
   refine aC.go ?_;conv=>whnf
   refine ⟨_,aI aK2 rfl,?_⟩;conv=>whnf
   refine Iu tM dM t4 z4 oL (k:=t) rfl (by exact Pk) hm8 (if_neg hin) ?_;conv=>whnf
   refine aC.go ?_;conv=>whnf
   refine ⟨_,aI aK2 rfl,?_⟩;conv=>whnf
   refine iO tM dM oL (k:=t) (v:=.bool true) rfl (by exact Pk) rfl hm8 ?_;intro H9 hm9 y9;have Tz:zf H9 M ((T7 ++ [(⟨t,(i:Int),(d:Int)⟩:En)]).map (·.p)):=⟨_,hm9.congr fun k=>by
    rw [List.map_append];by_cases e:k = t
    ·rw [if_pos e,if_pos (by rw [e]; simp)]
    ·rw [if_neg e];by_cases hk:k ∈ T7.map (·.p)
     ·rw [if_pos hk,if_pos (List.mem_append_left _ hk)]
     ·rw [if_neg hk,if_neg fun q=>by
       rcases List.mem_append.1 q with q | q
       ·exact hk q
       ·simp at q; exact e q]⟩
   have hMh:h.next≤M:=by omega
   have hl9:bD (EX (M + 1)) H9 133 4 (.slice as7 T7.length T7.length) T7.length (fl4 T7):=p8 JB.l fun r o hr ho=>y9.at_ _ _ (by
    have:=(JB.l.iU r hr).1;have:M + 1≤r:=this;omega) ho
   have adY:=y9.at_ _ _ (by omega) aK2;have aK9:=y9.at_ _ _ hKM aK8;have adZ:DM h H9 M bxa bxb (.slice as7 T7.length T7.length) T7:=⟨y9.grows JB.gr hMh,y9.at_ _ _ (by omega) JB.xa,y9.at_ _ _ (by omega) JB.xb,by rw [y9.next]; exact JB.ml,hl9⟩;rw [enx] at Tz hadd;conv=>whnf
   refine ⟨_,aI adY rfl,?_⟩;conv=>whnf
   refine adZ.app (e:=⟨(((a.nx u d:Nat):Int),((b.nx v d:Nat):Int)),(i:Int),(d:Int)⟩) hM2 acB ?_;intro Zz H10 jG acG acH acI;obtain ⟨a10,n10,rfl⟩:=jG;have uj:=acH.at_ aK9 abp;obtain ⟨nn,Tz⟩:=Tz;have ZK:zf H10 M ((T7 ++ [(⟨(((a.nx u d:Nat):Int),((b.nx v d:Nat):Int)),(i:Int),(d:Int)⟩:En)]).map (·.p)):=⟨nn,Tz.Tc fun o ho=>acH.at_ ho fun e=>by
    have:=(hl9.iU M e).1;have:M + 1≤M:=this;omega⟩
   conv=>whnf
   refine ⟨(S7 ++ [s0 + 1],_,_,H10),⟨rfl,rfl,rfl,rfl,rfl,rfl,rfl,rfl,rfl,trivial⟩,⟨rfl,hadd,acG,lu hx7,lu hs7,uj,fun e=>?_,ZK⟩,rfl⟩;have h1:=acI K e;have h2:=Hp.aU aK9;omega
 rintro ⟨fnd,st,T,H5⟩ φ6 _ ⟨rfl,hdm,hres⟩;dsimp only at hdm hres ⊢;have ka:=RD H5 h.next 25 hdm.gr hdm.xa;have ca0:cellAt H5 h.next 0 = some (int (a.base:Int)):=ka.c0;rcases hres with ⟨rfl,hal⟩ | ⟨i,S,x,rfl,hdf,hx,hns⟩
 ·conv=>whnf
  refine aC.go ?_;conv=>whnf
  refine aC.go ?_;conv=>whnf
  refine mO (by omega) ?_;conv=>whnf
  refine aC.go ?_;conv=>whnf
  exact ⟨⟨0,false,rfl,fun _=>⟨rfl,hal⟩,fun e=>by cases e⟩,hdm.gr⟩
 have Vo:=few hdf;have hsl:=(List.getElem?_eq_some_iff.1 hx).1;have yX:∃ s,S[i]? = some s:=⟨_,List.getElem?_eq_getElem (by have:=hdf.len; omega)⟩;obtain ⟨sF,hsF⟩:=yX;have hxm:=ko.1 (hdf.mem x (List.mem_of_getElem? hx));have ad1:¬ Mac.Alike a b 0 0:=hdf.differ hx hns;have abr:=abn ha hb hbb ad1;obtain ⟨w0,hw0,hwl,hwd⟩:=abr;have aeS:=hdf.least hsF hw0 hwd;have hb1:=ha.b1;have hsk:=hdm.l.slice;obtain ⟨ast,rfl,-⟩:=hsk;conv=>whnf
 refine aC.cut (α:=Unit) (fun _=>[(9,int i),(8,.slice ast T.length T.length),(2,ptr h.next 0)]) (fun _ H6=>H5 = H6) ?_ ?_
 ·conv=>whnf
  refine aC.go ?_;conv=>whnf
  refine Ag (by omega) ?_;conv=>whnf
  exact ⟨(),⟨rfl,rfl,rfl,trivial⟩,rfl,rfl⟩
 rintro _ φ7 _ rfl;conv=>whnf
 refine aC.go ?_;conv=>whnf
 refine aC.cut (α:=Int×List Nat) (fun s=>[(14,int s.1)]) (fun s H6=>H5 = H6∧Mac.Wd a.base s.2∧s.2.length≤a.out.length + b.out.length∧a.o (a.run 0 s.2)≠b.o (b.run 0 s.2)∧(a.out.length + b.out.length≤26→s.1 = val a.base s.2)) ?_ ?_;rotate_left
 ·rintro ⟨n,v⟩ φ8 _ ⟨rfl,h1,h2,h3,h4⟩;dsimp only at h1 h2 h3 h4 ⊢;conv=>whnf
  refine aC.go ?_;conv=>whnf
  exact ⟨⟨n,true,rfl,fun e=>(by cases e),fun _=>⟨v,h1,h2,h3,h4⟩⟩,hdm.gr⟩
 conv=>whnf
 refine aC.go ?_;conv=>whnf
 refine bT (α:=Nat×Int×List Nat×En×Nat) (fun s=>[(15,int s.1),(14,int s.2.1),(8,.slice ast T.length T.length),(2,ptr h.next 0)]) (fun _=>H5) (fun s=>T[s.1]? = some s.2.2.2.1∧S[s.1]? = some s.2.2.2.2∧Mac.Wd a.base s.2.2.1∧s.2.2.1.length + s.2.2.2.2 = sF∧wS (jo a b) s.2.2.2.1.p s.2.2.1 = x.p∧(a.out.length + b.out.length≤26→s.2.1 = val a.base s.2.2.1)) (fun s=>s.1) (i,0,[],x,sF) ⟨hx,hsF,by simp [Mac.Wd],by simp,rfl,fun _=>rfl⟩ ⟨rfl,rfl,rfl,rfl,trivial⟩ (Hp.Le.refl _) ?_;rintro ⟨c,n,v,e,t⟩ φ8 ⟨hc,ht,hv,hvl,hrun,hval⟩;dsimp only at hc ht hv hvl hrun hval ⊢;have hcl:=(List.getElem?_eq_some_iff.1 hc).1;have hcc:=hdm.cell hc;obtain ⟨rs,ers,-,hc2,hc3⟩:=hcc;cases ers
 conv=>whnf
 refine aC.go ?_;conv=>whnf
 refine ⟨rfl,⟨by omega,by omega⟩,?_⟩;conv=>whnf
 refine ⟨_,hc2,?_⟩;conv=>whnf
 by_cases h0:c = 0
 ·subst h0;have hf:=hdf.first;obtain ⟨e0,h1,h2,h3⟩:=hf;rw [hc] at h1;cases h1
  have ht0:=hdf.s0;rw [ht] at ht0;cases ht0
  refine Ag (by omega) ?_;conv=>whnf
  refine ⟨(n,v),⟨rfl,trivial⟩,⟨rfl,hv,by show v.length≤_; omega,?_,hval⟩,rfl⟩;dsimp only;rw [h2] at hrun;have e3:((0:Int),(0:Int)) = (((0:Nat):Int),((0:Nat):Int)):=rfl;rw [e3,Yc] at hrun;intro q;refine hns ?_;rw [← hrun];unfold vK;rw [Int.toNat_natCast,Int.toNat_natCast];exact q
 ·have hp:=hdf.par c e (by omega) hc;obtain ⟨k,g,e',s',h1,h2,h3,h4,h5,h6,h7,h8⟩:=hp;rw [ht] at h8;have h8:t = s' + 1:=by injection h8
  refine mO (by omega) ?_;have aeT:=Mj hb1 (Mac.Wd.cons h4 hv);have ecv:val a.base (g :: v) = g + a.base * val a.base v:=rfl;conv=>whnf
  refine aC.go ?_;conv=>whnf
  refine ⟨_,ca0,?_⟩;conv=>whnf
  refine ⟨_,acr _ _,?_⟩;conv=>whnf
  refine ⟨rfl,⟨by omega,by omega⟩,?_⟩;conv=>whnf
  refine ⟨_,hc3,?_⟩;conv=>whnf
  refine ⟨_,acr _ _,?_⟩;conv=>whnf
  refine ⟨rfl,⟨by omega,by omega⟩,?_⟩;conv=>whnf
  refine ⟨_,hc2,?_⟩;conv=>whnf
  rw [h1,h2];refine Rnd.mk (k,jW .i64 (jW .i64 (n * a.base) + g),g :: v,e',s') ⟨h5,h7,Mac.Wd.cons h4 hv,by show (g :: v).length + s' = sF; rw [List.length_cons]; omega,?_,fun hN=>?_⟩ (by show k < c; exact h3) ⟨rfl,rfl,rfl,rfl,trivial⟩ (Hp.Le.refl _) rfl
  ·show wS (jo a b) (jo a b e'.p g) v = x.p;rw [← h6]; exact hrun
  ·have hn:=hval hN;have hpw:=acs (b:=a.base) (k:=(g :: v).length) hb5 (by rw [List.length_cons]; omega) hb1;have e1:n * (a.base:Int) = ((a.base * val a.base v:Nat):Int):=by rw [hn,Int.natCast_mul,Int.mul_comm]
   show jW .i64 (jW .i64 (n * a.base) + g) = ((val a.base (g :: v):Nat):Int);have ME:∃ m,a.base * val a.base v = m:=⟨_,rfl⟩;obtain ⟨m,em⟩:=ME;rw [em] at e1 ecv;have e2:jW .i64 ((m:Nat):Int) = (m:Int):=uW (by omega);have e3:jW .i64 ((m:Int) + g) = (m:Int) + g:=uW (by omega);rw [e1,e2,e3,ecv];omega
end
end Go.Proofs.Ytedneplaibmppaa
namespace Go.Proofs.Ytedneplaibmppaa
open Go.Rx Go.RowKit
def rU (m:Mac)(q p:Nat):Prop:=∀ n,m.at_ 0 (n + q) = m.at_ 0 (n + q + p)
theorem EZ {m:Mac}(hm:OkS m)(q p:Nat):Mac.Alike (m.every 1 q) (m.every 1 (q + p)) 0 0↔rU m q p:=by
 have h1:=Mac.vJ hm.ok 1 q;have h2:=Mac.vJ hm.ok 1 (q + p);rw [Mac.OW h1.1 h2.1 hm.b2 rfl (Mac.Er hm.ok hm.b2 hm.zer 1 q) (Mac.Er hm.ok hm.b2 hm.zer 1 (q + p)) h1.1.n1 h2.1.n1];constructor
 ·intro h n;have:=h n;rw [Mac.za hm.ok hm.b2 hm.zer,Mac.za hm.ok hm.b2 hm.zer,Nat.one_mul] at this;rw [this,Nat.add_assoc]
 ·intro h n;rw [Mac.za hm.ok hm.b2 hm.zer,Mac.za hm.ok hm.b2 hm.zer,Nat.one_mul,h n,Nat.add_assoc]
def rV (m:Mac)(p:Nat):Nat→Nat
 | 0=>0
 | q + 1=>if m.at_ 0 q = m.at_ 0 (q + p) then rV m p q else q + 1
theorem Py (n:Int):eqI n n = true:=by unfold eqI; cases n <;> simp
theorem vL (n:Int)(a a':Option Addr)(l c l' c':Nat):fD 4 (.agg ⟨[int n,.slice a l c,.slice a' l' c']⟩) (.agg ⟨[int n,.slice a l c,.slice a' l' c']⟩) = true:=by
 simp [fD,Py]
theorem Bx.same {h:Hp}{bx:List Value}{M:jh}(k:Bx h bx M):fD 4 (.agg ⟨bx⟩) (.agg ⟨bx⟩) = true:=by
 obtain ⟨hl,hb,⟨a,c,ho,_⟩,⟨a',c',hn,_⟩⟩:=k
 match bx,hl with
 | [x,y,z],_=>cases hb; cases ho; cases hn; exact vL _ _ _ _ _ _ _
def aav (m:Mac)(r:Value):Prop:=(∃ p,1≤p∧p≤30∧rU m 60 p∧(∀ p',1≤p'→p' < p→¬ rU m 60 p')∧r = .tuple ⟨[int (rV m p 60:Nat),int p,.bool true,int 0]⟩)∨((∀ p',1≤p'→p'≤30→¬ rU m 60 p')∧r = .tuple ⟨[int 0,int 0,.bool false,int 0]⟩)
theorem Ad {x y r:Int}{h:Hp}(e:x + y = r)(b:-9223372036854775808≤r∧r < 9223372036854775808):hval h (arK .i64 .add x y) = .val (int r) h:=by
 unfold arK;dsimp only;rw [e,uW b];rfl
theorem Du {x y r:Int}{h:Hp}(e:x - y = r)(b:-9223372036854775808≤r∧r < 9223372036854775808):hval h (arK .i64 .sub x y) = .val (int r) h:=by
 unfold arK;dsimp only;rw [e,uW b];rfl
theorem ZL {x y r:Int}{h:Hp}(e:x * y = r)(b:-9223372036854775808≤r∧r < 9223372036854775808):hval h (arK .i64 .mul x y) = .val (int r) h:=by
 unfold arK;dsimp only;rw [e,uW b];rfl
attribute [local irreducible] E iJ cellAt bJ storeAt callable dh dG dO findKey dZ bP Hp.at Hp.set Hp.lay dL cO setAt aJ dx bO dz Rnd gq fB gY Int.tmod Int.tdiv Int.fdiv
section
variable [bC]
attribute [local irreducible] sameAt
theorem MH (v:Value)(m:Mac)(q p:Nat)(h:Hp)(hv:MV h v m.i)(hm:OkS m)(hq:q≤100)(hp:p≤100):aJ E 77 [v,int q,int p] h (fun r h'=>(∃ b,r = .bool b∧bO b (rU m q p))∧aA h h'):=by
 obtain ⟨bx,rfl,hbx⟩:=hv.box;have hlenx:=hbx.len;have hsb:=hbx.same;have ze:=hm.n12;have hb5:=hm.b5;have e1:=Mac.vJ hm.ok 1 q;have e2:=Mac.vJ hm.ok 1 (q + p);have l1:(m.every 1 q).out.length≤12 * 101:=Nat.le_trans e1.2 (Nat.mul_le_mul ze (by omega));have l2:(m.every 1 (q + p)).out.length≤12 * 201:=Nat.le_trans e2.2 (Nat.mul_le_mul ze (by omega));have lm:=Nat.mul_le_mul l1 l2;refine enter77 (by simp) ?_;conv=>whnf
 refine aC.cut (α:=Hp) (fun _=>[(3,ptr h.next 0),(1,int q),(2,int p)]) (fun x H=>x = H∧aA h H∧H.at h.next = some (.row 25 true bx)) ?_ ?_
 ·conv=>whnf
  exact ⟨_,⟨rfl,rfl,rfl,trivial⟩,⟨rfl,aA.lay _ _,Hp.ak _ _⟩,rfl⟩
 rintro H φ1 _ ⟨rfl,gH,aX⟩;have c0:=aI aX hlenx;conv=>whnf
 refine aC.cut (α:=Bool×Hp) (fun s=>[(8,.bool s.1)]) (fun s H2=>s.2 = H2∧aA H s.2∧bO s.1 (¬ rU m q p)) ?_ ?_
 ·conv=>whnf
  refine ⟨_,c0,?_⟩;conv=>whnf
  refine aJ.mono (Br _ m 1 q _ (Bx.mv (hbx.ext gH)) hm (by omega) (by omega)) ?_;rintro w1 H1 ⟨hw1,g1⟩;have c1:=g1.cells c0;conv=>whnf
  refine ⟨_,c1,?_⟩;conv=>whnf
  refine ⟨((q + p:Nat):Int),wie (by omega) (by omega),?_⟩;conv=>whnf
  refine aJ.mono (Br _ m 1 (q + p) _ (Bx.mv (hbx.ext (gH.trans g1))) hm (by omega) (by omega)) ?_;rintro w2 H2 ⟨hw2,g2⟩;have c2:=g2.cells c1;conv=>whnf
  refine aJ.mono (Vq _ _ (m.every 1 q) (m.every 1 (q + p)) _ (hw1.mv.ext g2) hw2.mv e1.1 e2.1 rfl hb5 (by omega)) ?_;rintro r H3 ⟨⟨n,d,rfl,hd1,hd2⟩,g3⟩;have c3:=g3.cells c2;conv=>whnf
  refine ⟨?_,?_⟩
  ·repeat' (first | exact True.intro | (refine And.intro ?_ ?_ <;> (conv=>whnf)))
   all_goals first
    | exact aj (h2:=_) rfl (aM _)
    | exact aj (h2:=_) (congrArg (fun x=>hval _ (dw x)) c0) hsb
    | exact aj (h2:=_) (congrArg (fun x=>hval _ (dw x)) c1) hsb
    | exact aj (h2:=_) (congrArg (fun x=>hval _ (dw x)) c2) hsb
    | exact aj (h2:=_) (congrArg (fun x=>hval _ (dw x)) c3) hsb
    | exact aj (h2:=_) (show hval _ (arK .i64 .add _ _) = _ from Ad (by omega) (by omega)) (aM _)
    | exact aj (h2:=_) (show hval _ (arK .i64 .sub _ _) = _ from Du (by omega) (by omega)) (aM _)
  refine ⟨(d,H3),⟨rfl,trivial⟩,⟨rfl,(g1.trans g2).trans g3,?_⟩,rfl⟩;dsimp only
  cases d with
  | false=>exact nX fun k=>k ((EZ hm q p).1 (hd1 rfl).2)
  | true =>
   refine oJ fun k=>?_;obtain ⟨w,hw,_,hne,_⟩:=hd2 rfl;exact hne ((EZ hm q p).2 k w hw)
 rintro ⟨d,H2⟩ φ2 _ ⟨rfl,g2,hd⟩;dsimp only at g2 hd ⊢
 cases d with
 | false =>
  conv=>whnf
  repeat (refine aC.go ?_; conv=>whnf)
  exact ⟨⟨true,rfl,oJ (Classical.byContradiction hd.f)⟩,gH.trans g2⟩
 | true =>
  conv=>whnf
  repeat (refine aC.go ?_; conv=>whnf)
  exact ⟨⟨false,rfl,nX hd.t⟩,gH.trans g2⟩
theorem RF (v:Value)(m:Mac)(p:Nat)(h:Hp)(hv:MV h v m.i)(hm:OkS m)(hp:p≤100):aJ E 78 [v,int p] h (fun r h'=>r = int (rV m p 60:Nat)∧aA h h'):=by
 obtain ⟨bx,rfl,hbx⟩:=hv.box;have hlenx:=hbx.len;have hsb:=hbx.same;have ze:=hm.n12;have hnn:=hm.n1;refine enter78 (by simp) ?_;conv=>whnf
 refine aC.cut (α:=Hp) (fun _=>[(2,ptr h.next 0),(1,int p)]) (fun x H=>x = H∧aA h H∧H.at h.next = some (.row 25 true bx)) ?_ ?_
 ·conv=>whnf
  exact ⟨_,⟨rfl,rfl,trivial⟩,⟨rfl,aA.lay _ _,Hp.ak _ _⟩,rfl⟩
 rintro H φ1 _ ⟨rfl,gH,aX⟩;conv=>whnf
 refine aC.go ?_;conv=>whnf
 refine aC.cut (α:=Hp) (fun _=>[(5,int (rV m p 60:Nat))]) (fun x H2=>x = H2∧aA h x) ?_ ?_;rotate_left
 ·rintro H2 φ2 _ ⟨rfl,g2⟩;conv=>whnf
  repeat (refine aC.go ?_; conv=>whnf)
  exact ⟨rfl,g2⟩
 conv=>whnf
 refine bT (α:=Nat×Hp) (fun s=>[(5,int s.1),(2,ptr h.next 0),(1,int p)]) (fun s=>s.2) (fun s=>s.1≤60∧rV m p s.1 = rV m p 60∧aA H s.2) (fun s=>s.1) (60,H) ⟨Nat.le_refl _,rfl,.refl _⟩ ⟨rfl,rfl,rfl,trivial⟩ (Hp.Le.refl _) ?_;rintro ⟨q,H3⟩ φ3 ⟨hq,hst,g3⟩;dsimp only at hq hst g3 ⊢;have c0:=g3.cells (aI aX hlenx);conv=>whnf
 refine aC.cut (α:=Hp) (fun s=>[(5,int q),(2,ptr h.next 0),(1,int p)]) (fun s H4=>s = H4∧aA H s∧∃ q',q = q' + 1∧rV m p q' = rV m p 60) ?_ ?_;rotate_left
 ·rintro H4 φ4 _ ⟨rfl,g4,q',rfl,hq'⟩;conv=>whnf
  refine ⟨((q':Nat):Int),wie (by omega) (by omega),?_⟩;conv=>whnf
  exact Rnd.mk (q',H4) ⟨by show q'≤60; omega,hq',g4⟩ (by show q' < q' + 1; omega) ⟨rfl,rfl,rfl,trivial⟩ (Hp.Le.refl _) rfl
 conv=>whnf
 refine aC.go ?_;conv=>whnf
 refine dJ (fun q1=>?_) (fun q1=>?_);rotate_left
 ·have:q = 0:=by omega
  subst this;conv=>whnf
  refine ⟨?_,?_⟩
  ·repeat' (first | exact True.intro | (refine And.intro ?_ ?_ <;> (conv=>whnf)))
   all_goals first
    | exact aj (h2:=_) rfl (aM _)
    | exact True.intro
    | exact aj (h2:=_) (show hval _ (arK .i64 .add _ _) = _ from Ad (by omega) (by omega)) (aM _)
    | exact aj (h2:=_) (show hval _ (arK .i64 .sub _ _) = _ from Du (by omega) (by omega)) (aM _)
  conv=>whnf
  exact ⟨H3,⟨by rw [← hst]; rfl,trivial⟩,⟨rfl,gH.trans g3⟩,rfl⟩
 have Q7:∃ q',q = q' + 1:=⟨q - 1,by omega⟩;obtain ⟨q',rfl⟩:=Q7;conv=>whnf
 refine ⟨_,c0,?_⟩;conv=>whnf
 refine ⟨(q':Int),wie (by omega) (by omega),?_⟩;conv=>whnf
 refine aJ.mono (FT _ m 0 q' _ (Bx.mv (hbx.ext (gH.trans g3))) hm.ok hm.b25 hnn (by omega) (by omega)) ?_;rintro r H4 ⟨rfl,g4⟩;have c1:=g4.cells c0;conv=>whnf
 refine ⟨_,c1,?_⟩;conv=>whnf
 refine ⟨(q':Int),wie (by omega) (by omega),?_⟩;conv=>whnf
 refine ⟨((q' + p:Nat):Int),wie (by omega) (by omega),?_⟩;conv=>whnf
 refine aJ.mono (FT _ m 0 (q' + p) _ (Bx.mv (hbx.ext ((gH.trans g3).trans g4))) hm.ok hm.b25 hnn (by omega) (by omega)) ?_;rintro r H5 ⟨rfl,g5⟩;have c2:=g5.cells c1;have hok:rV m p (q' + 1) = if m.at_ 0 q' = m.at_ 0 (q' + p) then rV m p q' else q' + 1:=rfl
 conv=>whnf
 refine dJ (fun q2=>?_) (fun q2=>?_)
 ·rw [if_pos q2] at hok;conv=>whnf
  refine ⟨?_,?_⟩
  ·repeat' (first | exact True.intro | (refine And.intro ?_ ?_ <;> (conv=>whnf)))
   all_goals first
    | exact aj (h2:=_) rfl (aM _)
    | exact aj (h2:=_) (congrArg (fun x=>hval _ (dw x)) c0) hsb
    | exact aj (h2:=_) (congrArg (fun x=>hval _ (dw x)) c1) hsb
    | exact aj (h2:=_) (congrArg (fun x=>hval _ (dw x)) c2) hsb
    | exact aj (h2:=_) (show hval _ (arK .i64 .add _ _) = _ from Ad (by omega) (by omega)) (aM _)
    | exact aj (h2:=_) (show hval _ (arK .i64 .sub _ _) = _ from Du (by omega) (by omega)) (aM _)
  conv=>whnf
  exact ⟨H5,⟨rfl,rfl,rfl,trivial⟩,⟨rfl,(g3.trans g4).trans g5,q',rfl,by rw [← hok]; exact hst⟩,rfl⟩
 ·rw [if_neg q2] at hok;conv=>whnf
  refine ⟨?_,?_⟩
  ·repeat' (first | exact True.intro | (refine And.intro ?_ ?_ <;> (conv=>whnf)))
   all_goals first
    | exact aj (h2:=_) rfl (aM _)
    | exact aj (h2:=_) (congrArg (fun x=>hval _ (dw x)) c0) hsb
    | exact aj (h2:=_) (congrArg (fun x=>hval _ (dw x)) c1) hsb
    | exact aj (h2:=_) (congrArg (fun x=>hval _ (dw x)) c2) hsb
    | exact aj (h2:=_) (show hval _ (arK .i64 .add _ _) = _ from Ad (by omega) (by omega)) (aM _)
    | exact aj (h2:=_) (show hval _ (arK .i64 .sub _ _) = _ from Du (by omega) (by omega)) (aM _)
  conv=>whnf
  exact ⟨H5,⟨by rw [← hst,hok]; rfl,trivial⟩,⟨rfl,gH.trans ((g3.trans g4).trans g5)⟩,rfl⟩
theorem IK (v:Value)(m:Mac)(h:Hp)(hv:MV h v m.i)(hm:OkS m):aJ E 33 [v] h (fun r h'=>aav m r∧aA h h'):=by
 obtain ⟨bx,rfl,hbx⟩:=hv.box;have hlenx:=hbx.len;have hL:=hm.lens;refine enter33 (by simp) ?_;conv=>whnf
 refine aC.cut (α:=Hp) (fun _=>[(1,ptr h.next 0)]) (fun x H=>x = H∧aA h H∧H.at h.next = some (.row 25 true bx)) ?_ ?_
 ·conv=>whnf
  exact ⟨_,⟨rfl,trivial⟩,⟨rfl,aA.lay _ _,Hp.ak _ _⟩,rfl⟩
 rintro H φ1 _ ⟨rfl,gH,aX⟩;conv=>whnf
 refine aC.cut (α:=Hp) (fun _=>[(1,ptr h.next 0)]) (fun x H2=>x = H2∧aA H H2) ?_ ?_
 ·conv=>whnf
  refine aC.go ?_;conv=>whnf
  refine ⟨_,aI aX hbx.len,?_⟩;conv=>whnf
  refine aJ.mono (lg _ m.i _ (Bx.mv (hbx.ext gH)) hL.1 hL.2.1 hL.2.2) ?_;rintro r H2 ⟨⟨e,rfl,he,-⟩,g2⟩;have he:=he hm.ck;subst he;conv=>whnf
  repeat (refine aC.go ?_; conv=>whnf)
  refine Ag (by omega) ?_;conv=>whnf
  exact ⟨_,⟨rfl,trivial⟩,⟨rfl,g2⟩,rfl⟩
 rintro H2 φ2 _ ⟨rfl,g2⟩;have gh2:=gH.trans g2;conv=>whnf
 refine aC.cut (α:=Hp) (fun _=>[]) (fun x H3=>x = H3∧aA h x∧∀ p',1≤p'→p'≤30→¬ rU m 60 p') ?_ ?_;rotate_left
 ·rintro H3 φ3 _ ⟨rfl,g3,hno⟩;conv=>whnf
  repeat (refine aC.go ?_; conv=>whnf)
  exact ⟨.inr ⟨hno,rfl⟩,g3⟩
 conv=>whnf
 refine aC.go ?_;conv=>whnf
 refine bT (α:=Nat×Hp) (fun s=>[(3,int s.1),(1,ptr h.next 0)]) (fun s=>s.2) (fun s=>1≤s.1∧s.1≤31∧aA H s.2∧∀ p',1≤p'→p' < s.1→¬ rU m 60 p') (fun s=>31 - s.1) (1,H2) ⟨Nat.le_refl _,by omega,g2,fun p' h1 h2=>by omega⟩ ⟨rfl,rfl,trivial⟩ (Hp.Le.refl _) ?_;rintro ⟨p,H3⟩ φ3 ⟨hp1,ad2,g3,hno⟩;dsimp only at hp1 ad2 g3 hno ⊢;have c0:=g3.cells (aI aX hlenx);conv=>whnf
 repeat (refine aC.go ?_; conv=>whnf)
 refine dJ (fun q1=>?_) (fun q1=>?_);rotate_left
 ·conv=>whnf
  exact ⟨H3,trivial,⟨rfl,gH.trans g3,fun p' h1 h2=>hno p' h1 (by omega)⟩,rfl⟩
 conv=>whnf
 refine aC.cut (α:=Hp) (fun s=>[(3,int p),(1,ptr h.next 0)]) (fun s H4=>s = H4∧aA H s∧¬ rU m 60 p) ?_ ?_;rotate_left
 ·rintro H4 φ4 _ ⟨rfl,g4,hnp⟩;conv=>whnf
  refine ⟨((p + 1:Nat):Int),wie (by omega) (by omega),?_⟩;conv=>whnf
  exact Rnd.mk (p + 1,H4) ⟨by show 1≤p + 1; omega,by show p + 1≤31; omega,g4,fun p' h1 h2=>by
   have h2:p' < p + 1:=h2;by_cases e:p' = p
   ·rw [e]; exact hnp
   ·exact hno p' h1 (by omega)⟩ (by show 31 - (p + 1) < 31 - p; omega) ⟨rfl,rfl,trivial⟩ (Hp.Le.refl _) rfl
 conv=>whnf
 refine aC.go ?_;conv=>whnf
 refine ⟨_,c0,?_⟩;conv=>whnf
 refine aJ.mono (MH _ m 60 p _ (Bx.mv (hbx.ext (gH.trans g3))) hm (by omega) (by omega)) ?_;rintro r H4 ⟨⟨b,rfl,hb⟩,g4⟩;have c1:=g4.cells c0
 cases b with
 | false =>
  conv=>whnf
  exact ⟨H4,⟨rfl,rfl,trivial⟩,⟨rfl,g3.trans g4,hb.f⟩,rfl⟩
 | true =>
  conv=>whnf
  refine aC.go ?_;conv=>whnf
  refine ⟨_,c1,?_⟩;conv=>whnf
  refine aJ.mono (RF _ m p _ (Bx.mv (hbx.ext ((gH.trans g3).trans g4))) hm (by omega)) ?_;rintro r H5 ⟨rfl,g5⟩;conv=>whnf
  exact ⟨.inl ⟨p,hp1,by omega,hb.t,hno,rfl⟩,((gH.trans g3).trans g4).trans g5⟩
end
end Go.Proofs.Ytedneplaibmppaa
