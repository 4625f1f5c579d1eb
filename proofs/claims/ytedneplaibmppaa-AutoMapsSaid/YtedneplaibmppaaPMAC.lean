/- Contracts of the functions that PMAH comes to. -/
import Derived.Test.YtedneplaibmppaaPMAB
set_option maxRecDepth 100000
set_option maxHeartbeats 2000000
set_option linter.unusedVariables false
set_option linter.unusedSectionVars false
set_option linter.unusedSimpArgs false
namespace Go.Proofs.Ytedneplaibmppaa
open Go.Rx Go.RowKit
section
variable {h H H':Hp} {tz Z:Nat} {ov nv:Value} {O:List Int} {us:List Value} {N:List (List Int)} {cs rs:List Value}
theorem MZ.Pm {e s bytes:Nat}{b:Bool}{i n:Nat}{v:Value}{cl new:List Value}{K:Value→Hp→Prop}(k:MZ h H tz Z ov nv O us N cs rs)(hi:rs[i]? = some v)(hb:bD h H e s v n cl)(hx:new.length = s)(h1:new.all oneCell = true)(hs:(n + 1) * bytes≤1073741824)(hn:n + 1≤1073741824)
  (q:∀ v' H',(∃ a n,v' = .slice a n n)→bD h H' e s v' (n + 1) (cl ++ new)→MZ h H' tz Z ov nv O us N cs (rs.set i v')→KV (rs.set i aN ++ us) H H'→Kx (ad v) H H'→K v' H'):fB E (H.lay (.row e b new)) e s bytes v (slc H.next 0 1 1) K:=by
 have k1:=k.ext (aA.lay H (.row e b new));have hb1:=hb.ext (aA.lay H (.row e b new));have hel:wO (H.lay (.row e b new)) s (slc H.next 0 1 1) 1 new:=by
  refine ⟨rfl,?_,by rw [Nat.one_mul]; exact hx,h1⟩;show bJ (H.lay (.row e b new)) H.next 0 (1 * s) = _;rw [iq (Hp.ak _ _) (by omega),List.drop_zero,List.take_of_length_le (by omega)]
 refine fB.uf hb1 k1.gr hel (by omega) hs hn ?_;intro v' H' hb' hg' hkeep ⟨r',er,hr'⟩;have x:=Kx.dA hb1 hkeep;have hv:∀ r,ad v' = some r→(H.lay (.row e b new)).next≤r∧r < H'.next:=fun r e2=>⟨by rw [er] at e2; cases e2; exact hr',(hb'.iU r e2).2⟩;have hnx:(H.lay (.row e b new)).next≤H'.next:=by have:=hv r' (by rw [er]; rfl); omega
 obtain ⟨k2,kv⟩:=k1.touch hi x hg' hnx;have sep2:Rx.Sep H' (pl Z :: ov :: nv :: rs.set i v') us:=k1.sep.move hnx (i + 3) hv;exact q _ _ ⟨_,_,er⟩ hb' { k2 with sep:=sep2 } ((KV.grows (aA.lay _ _)).trans kv) ((Kx.grows (aA.lay _ _)).trans x)
end
def fl2:List (Int×Int)→List Value
 | []=>[]
 | p :: l=>int p.1 :: int p.2 :: fl2 l
theorem Dc:∀ (l r:List (Int×Int)),fl2 (l ++ r) = fl2 l ++ fl2 r
 | [],r=>rfl
 | p :: l,r=>by show int p.1 :: int p.2 :: fl2 (l ++ r) = _; rw [Dc l r]; rfl
theorem Tn:∀ l:List (Int×Int),(fl2 l).length = l.length * 2
 | []=>rfl
 | p :: l=>by show (fl2 l).length + 1 + 1 = (l.length + 1) * 2; rw [Tn l]; omega
theorem Pn:∀ (l:List (Int×Int)) (k:Nat) (x:Int×Int),l[k]? = some x→((fl2 l).drop (k * 2)).take 2 = [int x.1,int x.2]
 | p :: l,0,x,h=>by cases h; simp [fl2]
 | p :: l,k + 1,x,h=>by
  have:=Pn l k x (by simpa using h);rw [show (k + 1) * 2 = k * 2 + 1 + 1 by omega];simpa [fl2] using this
theorem vF {h0 H:Hp}{e:Nat}{v:Value}{L:List (Int×Int)}(k:bD h0 H e 2 v L.length (fl2 L)){i:Nat}{x:Int×Int}(hi:L[i]? = some x):∃ r,v = slc r 0 L.length L.length∧bJ H r (gU 0 i 2) 2 = some [int x.1,int x.2]:=by
 have hl:=(List.getElem?_eq_some_iff.1 hi).1;obtain ⟨hlen,⟨_,e1⟩ | ⟨r,er,_,y,hr⟩⟩:=k
 ·omega
 ·refine ⟨r,er,?_⟩;rw [ig,Nat.zero_add,iq hr (by rw [Tn]; omega),Pn L i x hi]
theorem Tp {h0 H:Hp}{e:Nat}{v:Value}{L:List Int}(k:bD h0 H e 1 v L.length (L.map int)){i:Nat}{x:Int}(hi:L[i]? = some x):∃ r,v = slc r 0 L.length L.length∧cellAt H r (gU 0 i 1) = some (int x):=by
 have hl:=(List.getElem?_eq_some_iff.1 hi).1;obtain ⟨hlen,⟨_,e1⟩ | ⟨r,er,_,y,hr⟩⟩:=k
 ·omega
 ·refine ⟨r,er,jX hr ?_⟩;rw [List.getElem?_map,hi]; rfl
section
variable {S:Type} [DecidableEq S]
def rowOf (next:S→Nat→S)(b:Nat)(L:List S)(s:S):List Int:=(List.range b).map fun d=>((nT L (next s d):Nat):Int)
def rowsOf (next:S→Nat→S)(b:Nat)(L:List S)(k:Nat):List (List Int):=(L.take k).map (rowOf next b L)
def dH (next:S→Nat→S)(b:Nat)(L:List S)(s:S)(d:Nat):List Value:=Bh b fun j=>if j < d then int (nT L (next s j):Nat) else int 0
theorem qE {next:S→Nat→S}{b d:Nat}{L L':List S}{s:S}(hL:∀ j,j < d→next s j ∈ L){r:List S}(e:L' = L ++ r):(dH next b L s d).set d (int (nT L' (next s d):Nat)) = dH next b L' s (d + 1):=by
 unfold dH;rw [OH];refine Ib fun j hj=>?_;by_cases h:j = d
 ·subst h; rw [if_pos rfl,if_pos (by omega)]
 ·rw [if_neg h];by_cases h2:j < d
  ·rw [if_pos h2,if_pos (by omega)];unfold nT;rw [e,ng (hL j h2)]
  ·rw [if_neg h2,if_neg (by omega)]
theorem qF (next:S→Nat→S)(b:Nat)(L:List S)(s:S):dH next b L s b = (rowOf next b L s).map int:=by
 unfold dH rowOf Bh;rw [List.map_map];refine List.map_congr_left fun j hj=>?_;rw [if_pos (List.mem_range.1 hj)]; rfl
theorem qG (next:S→Nat→S)(b:Nat)(L:List S)(s:S):dH next b L s 0 = times [int 0] b:=by
 unfold dH;rw [J7];rfl
theorem oM {next:S→Nat→S}{b:Nat}{L L':List S}{k:Nat}(m:Met next b L k)(hk:k≤L.length){r:List S}(e:L' = L ++ r):rowsOf next b L' k = rowsOf next b L k:=by
 unfold rowsOf;rw [e,List.take_append_of_le_length hk];refine List.map_congr_left fun s hs=>?_;unfold rowOf;refine List.map_congr_left fun d hd=>?_;obtain ⟨i,hi⟩:=List.getElem?_of_mem hs;have hi2:=(List.getElem?_eq_some_iff.1 hi).1;rw [List.length_take] at hi2;rw [List.getElem?_take_of_lt (by omega)] at hi;have:=m.cl i s (by omega) hi d (List.mem_range.1 hd);unfold nT;rw [ng this]
theorem Dh {next:S→Nat→S}{b:Nat}{s:S}{out:S→Int}{L:List S}(h:bfs next b s = L):(built b s out next).i = ⟨b,L.map out,rowsOf next b L L.length⟩:=by
 unfold built;rw [h];unfold Mac.i yS rowsOf;dsimp only;rw [List.take_length,List.map_map]
 congr 1
 refine List.map_congr_left fun s hs=>?_;show List.map _ (List.map _ _) = _;rw [List.map_map];rfl
structure Bq (next:S→Nat→S) (b:Nat) (s0:S) (U L:List S) (a:Nat):Prop where
 met:Met next b L a
 sub:∀ s ∈ L,s ∈ U
 le:a≤L.length
 run:oI next b L a (bfs next b s0)
theorem Bq.few {next:S→Nat→S}{b:Nat}{s0:S}{U L:List S}{a:Nat}(k:Bq next b s0 U L a):L.length≤U.length:=j4 k.met.nodup k.sub
theorem Bq.start {next:S→Nat→S}{b:Nat}{s0:S}{U:List S}(hU:wR next b U)(hs:s0 ∈ U):Bq next b s0 U [s0] 0:=⟨Met.one,fun s h=>by rw [List.mem_singleton.1 h]; exact hs,Nat.zero_le _,Ej hU hs⟩
theorem Bq.done {next:S→Nat→S}{b:Nat}{s0:S}{U L:List S}{a:Nat}(k:Bq next b s0 U L a)(h:L.length≤a):bfs next b s0 = L:=by
 have:=k.run
 cases this with
 | done _=>rfl
 | step hs _=>rw [List.getElem?_eq_none h] at hs; cases hs
theorem Bq.next {next:S→Nat→S}{b:Nat}{s0:S}{U L:List S}{a:Nat}(hU:wR next b U)(k:Bq next b s0 U L a){s:S}(hs:L[a]? = some s):Bq next b s0 U (notes L (outs next b s)) (a + 1):=by
 have hl:=(List.getElem?_eq_some_iff.1 hs).1;obtain ⟨r,e⟩:=gJ (outs next b s) L;refine ⟨k.met.step hs,fun x hx=>?_,by rw [e,List.length_append]; omega,?_⟩
 ·rcases j3 hx with h | h
  ·exact k.sub x h
  ·obtain ⟨d,hd,rfl⟩:=CY.1 h;exact hU.cl _ (k.sub s (List.mem_of_getElem? hs)) d hd
 ·have:=k.run
  cases this with
  | done h=>omega
  | step hs' h =>
   rw [hs] at hs';cases hs'
   exact h
def dI (next:S→Nat→S)(s:S)(d:Nat):List S:=(List.range d).map (next s)
theorem jk (next:S→Nat→S)(s:S)(d:Nat):dI next s (d + 1) = dI next s d ++ [next s d]:=by
 unfold dI;rw [List.range_succ,List.map_append]; rfl
theorem vH {next:S→Nat→S}{s:S}{d j:Nat}(h:j < d):next s j ∈ dI next s d:=List.mem_map.2 ⟨j,List.mem_range.2 h,rfl⟩
theorem iP {next:S→Nat→S}{b:Nat}{s0 s:S}{U L:List S}{a d:Nat}(hU:wR next b U)(k:Bq next b s0 U L a)(hs:s ∈ U)(hd:d≤b):(notes L (dI next s d)).length≤U.length:=j4 (jc k.met.nodup) fun x hx=>by
 rcases j3 hx with h | h
 ·exact k.sub x h
 ·obtain ⟨j,hj,rfl⟩:=List.mem_map.1 h;exact hU.cl s hs j (by have:=List.mem_range.1 hj; omega)
end
theorem mem1 {a b:Value}{l us:List Value}:b ∈ (a :: b :: l) ++ us:=by simp
theorem mem2 {a b c:Value}{l us:List Value}:c ∈ (a :: b :: c :: l) ++ us:=by simp
def Ms (go:FuncId)(yU:List Value){S:Type}(enc:S→Value)(out:S→Int)(U:List S)(h:Hp)[bC]:Prop:=callable E go = true∧∀ s ∈ U,∀ H,aA h H→aJ E go ([enc s] ++ yU) H (fun r H'=>r = int (out s)∧aA H H')
def Di (gn:FuncId)(yV:List Value){S:Type}(enc:S→Value)(next:S→Nat→S)(b:Nat)(U:List S)(h:Hp)[bC]:Prop:=callable E gn = true∧∀ s ∈ U,∀ d,d < b→∀ H,aA h H→aJ E gn ([enc s,int d] ++ yV) H (fun r H'=>r = enc (next s d)∧aA H H')
abbrev fl1 (L:List Int):List Value:=L.map int
theorem Zy (l r:List Int):fl1 (l ++ r) = fl1 l ++ fl1 r:=List.map_append
attribute [local irreducible] E iJ cellAt bJ storeAt callable dh dG dO findKey dZ bP Hp.at Hp.set Hp.lay dL cO setAt aJ dx bO dz Rnd gq fB gY Int.tmod Int.tdiv Int.fdiv
section
variable [bC]
attribute [local irreducible] sameAt j6
theorem Mt (b:Nat)(s0:Int×Int)(out:Int×Int→Int)(next:(Int×Int)→Nat→(Int×Int))(U:List (Int×Int))(go gn:FuncId)(yU yV:List Value)(h:Hp)(hb:1≤b∧b≤1000)(hU:wR next b U)(hs0:s0 ∈ U)(hUl:U.length≤100000)(ho:Ms go yU dB out U h)(hn:Di gn yV dB next b U h):aJ E 74 [int b,dB s0,.func (.func go) ⟨[]⟩ ⟨yU⟩,.func (.func gn) ⟨[]⟩ ⟨yV⟩] h (fun r h'=>jY h h' r (built b s0 out next).i∧aA h h'):=by
 obtain ⟨i3,t3,-,z3⟩:=ty3;obtain ⟨iM,tM,dM⟩:=aas;have Iw:∃ fo,Value.func (.func go) ⟨[]⟩ ⟨yU⟩ = fo:=⟨_,rfl⟩;obtain ⟨fo,efo⟩:=Iw;have Iy:∃ fn,Value.func (.func gn) ⟨[]⟩ ⟨yV⟩ = fn:=⟨_,rfl⟩;obtain ⟨fn,efn⟩:=Iy;rw [efo,efn];refine enter74 (by simp) ?_;conv=>whnf
 refine aC.cut (α:=Nat×Hp) (fun s=>[(8,ptr s.1 0),(5,ptr h.next 0),(0,int b),(2,fo),(3,fn)]) (fun s H=>s.2 = H∧aA h s.2∧s.2.at s.1 = some (.row 25 true [int 0,aN,aN])∧h.next≤s.1∧s.1 < s.2.next∧s.2.at h.next = some (.row 106 true [int s0.1,int s0.2])) ?_ ?_
 ·unfold dB;conv=>whnf
  have n1:(h.lay (.row 106 true [int s0.1,int s0.2])).next = h.next + 1:=Hp.bF _ _;exact ⟨(h.next + 1,_),⟨congrArg (fun k=>ptr k 0) n1,rfl,rfl,rfl,rfl,trivial⟩,⟨rfl,(aA.lay _ _).bH _,eB n1 (Hp.ak _ _),Nat.le_succ _,by dsimp only; rw [Hp.bF,n1]; omega,Hp.bg _ (Hp.ak _ _)⟩,rfl⟩
 rintro ⟨R,H⟩ φ1 _ ⟨rfl,gH,aR,hRh,hRn,aP⟩;dsimp only at gH aR hRh hRn aP ⊢;conv=>whnf
 refine aC.cut (α:=Hp) (fun _=>[(9,ptr H.next 0),(8,ptr R 0),(0,int b),(5,ptr h.next 0),(2,fo),(3,fn)]) (fun x H2=>x = H2∧MZ H H2 25 H.next aN aN [] [] [] [int b,aN,aN] []∧H2.at h.next = some (.row 106 true [int s0.1,int s0.2])) ?_ ?_
 ·conv=>whnf
  refine ⟨rfl,_,bX (vs:=[int b,aN,aN]) rfl rfl rfl,?_⟩;conv=>whnf
  exact ⟨_,⟨rfl,rfl,rfl,rfl,rfl,rfl,trivial⟩,⟨rfl,MZ.start (.refl _),Hp.bg _ aP⟩,rfl⟩
 rintro H2 φ2 _ ⟨rfl,hz2,aP2⟩;have uh:∃ Z,H.next = Z:=⟨_,rfl⟩;obtain ⟨Z,eZ⟩:=uh;rw [eZ] at hz2 ⊢;conv=>whnf
 refine aC.cut (α:=Nat×Hp) (fun s=>[(10,bL s.1),(9,ptr Z 0),(8,ptr R 0),(0,int b),(5,ptr h.next 0),(2,fo),(3,fn)]) (fun s H3=>s.2 = H3∧MZ H s.2 25 Z aN aN [] [] [] [int b,aN,aN] [pl s.1]∧dS s.2 s.1 dB [s0]∧H.next≤s.1∧s.2.at h.next = some (.row 106 true [int s0.1,int s0.2])) ?_ ?_
 ·conv=>whnf
  refine ⟨_,aI (Hp.bg _ aP2) rfl,?_⟩;conv=>whnf
  refine mQ tM dM oL (k:=s0) (v:=int 0) (n:=0) rfl rfl rfl (MapAt.new _) ?_;intro H3 hM3 y3;have gl3:aA H2 (H2.lay (.map [] 0)):=aA.lay _ _;have gk3:aA H2 H3:=⟨by rw [y3.next]; exact gl3.next,fun r o e=>y3.at_ r o (by have:=Hp.aU e; omega) (gl3.at_ r o e)⟩;have hz3:=(hz2.more gk3 (v:=pl H2.next) fun r e=>by cases e; exact ⟨Nat.le_refl _,by rw [y3.next,Hp.bF]; omega⟩);conv=>whnf
  exact ⟨(H2.next,H3),⟨rfl,rfl,rfl,rfl,rfl,rfl,rfl,trivial⟩,⟨rfl,hz3,hM3.congr fun k=>by
   unfold fN;by_cases e:k = s0
   ·rw [if_pos e,if_pos (by rw [e]; simp),e]; simp
   ·rw [if_neg e,if_neg (by simpa using e)],hz2.gr.next,gk3.at_ _ _ aP2⟩,rfl⟩
 rintro ⟨M,H3⟩ φ3 _ ⟨rfl,hz3,hM3,rP,aP3⟩;dsimp only at hz3 hM3 rP aP3 ⊢;conv=>whnf
 refine aC.cut (α:=Value×Hp) (fun s=>[(11,s.1),(10,bL M),(9,ptr Z 0),(8,ptr R 0),(0,int b),(2,fo),(3,fn)]) (fun s H4=>s.2 = H4∧MZ H s.2 25 Z aN aN [] [] [] [int b,aN,aN] [pl M,s.1,aN]∧dS s.2 M dB [s0]∧bD H s.2 106 2 s.1 [s0].length (fl2 [s0])) ?_ ?_
 ·conv=>whnf
  refine ⟨_,aI aP3 rfl,?_⟩;conv=>whnf
  have gl4:aA H3 (H3.lay (.row 106 true (fl2 [s0]))):=aA.lay _ _;have hz4:=(hz3.more gl4 (v:=slc H3.next 0 1 1) fun r e=>by cases e; exact ⟨Nat.le_refl _,by rw [Hp.bF]; omega⟩).more (.refl _) (v:=aN) fun r e=>by cases e
  exact ⟨(slc H3.next 0 1 1,_),⟨rfl,rfl,rfl,rfl,rfl,rfl,rfl,trivial⟩,⟨rfl,hz4,hM3.ext gl4,⟨rfl,.inr ⟨H3.next,rfl,hz3.gr.next,true,Hp.ak _ _⟩⟩⟩,rfl⟩
 rintro ⟨st,H4⟩ φ4 _ ⟨rfl,hz4,hM4,Iz⟩;dsimp only at hz4 hM4 Iz ⊢;conv=>whnf
 refine aC.cut (α:=Value×Value×List Int×List Value×List (List Int)×Hp) (fun s=>[(9,ptr Z 0),(8,ptr R 0)]) (fun s H5=>s.2.2.2.2.2 = H5∧∃ rs,MZ H s.2.2.2.2.2 25 Z s.1 s.2.1 s.2.2.1 s.2.2.2.1 s.2.2.2.2.1 [int b,s.1,s.2.1] rs∧(built b s0 out next).i = ⟨b,s.2.2.1,s.2.2.2.2.1⟩) ?_ ?_;rotate_left
 ·rintro ⟨ov,nv,O,us,N,H5⟩ φ5 _ ⟨rfl,rs,hz5,eb⟩;dsimp only at hz5 eb ⊢;have hov:=hz5.jE;obtain ⟨ax,rfl⟩:=hov;have hnv:=hz5.jO;obtain ⟨ay,rfl⟩:=hnv;have aR5:=hz5.gr.at_ _ _ aR;conv=>whnf
  repeat (refine aC.go ?_; conv=>whnf)
  refine ⟨_,aI hz5.z rfl,?_⟩;conv=>whnf
  refine ⟨rfl,_,bE (vs:=[int b,.slice ax O.length O.length,.slice ay N.length N.length]) aR5 rfl rfl rfl,?_⟩;conv=>whnf
  repeat (refine aC.go ?_; conv=>whnf)
  obtain ⟨i25,t25,jl,jm⟩:=C8;refine fu (r:=R) (o:=0) (cs:=[int b,.slice ax O.length O.length,.slice ay N.length N.length]) rfl t25 jl ?_ ?_
  ·rw [jm];exact aI (Hp.bB _ (Hp.aU aR5)) rfl
  ·rw [eb];exact hz5.leave (h:=h) (R:=R) hRn hRh gH b (.row 25 true [int b,.slice ax O.length O.length,.slice ay N.length N.length])
 conv=>whnf
 refine aC.go ?_;conv=>whnf
 refine bT (α:=Nat×List (Int×Int)×Value×Value×Value×List Value×Hp) (fun s=>[(12,int s.1),(11,s.2.2.1),(10,bL M),(9,ptr Z 0),(8,ptr R 0),(0,int b),(2,fo),(3,fn)]) (fun s=>s.2.2.2.2.2.2) (fun s=>Bq next b s0 U s.2.1 s.1∧MZ H s.2.2.2.2.2.2 25 Z s.2.2.2.1 s.2.2.2.2.1 ((s.2.1.take s.1).map out) s.2.2.2.2.2.1 (rowsOf next b s.2.1 s.1) [int b,s.2.2.2.1,s.2.2.2.2.1] [pl M,s.2.2.1,aN]∧dS s.2.2.2.2.2.2 M dB s.2.1∧bD H s.2.2.2.2.2.2 106 2 s.2.2.1 s.2.1.length (fl2 s.2.1)) (fun s=>100000 - s.1) (0,[s0],st,aN,aN,[],H4) ⟨Bq.start hU hs0,hz4,hM4,Iz⟩ ⟨rfl,rfl,rfl,rfl,rfl,rfl,rfl,rfl,trivial⟩ (Hp.Le.refl _) ?_;rintro ⟨a,L,st,ov,nv,us,H5⟩ φ5 ⟨hq,hz5,hM5,rQ⟩;dsimp only at hq hz5 hM5 rQ ⊢;have Vo:=hq.few;have hsk:=rQ.slice;obtain ⟨as5,rfl,-⟩:=hsk;have hql:=hq.le;conv=>whnf
 repeat (refine aC.go ?_; conv=>whnf)
 refine dJ (fun q1=>?_) (fun q1=>?_);rotate_left
 ·have hle:L.length≤a:=by omega
  have ea:a = L.length:=by omega
  have hbd:=hq.done hle;subst ea;rw [List.take_length] at hz5;conv=>whnf
  exact ⟨(ov,nv,L.map out,us,rowsOf next b L L.length,H5),⟨rfl,rfl,trivial⟩,⟨rfl,_,hz5,Dh hbd⟩,rfl⟩
 have haL:a < L.length:=by omega
 have yX:∃ s,L[a]? = some s:=⟨_,List.getElem?_eq_getElem haL⟩;obtain ⟨s,hs⟩:=yX;have hsU:=hq.sub s (List.mem_of_getElem? hs);have hOl:((L.take a).map out).length = a:=by rw [List.length_map,List.length_take]; omega
 have hNl:(rowsOf next b L a).length = a:=by unfold rowsOf; rw [List.length_map,List.length_take]; omega
 have hq2:=hq.next hU hs;conv=>whnf
 refine aC.cut (α:=List (Int×Int)×Value×Value×Value×List Value×Hp) (fun s=>[(12,int a),(11,s.2.1),(10,bL M),(9,ptr Z 0),(8,ptr R 0),(0,int b),(2,fo),(3,fn)]) (fun s H6=>s.2.2.2.2.2 = H6∧Bq next b s0 U s.1 (a + 1)∧MZ H s.2.2.2.2.2 25 Z s.2.2.1 s.2.2.2.1 ((s.1.take (a + 1)).map out) s.2.2.2.2.1 (rowsOf next b s.1 (a + 1)) [int b,s.2.2.1,s.2.2.2.1] [pl M,s.2.1,aN]∧dS s.2.2.2.2.2 M dB s.1∧bD H s.2.2.2.2.2 106 2 s.2.1 s.1.length (fl2 s.1)) ?_ ?_;rotate_left
 ·rintro ⟨L6,st6,ov6,nv6,us6,H6⟩ φ6 _ ⟨rfl,hq6,hz6,hM6,nU⟩;dsimp only at hq6 hz6 hM6 nU ⊢;conv=>whnf
  refine ⟨((a + 1:Nat):Int),wie (by omega) (by omega),?_⟩;conv=>whnf
  exact Rnd.mk (a + 1,L6,st6,ov6,nv6,us6,H6) ⟨hq6,hz6,hM6,nU⟩ (by show 100000 - (a + 1) < 100000 - a; omega) ⟨rfl,rfl,rfl,rfl,rfl,rfl,rfl,rfl,trivial⟩ (Hp.Le.refl _) rfl
 have hsc:=vF rQ hs;obtain ⟨rst,Mv,hsc⟩:=hsc;cases Mv
 have z1:cellAt H5 Z 1 = some ov:=bA hz5.z rfl;conv=>whnf
 refine aC.cut (α:=Value×Hp) (fun x=>[(12,int a),(11,slc rst 0 L.length L.length),(10,bL M),(9,ptr Z 0),(8,ptr R 0),(0,int b),(2,fo),(3,fn)]) (fun x H6=>x.2 = H6∧MZ H x.2 25 Z x.1 nv ((L.take (a + 1)).map out) us (rowsOf next b L a) [int b,x.1,nv] [pl M,slc rst 0 L.length L.length,aN]∧dS x.2 M dB L∧bD H x.2 106 2 (slc rst 0 L.length L.length) L.length (fl2 L)) ?_ ?_
 ·have hov:=hz5.jE;obtain ⟨ax,eov⟩:=hov;rw [hOl] at eov;subst eov;conv=>whnf
  refine ⟨_,z1,?_⟩;conv=>whnf
  refine ⟨rfl,⟨by omega,by omega⟩,?_⟩;conv=>whnf
  refine ⟨_,hsc,?_⟩;rw [← efo];conv=>whnf
  refine ⟨ho.1,?_⟩;refine aJ.mono (ho.2 s hsU H5 (gH.trans hz5.gr)) ?_;rintro _ H6 ⟨rfl,g6⟩;have hz6:=hz5.ext g6;have f1:=g6.cell z1;have f2:cellAt (H6.lay (.row 3 true [int (out s)])) Z 1 = some (.slice ax a a):=(aA.lay _ _).cell f1;conv=>whnf
  refine hz6.EW (by omega) ?_;intro ov7 H7 Eo hz7 kv7;obtain ⟨a7,n7,rfl⟩:=Eo;have f3:cellAt H7 Z 1 = some (.slice ax a a):=bA hz7.z rfl;conv=>whnf
  refine ⟨rfl,_,dQ hz7.z (by simp) rfl,?_⟩;conv=>whnf
  refine ⟨?_,?_⟩
  ·repeat' (first | exact True.intro | (refine And.intro ?_ ?_ <;> (conv=>whnf)))
   all_goals first
    | exact aj (h2:=_) rfl (aM _)
    | exact aj (h2:=_) rfl (bS _ _)
    | exact aj (h2:=_) rfl (aD _ _ _)
    | exact aj (h2:=_) rfl (ji _ _)
    | exact aj (h2:=_) (congrArg (hval _) z1) (aM _)
    | exact aj (h2:=_) (congrArg (hval _) z1) (aD _ _ _)
    | exact aj (h2:=_) (congrArg (hval _) f1) (aM _)
    | exact aj (h2:=_) (congrArg (hval _) f1) (aD _ _ _)
    | exact aj (h2:=_) (congrArg (hval _) f2) (aM _)
    | exact aj (h2:=_) (congrArg (hval _) f2) (aD _ _ _)
    | exact aj (h2:=_) (congrArg (hval _) f3) (aM _)
    | exact aj (h2:=_) (congrArg (hval _) f3) (aD _ _ _)
    | exact ⟨_,rfl,Hp.ak _ _,rfl⟩
  have hz8:=hz7.put [int b,.slice a7 n7 n7,nv];have eO:(L.take a).map out ++ [out s] = (L.take (a + 1)).map out:=by rw [gK hs,List.map_append]; rfl
  have xA:=hz8.1;rw [eO] at xA;exact ⟨(_,_),⟨rfl,rfl,rfl,rfl,rfl,rfl,rfl,rfl,trivial⟩,⟨rfl,xA,hz8.2.map (by simp) (kv7.map (by simp) (hM5.ext g6)),hz8.2.dA mem1 (kv7.dA mem1 (rQ.ext g6))⟩,rfl⟩
 rintro ⟨ov,H6⟩ φ6 _ ⟨rfl,hz6,hM6,nU⟩;dsimp only at hz6 hM6 nU ⊢;clear hz5 hM5 rQ z1;conv=>whnf
 refine aC.cut (α:=Hp) (fun _=>[(13,slc H6.next 0 b b),(12,int a),(11,slc rst 0 L.length L.length),(10,bL M),(9,ptr Z 0),(8,ptr R 0),(0,int b),(2,fo),(3,fn)]) (fun x H7=>x = H7∧MZ H x 25 Z ov nv ((L.take (a + 1)).map out) us (rowsOf next b L a) [int b,ov,nv] [pl M,slc rst 0 L.length L.length,slc H6.next 0 b b]∧dS x M dB L∧bD H x 106 2 (slc rst 0 L.length L.length) L.length (fl2 L)∧x.at H6.next = some (.row 3 true (dH next b L s 0))) ?_ ?_
 ·conv=>whnf
  refine ⟨⟨by omega,by omega,by omega,by omega⟩,?_⟩;conv=>whnf
  have gl7:aA H6 (H6.lay (.row 3 true (times [int 0] (b:Int).toNat))):=aA.lay _ _;refine ⟨_,⟨rfl,rfl,rfl,rfl,rfl,rfl,rfl,rfl,rfl,trivial⟩,⟨rfl,hz6.add gl7 (i:=2) rfl fun r e=>by cases e; exact ⟨Nat.le_refl _,by rw [Hp.bF]; omega⟩,hM6.ext gl7,nU.ext gl7,?_⟩,rfl⟩;rw [qG];exact Hp.ak _ _
 rintro H7 φ7 _ ⟨rfl,hz7,hM7,IB,aW7⟩;have hnW:=hz6.gr.next;have Rp:∃ W,H6.next = W:=⟨_,rfl⟩;obtain ⟨W,eW⟩:=Rp;rw [eW] at hz7 aW7 hnW ⊢;conv=>whnf
 refine aC.cut (α:=Value×Hp) (fun x=>[(13,slc W 0 b b),(12,int a),(11,x.1),(10,bL M),(9,ptr Z 0),(8,ptr R 0),(0,int b),(2,fo),(3,fn)]) (fun x H8=>x.2 = H8∧MZ H x.2 25 Z ov nv ((L.take (a + 1)).map out) us (rowsOf next b L a) [int b,ov,nv] [pl M,x.1,slc W 0 b b]∧dS x.2 M dB (notes L (outs next b s))∧bD H x.2 106 2 x.1 (notes L (outs next b s)).length (fl2 (notes L (outs next b s)))∧x.2.at W = some (.row 3 true (dH next b (notes L (outs next b s)) s b))) ?_ ?_;rotate_left
 ·rintro ⟨st8,H8⟩ φ8 _ ⟨rfl,hz8,hM8,iG,aW8⟩;dsimp only at hz8 hM8 iG aW8 ⊢;have hpre:=gJ (outs next b s) L;obtain ⟨r8,e8⟩:=hpre;have rO:∃ L',notes L (outs next b s) = L':=⟨_,rfl⟩;obtain ⟨L',eL'⟩:=rO;rw [eL'] at hM8 iG aW8 hq2 e8;have hrows:=oM hq.met hq.le e8;have xB:L'[a]? = some s:=by rw [e8,List.getElem?_append_left haL]; exact hs
  have htk:L'.take (a + 1) = L.take (a + 1):=by rw [e8,List.take_append_of_le_length (by omega)]
  have hbu:Built H H8 3 (slc W 0 b b) (rowOf next b L' s):=by
   refine .inr ⟨W,?_,by omega,true,?_⟩
   ·rw [show (rowOf next b L' s).length = b from by unfold rowOf; rw [List.length_map,List.length_range]]
   ·rw [aW8,qF]
  have hnv:=hz8.jO;obtain ⟨ay,eny⟩:=hnv;rw [hNl] at eny;subst eny;have hs8:=iG.slice;obtain ⟨as8,rfl,-⟩:=hs8;have z2:cellAt H8 Z 2 = some (.slice ay a a):=bA hz8.z rfl;conv=>whnf
  refine ⟨_,z2,?_⟩;conv=>whnf
  refine hz8.yT (i:=2) (by omega) rfl hbu ?_;intro nv9 H9 IC hz9 kv9;obtain ⟨a9,n9,rfl⟩:=IC;have jQ:=hz9.put [int b,ov,.slice a9 n9 n9];conv=>whnf
  refine ⟨rfl,_,dQ hz9.z (by simp) rfl,?_⟩;conv=>whnf
  have eN:rowsOf next b L a ++ [rowOf next b L' s] = rowsOf next b L' (a + 1):=by
   rw [← hrows];unfold rowsOf;rw [gK xB,List.map_append]; rfl
  have yY:=jQ.1;rw [eN,← htk] at yY;exact ⟨(L',_,ov,_,_,_),⟨rfl,rfl,rfl,rfl,rfl,rfl,rfl,rfl,trivial⟩,⟨rfl,hq2,yY,jQ.2.map (by simp) (kv9.map (by simp) hM8),jQ.2.dA mem1 (kv9.dA mem1 iG)⟩,rfl⟩
 conv=>whnf
 refine aC.go ?_;conv=>whnf
 refine bT (α:=Nat×Value×Hp) (fun x=>[(46,int x.1),(45,int b),(13,slc W 0 b b),(12,int a),(11,x.2.1),(10,bL M),(9,ptr Z 0),(8,ptr R 0),(0,int b),(2,fo),(3,fn)]) (fun x=>x.2.2) (fun x=>x.1≤b∧MZ H x.2.2 25 Z ov nv ((L.take (a + 1)).map out) us (rowsOf next b L a) [int b,ov,nv] [pl M,x.2.1,slc W 0 b b]∧dS x.2.2 M dB (notes L (dI next s x.1))∧bD H x.2.2 106 2 x.2.1 (notes L (dI next s x.1)).length (fl2 (notes L (dI next s x.1)))∧x.2.2.at W = some (.row 3 true (dH next b (notes L (dI next s x.1)) s x.1))) (fun x=>b - x.1) (0,slc rst 0 L.length L.length,H7) ⟨Nat.zero_le _,hz7,hM7,IB,aW7⟩ ⟨rfl,rfl,rfl,rfl,rfl,rfl,rfl,rfl,rfl,rfl,rfl,trivial⟩ (Hp.Le.refl _) ?_;rintro ⟨d,st8,H8⟩ φ8 ⟨hd,hz8,hM8,iG,aW8⟩;dsimp only at hd hz8 hM8 iG aW8 ⊢;clear hz7 hM7 IB aW7;conv=>whnf
 repeat (refine aC.go ?_; conv=>whnf)
 refine dJ (fun q2=>?_) (fun q2=>?_);rotate_left
 ·have:d = b:=by omega
  subst this;conv=>whnf
  exact ⟨(st8,H8),⟨rfl,rfl,rfl,rfl,rfl,rfl,rfl,rfl,rfl,trivial⟩,⟨rfl,hz8,hM8,iG,aW8⟩,rfl⟩
 have hdb:d < b:=by omega
 have hpre:=gJ (dI next s d) L;obtain ⟨r8,e8⟩:=hpre;have Dj:=iP hU hq hsU hd;have kJ:=iP hU hq hsU (d:=d + 1) (by omega);have Dk:∀ j,j < d→next s j ∈ notes L (dI next s d):=fun j hj=>fZ (vH hj);rw [jk,iF] at kJ;have hsucc:notes L (dI next s (d + 1)) = note (notes L (dI next s d)) (next s d):=by rw [jk,iF]
 have rO:∃ L',notes L (dI next s d) = L':=⟨_,rfl⟩;obtain ⟨L',eL'⟩:=rO;rw [eL'] at hM8 iG aW8 e8 Dj kJ Dk hsucc;have xB:L'[a]? = some s:=by rw [e8,List.getElem?_append_left haL]; exact hs
 have Rs:=iG.slice;obtain ⟨as8,rfl,-⟩:=Rs;have Bo:=vF iG xB;obtain ⟨rs8,Rt,Bo⟩:=Bo;cases Rt
 have abj:a < L'.length:=by rw [e8,List.length_append]; omega
 conv=>whnf
 refine aC.go ?_;conv=>whnf
 refine aC.cut (α:=Value×Hp) (fun x=>[(46,int d),(45,int b),(13,slc W 0 b b),(12,int a),(11,x.1),(10,bL M),(9,ptr Z 0),(8,ptr R 0),(0,int b),(2,fo),(3,fn)]) (fun x H9=>x.2 = H9∧MZ H x.2 25 Z ov nv ((L.take (a + 1)).map out) us (rowsOf next b L a) [int b,ov,nv] [pl M,x.1,slc W 0 b b]∧dS x.2 M dB (note L' (next s d))∧bD H x.2 106 2 x.1 (note L' (next s d)).length (fl2 (note L' (next s d)))∧x.2.at W = some (.row 3 true (dH next b (note L' (next s d)) s (d + 1)))) ?_ ?_;rotate_left
 ·rintro ⟨st9,H9⟩ φ9 _ ⟨rfl,hz9,hM9,oN,aW9⟩;dsimp only at hz9 hM9 oN aW9 ⊢;rw [← hsucc] at hM9 oN aW9;conv=>whnf
  refine ⟨((d + 1:Nat):Int),wie (by omega) (by omega),?_⟩;conv=>whnf
  exact Rnd.mk (d + 1,st9,H9) ⟨by show d + 1≤b; omega,hz9,hM9,oN,aW9⟩ (by show b - (d + 1) < b - d; omega) ⟨rfl,rfl,rfl,rfl,rfl,rfl,rfl,rfl,rfl,rfl,rfl,trivial⟩ (Hp.Le.refl _) rfl
 have hext:∃ t,next s d = t:=⟨_,rfl⟩;obtain ⟨t,et⟩:=hext;have hn2:=hn.2 s hsU d hdb H8 (gH.trans hz8.gr);rw [et] at kJ hn2 ⊢;conv=>whnf
 refine aC.go ?_;conv=>whnf
 refine aC.cut (α:=Nat×Hp) (fun x=>[(15,ptr x.1 0),(14,int d),(46,int d),(45,int b),(13,slc W 0 b b),(12,int a),(11,slc rs8 0 L'.length L'.length),(10,bL M),(9,ptr Z 0),(8,ptr R 0),(0,int b),(2,fo),(3,fn)]) (fun x H9=>x.2 = H9∧aA H8 x.2∧x.2.at x.1 = some (.row 106 true [int t.1,int t.2])∧H8.next≤x.1) ?_ ?_
 ·conv=>whnf
  refine ⟨rfl,⟨by omega,by omega⟩,?_⟩;conv=>whnf
  refine ⟨_,Bo,?_⟩;rw [← efn];conv=>whnf
  refine ⟨hn.1,?_⟩;refine aJ.mono hn2 ?_;rintro _ H9 ⟨rfl,g9⟩;unfold dB;conv=>whnf
  refine ⟨rfl,_,bX (vs:=[int t.1,int t.2]) rfl rfl rfl,?_⟩;conv=>whnf
  exact ⟨(H9.next,_),⟨rfl,rfl,rfl,rfl,rfl,rfl,rfl,rfl,rfl,rfl,rfl,rfl,rfl,trivial⟩,⟨rfl,g9.bH _,Hp.ak _ _,g9.next⟩,rfl⟩
 rintro ⟨x15,H9⟩ φ9 _ ⟨rfl,g9,aK,Jz⟩;dsimp only at g9 aK Jz ⊢;have Po:ad (slc rs8 0 L'.length L'.length)≠some x15:=fun e=>by
  have h1:=(iG.iU rs8 rfl).2;cases e
  omega
 have hz9:=hz8.ext g9;have hM9:=hM8.ext g9;have oN:=iG.ext g9;have aW9:=g9.at_ _ _ aW8;have hgW:=hz8.gr.next;conv=>whnf
 refine aC.cut (α:=Value×Hp) (fun x=>[(15,ptr x15 0),(14,int d),(46,int d),(45,int b),(13,slc W 0 b b),(12,int a),(11,x.1),(10,bL M),(9,ptr Z 0),(8,ptr R 0),(0,int b),(2,fo),(3,fn)]) (fun x H10=>x.2 = H10∧MZ H x.2 25 Z ov nv ((L.take (a + 1)).map out) us (rowsOf next b L a) [int b,ov,nv] [pl M,x.1,slc W 0 b b]∧dS x.2 M dB (note L' t)∧bD H x.2 106 2 x.1 (note L' t).length (fl2 (note L' t))∧x.2.at W = some (.row 3 true (dH next b L' s d))∧x.2.at x15 = some (.row 106 true [int t.1,int t.2])) ?_ ?_;rotate_left
 ·rintro ⟨Zz,H10⟩ Pp _ ⟨rfl,jQ,nQ,jG,rR,uj⟩;dsimp only at jQ nQ jG rR uj ⊢;have Ru:t ∈ note L' t:=nN L' t;have Dl:=rH L' t;obtain ⟨r10,e10⟩:=Dl;have hstep:=qE (b:=b) (L':=note L' t) Dk e10;rw [et] at hstep;have IE:=jG.slice;obtain ⟨abk,rfl,-⟩:=IE;conv=>whnf
  refine ⟨_,aI uj rfl,?_⟩;conv=>whnf
  refine fM tM dM t3 z3 oL (k:=t) rfl rfl nQ (jP Ru) ?_;conv=>whnf
  refine ⟨rfl,⟨by omega,by omega⟩,?_⟩;conv=>whnf
  refine ⟨rfl,_,jd rR (by unfold dH; rw [jJ]; omega) rfl,?_⟩;conv=>whnf
  have hx:Kx (ad (slc W 0 b b)) H10 (H10.set W (.row 3 true (dH next b (note L' t) s (d + 1)))):=Kx.set _ _ _;have htz:=jQ.touch (i:=2) rfl hx (jQ.gr.bQ _ (by omega)) (by rw [Hp.Cq]; exact Nat.le_refl _);rw [← hstep] at htz;refine ⟨(_,H10.set W (.row 3 true ((dH next b L' s d).set d (int (nT (note L' t) t:Nat))))),⟨rfl,rfl,rfl,rfl,rfl,rfl,rfl,rfl,rfl,rfl,rfl,trivial⟩,⟨rfl,htz.1,htz.2.map (by simp) nQ,htz.2.dA mem1 jG,?_⟩,rfl⟩;show (H10.set W _).at W = _;rw [Hp.bB _ (Hp.aU rR),hstep]
 by_cases hin:t ∈ L'
 ·have jF:note L' t = L':=by unfold note; rw [if_pos hin]
  rw [jF];conv=>whnf
  refine aC.go ?_;conv=>whnf
  refine ⟨_,aI aK rfl,?_⟩;conv=>whnf
  refine gy tM dM t3 z3 oL (k:=t) rfl rfl hM9 (jP hin) ?_;conv=>whnf
  repeat (refine aC.go ?_; conv=>whnf)
  exact ⟨(_,H9),⟨rfl,rfl,rfl,rfl,rfl,rfl,rfl,rfl,rfl,rfl,rfl,rfl,rfl,trivial⟩,⟨rfl,hz9,hM9,oN,aW9,aK⟩,rfl⟩
 ·have jF:note L' t = L' ++ [t]:=by unfold note; rw [if_neg hin]
  have hnl:(L' ++ [t]).length = L'.length + 1:=by rw [List.length_append]; rfl
  rw [jF] at kJ ⊢;conv=>whnf
  refine aC.go ?_;conv=>whnf
  refine ⟨_,aI aK rfl,?_⟩;conv=>whnf
  refine gI tM dM t3 z3 oL (k:=t) rfl rfl hM9 (pz hin) ?_;conv=>whnf
  repeat (refine aC.go ?_; conv=>whnf)
  refine ⟨_,aI aK rfl,?_⟩;conv=>whnf
  refine iO tM dM oL (k:=t) (v:=int L'.length) rfl rfl rfl hM9 ?_;intro H10 nQ y10;have htz:=hz9.touch (i:=0) (v:=pl M) rfl (Kx.keeps y10) (y10.grows hz9.gr rP) (by rw [y10.next]; exact Nat.le_refl _);have Dm:=dS.add hin nQ;have jG:=htz.2.dA (v:=slc rs8 0 L'.length L'.length) mem1 oN;have hMW:M≠W:=fun e=>by
   have:=hz9.sep.ap 3 5 (pl M) (slc W 0 b b) (by decide) rfl rfl M rfl;exact this (by rw [e]; rfl)
  have rR:=y10.at_ _ _ (fun e=>hMW e.symm) aW9;have hzz:=htz.1;have uj:H10.at x15 = some (.row 106 true [int t.1,int t.2]):=y10.at_ _ _ (fun e=>by
   obtain ⟨_,_,h1,_⟩:=hM8;have h2:=Hp.aU h1;have h3:=Jz;omega) aK
  conv=>whnf
  refine ⟨_,aI uj rfl,?_⟩;conv=>whnf
  refine hzz.Pm (i:=1) (n:=L'.length) (cl:=fl2 L') (new:=[int t.1,int t.2]) rfl jG rfl rfl (by omega) (by omega) ?_;intro ZA H11 wV Dn Bp Dp Rv;obtain ⟨a11,n11,rfl⟩:=wV;have Mw:=Dp.map (M:=M) (by simp) Dm;have Rw:=Dp.at_ (v:=slc W 0 b b) mem2 rfl rR;conv=>whnf
  exact ⟨(_,H11),⟨rfl,rfl,rfl,rfl,rfl,rfl,rfl,rfl,rfl,rfl,rfl,rfl,rfl,trivial⟩,⟨rfl,Bp,Mw,by rw [Dc,hnl]; exact Dn,Rw,Rv.at_ uj Po⟩,rfl⟩
end
end Go.Proofs.Ytedneplaibmppaa
namespace Go.Proofs.Ytedneplaibmppaa
open Go.Rx Go.RowKit
attribute [local irreducible] E iJ cellAt bJ storeAt callable dh dG dO findKey dZ bP Hp.at Hp.set Hp.lay dL cO setAt aJ dx bO dz Rnd gq fB gY Int.tmod Int.tdiv Int.fdiv
section
variable [bC]
attribute [local irreducible] sameAt j6
theorem Mx (b:Nat)(s0:Int×Int)(out:Int×Int→Int)(next:(Int×Int)→Nat→(Int×Int))(U:List (Int×Int))(go gn:FuncId)(yU yV:List Value)(h:Hp)(hb:1≤b∧b≤1000)(hU:wR next b U)(hs0:s0 ∈ U)(hUl:U.length≤100000)(ho:Ms go yU dB out U h)(hn:Di gn yV dB next b U h):aJ E 97 [int b,dB s0,.func (.func go) ⟨[]⟩ ⟨yU⟩,.func (.func gn) ⟨[]⟩ ⟨yV⟩] h (fun r h'=>jY h h' r (built b s0 out next).i∧aA h h'):=by
 obtain ⟨i3,t3,-,z3⟩:=ty3;obtain ⟨iM,tM,dM⟩:=ach;have Iw:∃ fo,Value.func (.func go) ⟨[]⟩ ⟨yU⟩ = fo:=⟨_,rfl⟩;obtain ⟨fo,efo⟩:=Iw;have Iy:∃ fn,Value.func (.func gn) ⟨[]⟩ ⟨yV⟩ = fn:=⟨_,rfl⟩;obtain ⟨fn,efn⟩:=Iy;rw [efo,efn];refine enter97 (by simp) ?_;conv=>whnf
 refine aC.cut (α:=Nat×Hp) (fun s=>[(8,ptr s.1 0),(5,ptr h.next 0),(0,int b),(2,fo),(3,fn)]) (fun s H=>s.2 = H∧aA h s.2∧s.2.at s.1 = some (.row 25 true [int 0,aN,aN])∧h.next≤s.1∧s.1 < s.2.next∧s.2.at h.next = some (.row 136 true [int s0.1,int s0.2])) ?_ ?_
 ·unfold dB;conv=>whnf
  have n1:(h.lay (.row 136 true [int s0.1,int s0.2])).next = h.next + 1:=Hp.bF _ _;exact ⟨(h.next + 1,_),⟨congrArg (fun k=>ptr k 0) n1,rfl,rfl,rfl,rfl,trivial⟩,⟨rfl,(aA.lay _ _).bH _,eB n1 (Hp.ak _ _),Nat.le_succ _,by dsimp only; rw [Hp.bF,n1]; omega,Hp.bg _ (Hp.ak _ _)⟩,rfl⟩
 rintro ⟨R,H⟩ φ1 _ ⟨rfl,gH,aR,hRh,hRn,aP⟩;dsimp only at gH aR hRh hRn aP ⊢;conv=>whnf
 refine aC.cut (α:=Hp) (fun _=>[(9,ptr H.next 0),(8,ptr R 0),(0,int b),(5,ptr h.next 0),(2,fo),(3,fn)]) (fun x H2=>x = H2∧MZ H H2 25 H.next aN aN [] [] [] [int b,aN,aN] []∧H2.at h.next = some (.row 136 true [int s0.1,int s0.2])) ?_ ?_
 ·conv=>whnf
  refine ⟨rfl,_,bX (vs:=[int b,aN,aN]) rfl rfl rfl,?_⟩;conv=>whnf
  exact ⟨_,⟨rfl,rfl,rfl,rfl,rfl,rfl,trivial⟩,⟨rfl,MZ.start (.refl _),Hp.bg _ aP⟩,rfl⟩
 rintro H2 φ2 _ ⟨rfl,hz2,aP2⟩;have uh:∃ Z,H.next = Z:=⟨_,rfl⟩;obtain ⟨Z,eZ⟩:=uh;rw [eZ] at hz2 ⊢;conv=>whnf
 refine aC.cut (α:=Nat×Hp) (fun s=>[(10,bL s.1),(9,ptr Z 0),(8,ptr R 0),(0,int b),(5,ptr h.next 0),(2,fo),(3,fn)]) (fun s H3=>s.2 = H3∧MZ H s.2 25 Z aN aN [] [] [] [int b,aN,aN] [pl s.1]∧dS s.2 s.1 dB [s0]∧H.next≤s.1∧s.2.at h.next = some (.row 136 true [int s0.1,int s0.2])) ?_ ?_
 ·conv=>whnf
  refine ⟨_,aI (Hp.bg _ aP2) rfl,?_⟩;conv=>whnf
  refine mQ tM dM Iq (k:=s0) (v:=int 0) (n:=0) rfl rfl rfl (MapAt.new _) ?_;intro H3 hM3 y3;have gl3:aA H2 (H2.lay (.map [] 0)):=aA.lay _ _;have gk3:aA H2 H3:=⟨by rw [y3.next]; exact gl3.next,fun r o e=>y3.at_ r o (by have:=Hp.aU e; omega) (gl3.at_ r o e)⟩;have hz3:=(hz2.more gk3 (v:=pl H2.next) fun r e=>by cases e; exact ⟨Nat.le_refl _,by rw [y3.next,Hp.bF]; omega⟩);conv=>whnf
  exact ⟨(H2.next,H3),⟨rfl,rfl,rfl,rfl,rfl,rfl,rfl,trivial⟩,⟨rfl,hz3,hM3.congr fun k=>by
   unfold fN;by_cases e:k = s0
   ·rw [if_pos e,if_pos (by rw [e]; simp),e]; simp
   ·rw [if_neg e,if_neg (by simpa using e)],hz2.gr.next,gk3.at_ _ _ aP2⟩,rfl⟩
 rintro ⟨M,H3⟩ φ3 _ ⟨rfl,hz3,hM3,rP,aP3⟩;dsimp only at hz3 hM3 rP aP3 ⊢;conv=>whnf
 refine aC.cut (α:=Value×Hp) (fun s=>[(11,s.1),(10,bL M),(9,ptr Z 0),(8,ptr R 0),(0,int b),(2,fo),(3,fn)]) (fun s H4=>s.2 = H4∧MZ H s.2 25 Z aN aN [] [] [] [int b,aN,aN] [pl M,s.1,aN]∧dS s.2 M dB [s0]∧bD H s.2 136 2 s.1 [s0].length (fl2 [s0])) ?_ ?_
 ·conv=>whnf
  refine ⟨_,aI aP3 rfl,?_⟩;conv=>whnf
  have gl4:aA H3 (H3.lay (.row 136 true (fl2 [s0]))):=aA.lay _ _;have hz4:=(hz3.more gl4 (v:=slc H3.next 0 1 1) fun r e=>by cases e; exact ⟨Nat.le_refl _,by rw [Hp.bF]; omega⟩).more (.refl _) (v:=aN) fun r e=>by cases e
  exact ⟨(slc H3.next 0 1 1,_),⟨rfl,rfl,rfl,rfl,rfl,rfl,rfl,trivial⟩,⟨rfl,hz4,hM3.ext gl4,⟨rfl,.inr ⟨H3.next,rfl,hz3.gr.next,true,Hp.ak _ _⟩⟩⟩,rfl⟩
 rintro ⟨st,H4⟩ φ4 _ ⟨rfl,hz4,hM4,Iz⟩;dsimp only at hz4 hM4 Iz ⊢;conv=>whnf
 refine aC.cut (α:=Value×Value×List Int×List Value×List (List Int)×Hp) (fun s=>[(9,ptr Z 0),(8,ptr R 0)]) (fun s H5=>s.2.2.2.2.2 = H5∧∃ rs,MZ H s.2.2.2.2.2 25 Z s.1 s.2.1 s.2.2.1 s.2.2.2.1 s.2.2.2.2.1 [int b,s.1,s.2.1] rs∧(built b s0 out next).i = ⟨b,s.2.2.1,s.2.2.2.2.1⟩) ?_ ?_;rotate_left
 ·rintro ⟨ov,nv,O,us,N,H5⟩ φ5 _ ⟨rfl,rs,hz5,eb⟩;dsimp only at hz5 eb ⊢;have hov:=hz5.jE;obtain ⟨ax,rfl⟩:=hov;have hnv:=hz5.jO;obtain ⟨ay,rfl⟩:=hnv;have aR5:=hz5.gr.at_ _ _ aR;conv=>whnf
  repeat (refine aC.go ?_; conv=>whnf)
  refine ⟨_,aI hz5.z rfl,?_⟩;conv=>whnf
  refine ⟨rfl,_,bE (vs:=[int b,.slice ax O.length O.length,.slice ay N.length N.length]) aR5 rfl rfl rfl,?_⟩;conv=>whnf
  repeat (refine aC.go ?_; conv=>whnf)
  obtain ⟨i25,t25,jl,jm⟩:=C8;refine fu (r:=R) (o:=0) (cs:=[int b,.slice ax O.length O.length,.slice ay N.length N.length]) rfl t25 jl ?_ ?_
  ·rw [jm];exact aI (Hp.bB _ (Hp.aU aR5)) rfl
  ·rw [eb];exact hz5.leave (h:=h) (R:=R) hRn hRh gH b (.row 25 true [int b,.slice ax O.length O.length,.slice ay N.length N.length])
 conv=>whnf
 refine aC.go ?_;conv=>whnf
 refine bT (α:=Nat×List (Int×Int)×Value×Value×Value×List Value×Hp) (fun s=>[(12,int s.1),(11,s.2.2.1),(10,bL M),(9,ptr Z 0),(8,ptr R 0),(0,int b),(2,fo),(3,fn)]) (fun s=>s.2.2.2.2.2.2) (fun s=>Bq next b s0 U s.2.1 s.1∧MZ H s.2.2.2.2.2.2 25 Z s.2.2.2.1 s.2.2.2.2.1 ((s.2.1.take s.1).map out) s.2.2.2.2.2.1 (rowsOf next b s.2.1 s.1) [int b,s.2.2.2.1,s.2.2.2.2.1] [pl M,s.2.2.1,aN]∧dS s.2.2.2.2.2.2 M dB s.2.1∧bD H s.2.2.2.2.2.2 136 2 s.2.2.1 s.2.1.length (fl2 s.2.1)) (fun s=>100000 - s.1) (0,[s0],st,aN,aN,[],H4) ⟨Bq.start hU hs0,hz4,hM4,Iz⟩ ⟨rfl,rfl,rfl,rfl,rfl,rfl,rfl,rfl,trivial⟩ (Hp.Le.refl _) ?_;rintro ⟨a,L,st,ov,nv,us,H5⟩ φ5 ⟨hq,hz5,hM5,rQ⟩;dsimp only at hq hz5 hM5 rQ ⊢;have Vo:=hq.few;have hsk:=rQ.slice;obtain ⟨as5,rfl,-⟩:=hsk;have hql:=hq.le;conv=>whnf
 repeat (refine aC.go ?_; conv=>whnf)
 refine dJ (fun q1=>?_) (fun q1=>?_);rotate_left
 ·have hle:L.length≤a:=by omega
  have ea:a = L.length:=by omega
  have hbd:=hq.done hle;subst ea;rw [List.take_length] at hz5;conv=>whnf
  exact ⟨(ov,nv,L.map out,us,rowsOf next b L L.length,H5),⟨rfl,rfl,trivial⟩,⟨rfl,_,hz5,Dh hbd⟩,rfl⟩
 have haL:a < L.length:=by omega
 have yX:∃ s,L[a]? = some s:=⟨_,List.getElem?_eq_getElem haL⟩;obtain ⟨s,hs⟩:=yX;have hsU:=hq.sub s (List.mem_of_getElem? hs);have hOl:((L.take a).map out).length = a:=by rw [List.length_map,List.length_take]; omega
 have hNl:(rowsOf next b L a).length = a:=by unfold rowsOf; rw [List.length_map,List.length_take]; omega
 have hq2:=hq.next hU hs;conv=>whnf
 refine aC.cut (α:=List (Int×Int)×Value×Value×Value×List Value×Hp) (fun s=>[(12,int a),(11,s.2.1),(10,bL M),(9,ptr Z 0),(8,ptr R 0),(0,int b),(2,fo),(3,fn)]) (fun s H6=>s.2.2.2.2.2 = H6∧Bq next b s0 U s.1 (a + 1)∧MZ H s.2.2.2.2.2 25 Z s.2.2.1 s.2.2.2.1 ((s.1.take (a + 1)).map out) s.2.2.2.2.1 (rowsOf next b s.1 (a + 1)) [int b,s.2.2.1,s.2.2.2.1] [pl M,s.2.1,aN]∧dS s.2.2.2.2.2 M dB s.1∧bD H s.2.2.2.2.2 136 2 s.2.1 s.1.length (fl2 s.1)) ?_ ?_;rotate_left
 ·rintro ⟨L6,st6,ov6,nv6,us6,H6⟩ φ6 _ ⟨rfl,hq6,hz6,hM6,nU⟩;dsimp only at hq6 hz6 hM6 nU ⊢;conv=>whnf
  refine ⟨((a + 1:Nat):Int),wie (by omega) (by omega),?_⟩;conv=>whnf
  exact Rnd.mk (a + 1,L6,st6,ov6,nv6,us6,H6) ⟨hq6,hz6,hM6,nU⟩ (by show 100000 - (a + 1) < 100000 - a; omega) ⟨rfl,rfl,rfl,rfl,rfl,rfl,rfl,rfl,trivial⟩ (Hp.Le.refl _) rfl
 have hsc:=vF rQ hs;obtain ⟨rst,Mv,hsc⟩:=hsc;cases Mv
 have z1:cellAt H5 Z 1 = some ov:=bA hz5.z rfl;conv=>whnf
 refine aC.cut (α:=Value×Hp) (fun x=>[(12,int a),(11,slc rst 0 L.length L.length),(10,bL M),(9,ptr Z 0),(8,ptr R 0),(0,int b),(2,fo),(3,fn)]) (fun x H6=>x.2 = H6∧MZ H x.2 25 Z x.1 nv ((L.take (a + 1)).map out) us (rowsOf next b L a) [int b,x.1,nv] [pl M,slc rst 0 L.length L.length,aN]∧dS x.2 M dB L∧bD H x.2 136 2 (slc rst 0 L.length L.length) L.length (fl2 L)) ?_ ?_
 ·have hov:=hz5.jE;obtain ⟨ax,eov⟩:=hov;rw [hOl] at eov;subst eov;conv=>whnf
  refine ⟨_,z1,?_⟩;conv=>whnf
  refine ⟨rfl,⟨by omega,by omega⟩,?_⟩;conv=>whnf
  refine ⟨_,hsc,?_⟩;rw [← efo];conv=>whnf
  refine ⟨ho.1,?_⟩;refine aJ.mono (ho.2 s hsU H5 (gH.trans hz5.gr)) ?_;rintro _ H6 ⟨rfl,g6⟩;have hz6:=hz5.ext g6;have f1:=g6.cell z1;have f2:cellAt (H6.lay (.row 3 true [int (out s)])) Z 1 = some (.slice ax a a):=(aA.lay _ _).cell f1;conv=>whnf
  refine hz6.EW (by omega) ?_;intro ov7 H7 Eo hz7 kv7;obtain ⟨a7,n7,rfl⟩:=Eo;have f3:cellAt H7 Z 1 = some (.slice ax a a):=bA hz7.z rfl;conv=>whnf
  refine ⟨rfl,_,dQ hz7.z (by simp) rfl,?_⟩;conv=>whnf
  refine ⟨?_,?_⟩
  ·repeat' (first | exact True.intro | (refine And.intro ?_ ?_ <;> (conv=>whnf)))
   all_goals first
    | exact aj (h2:=_) rfl (aM _)
    | exact aj (h2:=_) rfl (bS _ _)
    | exact aj (h2:=_) rfl (aD _ _ _)
    | exact aj (h2:=_) rfl (ji _ _)
    | exact aj (h2:=_) (congrArg (hval _) z1) (aM _)
    | exact aj (h2:=_) (congrArg (hval _) z1) (aD _ _ _)
    | exact aj (h2:=_) (congrArg (hval _) f1) (aM _)
    | exact aj (h2:=_) (congrArg (hval _) f1) (aD _ _ _)
    | exact aj (h2:=_) (congrArg (hval _) f2) (aM _)
    | exact aj (h2:=_) (congrArg (hval _) f2) (aD _ _ _)
    | exact aj (h2:=_) (congrArg (hval _) f3) (aM _)
    | exact aj (h2:=_) (congrArg (hval _) f3) (aD _ _ _)
    | exact ⟨_,rfl,Hp.ak _ _,rfl⟩
  have hz8:=hz7.put [int b,.slice a7 n7 n7,nv];have eO:(L.take a).map out ++ [out s] = (L.take (a + 1)).map out:=by rw [gK hs,List.map_append]; rfl
  have xA:=hz8.1;rw [eO] at xA;exact ⟨(_,_),⟨rfl,rfl,rfl,rfl,rfl,rfl,rfl,rfl,trivial⟩,⟨rfl,xA,hz8.2.map (by simp) (kv7.map (by simp) (hM5.ext g6)),hz8.2.dA mem1 (kv7.dA mem1 (rQ.ext g6))⟩,rfl⟩
 rintro ⟨ov,H6⟩ φ6 _ ⟨rfl,hz6,hM6,nU⟩;dsimp only at hz6 hM6 nU ⊢;clear hz5 hM5 rQ z1;conv=>whnf
 refine aC.cut (α:=Hp) (fun _=>[(13,slc H6.next 0 b b),(12,int a),(11,slc rst 0 L.length L.length),(10,bL M),(9,ptr Z 0),(8,ptr R 0),(0,int b),(2,fo),(3,fn)]) (fun x H7=>x = H7∧MZ H x 25 Z ov nv ((L.take (a + 1)).map out) us (rowsOf next b L a) [int b,ov,nv] [pl M,slc rst 0 L.length L.length,slc H6.next 0 b b]∧dS x M dB L∧bD H x 136 2 (slc rst 0 L.length L.length) L.length (fl2 L)∧x.at H6.next = some (.row 3 true (dH next b L s 0))) ?_ ?_
 ·conv=>whnf
  refine ⟨⟨by omega,by omega,by omega,by omega⟩,?_⟩;conv=>whnf
  have gl7:aA H6 (H6.lay (.row 3 true (times [int 0] (b:Int).toNat))):=aA.lay _ _;refine ⟨_,⟨rfl,rfl,rfl,rfl,rfl,rfl,rfl,rfl,rfl,trivial⟩,⟨rfl,hz6.add gl7 (i:=2) rfl fun r e=>by cases e; exact ⟨Nat.le_refl _,by rw [Hp.bF]; omega⟩,hM6.ext gl7,nU.ext gl7,?_⟩,rfl⟩;rw [qG];exact Hp.ak _ _
 rintro H7 φ7 _ ⟨rfl,hz7,hM7,IB,aW7⟩;have hnW:=hz6.gr.next;have Rp:∃ W,H6.next = W:=⟨_,rfl⟩;obtain ⟨W,eW⟩:=Rp;rw [eW] at hz7 aW7 hnW ⊢;conv=>whnf
 refine aC.cut (α:=Value×Hp) (fun x=>[(13,slc W 0 b b),(12,int a),(11,x.1),(10,bL M),(9,ptr Z 0),(8,ptr R 0),(0,int b),(2,fo),(3,fn)]) (fun x H8=>x.2 = H8∧MZ H x.2 25 Z ov nv ((L.take (a + 1)).map out) us (rowsOf next b L a) [int b,ov,nv] [pl M,x.1,slc W 0 b b]∧dS x.2 M dB (notes L (outs next b s))∧bD H x.2 136 2 x.1 (notes L (outs next b s)).length (fl2 (notes L (outs next b s)))∧x.2.at W = some (.row 3 true (dH next b (notes L (outs next b s)) s b))) ?_ ?_;rotate_left
 ·rintro ⟨st8,H8⟩ φ8 _ ⟨rfl,hz8,hM8,iG,aW8⟩;dsimp only at hz8 hM8 iG aW8 ⊢;have hpre:=gJ (outs next b s) L;obtain ⟨r8,e8⟩:=hpre;have rO:∃ L',notes L (outs next b s) = L':=⟨_,rfl⟩;obtain ⟨L',eL'⟩:=rO;rw [eL'] at hM8 iG aW8 hq2 e8;have hrows:=oM hq.met hq.le e8;have xB:L'[a]? = some s:=by rw [e8,List.getElem?_append_left haL]; exact hs
  have htk:L'.take (a + 1) = L.take (a + 1):=by rw [e8,List.take_append_of_le_length (by omega)]
  have hbu:Built H H8 3 (slc W 0 b b) (rowOf next b L' s):=by
   refine .inr ⟨W,?_,by omega,true,?_⟩
   ·rw [show (rowOf next b L' s).length = b from by unfold rowOf; rw [List.length_map,List.length_range]]
   ·rw [aW8,qF]
  have hnv:=hz8.jO;obtain ⟨ay,eny⟩:=hnv;rw [hNl] at eny;subst eny;have hs8:=iG.slice;obtain ⟨as8,rfl,-⟩:=hs8;have z2:cellAt H8 Z 2 = some (.slice ay a a):=bA hz8.z rfl;conv=>whnf
  refine ⟨_,z2,?_⟩;conv=>whnf
  refine hz8.yT (i:=2) (by omega) rfl hbu ?_;intro nv9 H9 IC hz9 kv9;obtain ⟨a9,n9,rfl⟩:=IC;have jQ:=hz9.put [int b,ov,.slice a9 n9 n9];conv=>whnf
  refine ⟨rfl,_,dQ hz9.z (by simp) rfl,?_⟩;conv=>whnf
  have eN:rowsOf next b L a ++ [rowOf next b L' s] = rowsOf next b L' (a + 1):=by
   rw [← hrows];unfold rowsOf;rw [gK xB,List.map_append]; rfl
  have yY:=jQ.1;rw [eN,← htk] at yY;exact ⟨(L',_,ov,_,_,_),⟨rfl,rfl,rfl,rfl,rfl,rfl,rfl,rfl,trivial⟩,⟨rfl,hq2,yY,jQ.2.map (by simp) (kv9.map (by simp) hM8),jQ.2.dA mem1 (kv9.dA mem1 iG)⟩,rfl⟩
 conv=>whnf
 refine aC.go ?_;conv=>whnf
 refine bT (α:=Nat×Value×Hp) (fun x=>[(46,int x.1),(45,int b),(13,slc W 0 b b),(12,int a),(11,x.2.1),(10,bL M),(9,ptr Z 0),(8,ptr R 0),(0,int b),(2,fo),(3,fn)]) (fun x=>x.2.2) (fun x=>x.1≤b∧MZ H x.2.2 25 Z ov nv ((L.take (a + 1)).map out) us (rowsOf next b L a) [int b,ov,nv] [pl M,x.2.1,slc W 0 b b]∧dS x.2.2 M dB (notes L (dI next s x.1))∧bD H x.2.2 136 2 x.2.1 (notes L (dI next s x.1)).length (fl2 (notes L (dI next s x.1)))∧x.2.2.at W = some (.row 3 true (dH next b (notes L (dI next s x.1)) s x.1))) (fun x=>b - x.1) (0,slc rst 0 L.length L.length,H7) ⟨Nat.zero_le _,hz7,hM7,IB,aW7⟩ ⟨rfl,rfl,rfl,rfl,rfl,rfl,rfl,rfl,rfl,rfl,rfl,trivial⟩ (Hp.Le.refl _) ?_;rintro ⟨d,st8,H8⟩ φ8 ⟨hd,hz8,hM8,iG,aW8⟩;dsimp only at hd hz8 hM8 iG aW8 ⊢;clear hz7 hM7 IB aW7;conv=>whnf
 repeat (refine aC.go ?_; conv=>whnf)
 refine dJ (fun q2=>?_) (fun q2=>?_);rotate_left
 ·have:d = b:=by omega
  subst this;conv=>whnf
  exact ⟨(st8,H8),⟨rfl,rfl,rfl,rfl,rfl,rfl,rfl,rfl,rfl,trivial⟩,⟨rfl,hz8,hM8,iG,aW8⟩,rfl⟩
 have hdb:d < b:=by omega
 have hpre:=gJ (dI next s d) L;obtain ⟨r8,e8⟩:=hpre;have Dj:=iP hU hq hsU hd;have kJ:=iP hU hq hsU (d:=d + 1) (by omega);have Dk:∀ j,j < d→next s j ∈ notes L (dI next s d):=fun j hj=>fZ (vH hj);rw [jk,iF] at kJ;have hsucc:notes L (dI next s (d + 1)) = note (notes L (dI next s d)) (next s d):=by rw [jk,iF]
 have rO:∃ L',notes L (dI next s d) = L':=⟨_,rfl⟩;obtain ⟨L',eL'⟩:=rO;rw [eL'] at hM8 iG aW8 e8 Dj kJ Dk hsucc;have xB:L'[a]? = some s:=by rw [e8,List.getElem?_append_left haL]; exact hs
 have Rs:=iG.slice;obtain ⟨as8,rfl,-⟩:=Rs;have Bo:=vF iG xB;obtain ⟨rs8,Rt,Bo⟩:=Bo;cases Rt
 have abj:a < L'.length:=by rw [e8,List.length_append]; omega
 conv=>whnf
 refine aC.go ?_;conv=>whnf
 refine aC.cut (α:=Value×Hp) (fun x=>[(46,int d),(45,int b),(13,slc W 0 b b),(12,int a),(11,x.1),(10,bL M),(9,ptr Z 0),(8,ptr R 0),(0,int b),(2,fo),(3,fn)]) (fun x H9=>x.2 = H9∧MZ H x.2 25 Z ov nv ((L.take (a + 1)).map out) us (rowsOf next b L a) [int b,ov,nv] [pl M,x.1,slc W 0 b b]∧dS x.2 M dB (note L' (next s d))∧bD H x.2 136 2 x.1 (note L' (next s d)).length (fl2 (note L' (next s d)))∧x.2.at W = some (.row 3 true (dH next b (note L' (next s d)) s (d + 1)))) ?_ ?_;rotate_left
 ·rintro ⟨st9,H9⟩ φ9 _ ⟨rfl,hz9,hM9,oN,aW9⟩;dsimp only at hz9 hM9 oN aW9 ⊢;rw [← hsucc] at hM9 oN aW9;conv=>whnf
  refine ⟨((d + 1:Nat):Int),wie (by omega) (by omega),?_⟩;conv=>whnf
  exact Rnd.mk (d + 1,st9,H9) ⟨by show d + 1≤b; omega,hz9,hM9,oN,aW9⟩ (by show b - (d + 1) < b - d; omega) ⟨rfl,rfl,rfl,rfl,rfl,rfl,rfl,rfl,rfl,rfl,rfl,trivial⟩ (Hp.Le.refl _) rfl
 have hext:∃ t,next s d = t:=⟨_,rfl⟩;obtain ⟨t,et⟩:=hext;have hn2:=hn.2 s hsU d hdb H8 (gH.trans hz8.gr);rw [et] at kJ hn2 ⊢;conv=>whnf
 refine aC.go ?_;conv=>whnf
 refine aC.cut (α:=Nat×Hp) (fun x=>[(15,ptr x.1 0),(14,int d),(46,int d),(45,int b),(13,slc W 0 b b),(12,int a),(11,slc rs8 0 L'.length L'.length),(10,bL M),(9,ptr Z 0),(8,ptr R 0),(0,int b),(2,fo),(3,fn)]) (fun x H9=>x.2 = H9∧aA H8 x.2∧x.2.at x.1 = some (.row 136 true [int t.1,int t.2])∧H8.next≤x.1) ?_ ?_
 ·conv=>whnf
  refine ⟨rfl,⟨by omega,by omega⟩,?_⟩;conv=>whnf
  refine ⟨_,Bo,?_⟩;rw [← efn];conv=>whnf
  refine ⟨hn.1,?_⟩;refine aJ.mono hn2 ?_;rintro _ H9 ⟨rfl,g9⟩;unfold dB;conv=>whnf
  refine ⟨rfl,_,bX (vs:=[int t.1,int t.2]) rfl rfl rfl,?_⟩;conv=>whnf
  exact ⟨(H9.next,_),⟨rfl,rfl,rfl,rfl,rfl,rfl,rfl,rfl,rfl,rfl,rfl,rfl,rfl,trivial⟩,⟨rfl,g9.bH _,Hp.ak _ _,g9.next⟩,rfl⟩
 rintro ⟨x15,H9⟩ φ9 _ ⟨rfl,g9,aK,Jz⟩;dsimp only at g9 aK Jz ⊢;have Po:ad (slc rs8 0 L'.length L'.length)≠some x15:=fun e=>by
  have h1:=(iG.iU rs8 rfl).2;cases e
  omega
 have hz9:=hz8.ext g9;have hM9:=hM8.ext g9;have oN:=iG.ext g9;have aW9:=g9.at_ _ _ aW8;have hgW:=hz8.gr.next;conv=>whnf
 refine aC.cut (α:=Value×Hp) (fun x=>[(15,ptr x15 0),(14,int d),(46,int d),(45,int b),(13,slc W 0 b b),(12,int a),(11,x.1),(10,bL M),(9,ptr Z 0),(8,ptr R 0),(0,int b),(2,fo),(3,fn)]) (fun x H10=>x.2 = H10∧MZ H x.2 25 Z ov nv ((L.take (a + 1)).map out) us (rowsOf next b L a) [int b,ov,nv] [pl M,x.1,slc W 0 b b]∧dS x.2 M dB (note L' t)∧bD H x.2 136 2 x.1 (note L' t).length (fl2 (note L' t))∧x.2.at W = some (.row 3 true (dH next b L' s d))∧x.2.at x15 = some (.row 136 true [int t.1,int t.2])) ?_ ?_;rotate_left
 ·rintro ⟨Zz,H10⟩ Pp _ ⟨rfl,jQ,nQ,jG,rR,uj⟩;dsimp only at jQ nQ jG rR uj ⊢;have Ru:t ∈ note L' t:=nN L' t;have Dl:=rH L' t;obtain ⟨r10,e10⟩:=Dl;have hstep:=qE (b:=b) (L':=note L' t) Dk e10;rw [et] at hstep;have IE:=jG.slice;obtain ⟨abk,rfl,-⟩:=IE;conv=>whnf
  refine ⟨_,aI uj rfl,?_⟩;conv=>whnf
  refine fM tM dM t3 z3 Iq (k:=t) rfl rfl nQ (jP Ru) ?_;conv=>whnf
  refine ⟨rfl,⟨by omega,by omega⟩,?_⟩;conv=>whnf
  refine ⟨rfl,_,jd rR (by unfold dH; rw [jJ]; omega) rfl,?_⟩;conv=>whnf
  have hx:Kx (ad (slc W 0 b b)) H10 (H10.set W (.row 3 true (dH next b (note L' t) s (d + 1)))):=Kx.set _ _ _;have htz:=jQ.touch (i:=2) rfl hx (jQ.gr.bQ _ (by omega)) (by rw [Hp.Cq]; exact Nat.le_refl _);rw [← hstep] at htz;refine ⟨(_,H10.set W (.row 3 true ((dH next b L' s d).set d (int (nT (note L' t) t:Nat))))),⟨rfl,rfl,rfl,rfl,rfl,rfl,rfl,rfl,rfl,rfl,rfl,trivial⟩,⟨rfl,htz.1,htz.2.map (by simp) nQ,htz.2.dA mem1 jG,?_⟩,rfl⟩;show (H10.set W _).at W = _;rw [Hp.bB _ (Hp.aU rR),hstep]
 by_cases hin:t ∈ L'
 ·have jF:note L' t = L':=by unfold note; rw [if_pos hin]
  rw [jF];conv=>whnf
  refine aC.go ?_;conv=>whnf
  refine ⟨_,aI aK rfl,?_⟩;conv=>whnf
  refine gy tM dM t3 z3 Iq (k:=t) rfl rfl hM9 (jP hin) ?_;conv=>whnf
  repeat (refine aC.go ?_; conv=>whnf)
  exact ⟨(_,H9),⟨rfl,rfl,rfl,rfl,rfl,rfl,rfl,rfl,rfl,rfl,rfl,rfl,rfl,trivial⟩,⟨rfl,hz9,hM9,oN,aW9,aK⟩,rfl⟩
 ·have jF:note L' t = L' ++ [t]:=by unfold note; rw [if_neg hin]
  have hnl:(L' ++ [t]).length = L'.length + 1:=by rw [List.length_append]; rfl
  rw [jF] at kJ ⊢;conv=>whnf
  refine aC.go ?_;conv=>whnf
  refine ⟨_,aI aK rfl,?_⟩;conv=>whnf
  refine gI tM dM t3 z3 Iq (k:=t) rfl rfl hM9 (pz hin) ?_;conv=>whnf
  repeat (refine aC.go ?_; conv=>whnf)
  refine ⟨_,aI aK rfl,?_⟩;conv=>whnf
  refine iO tM dM Iq (k:=t) (v:=int L'.length) rfl rfl rfl hM9 ?_;intro H10 nQ y10;have htz:=hz9.touch (i:=0) (v:=pl M) rfl (Kx.keeps y10) (y10.grows hz9.gr rP) (by rw [y10.next]; exact Nat.le_refl _);have Dm:=dS.add hin nQ;have jG:=htz.2.dA (v:=slc rs8 0 L'.length L'.length) mem1 oN;have hMW:M≠W:=fun e=>by
   have:=hz9.sep.ap 3 5 (pl M) (slc W 0 b b) (by decide) rfl rfl M rfl;exact this (by rw [e]; rfl)
  have rR:=y10.at_ _ _ (fun e=>hMW e.symm) aW9;have hzz:=htz.1;have uj:H10.at x15 = some (.row 136 true [int t.1,int t.2]):=y10.at_ _ _ (fun e=>by
   obtain ⟨_,_,h1,_⟩:=hM8;have h2:=Hp.aU h1;have h3:=Jz;omega) aK
  conv=>whnf
  refine ⟨_,aI uj rfl,?_⟩;conv=>whnf
  refine hzz.Pm (i:=1) (n:=L'.length) (cl:=fl2 L') (new:=[int t.1,int t.2]) rfl jG rfl rfl (by omega) (by omega) ?_;intro ZA H11 wV Dn Bp Dp Rv;obtain ⟨a11,n11,rfl⟩:=wV;have Mw:=Dp.map (M:=M) (by simp) Dm;have Rw:=Dp.at_ (v:=slc W 0 b b) mem2 rfl rR;conv=>whnf
  exact ⟨(_,H11),⟨rfl,rfl,rfl,rfl,rfl,rfl,rfl,rfl,rfl,rfl,rfl,rfl,rfl,trivial⟩,⟨rfl,Bp,Mw,by rw [Dc,hnl]; exact Dn,Rw,Rv.at_ uj Po⟩,rfl⟩
end
end Go.Proofs.Ytedneplaibmppaa
namespace Go.Proofs.Ytedneplaibmppaa
open Go.Rx Go.RowKit
attribute [local irreducible] E iJ cellAt bJ storeAt callable dh dG dO findKey dZ bP Hp.at Hp.set Hp.lay dL cO setAt aJ dx bO dz Rnd gq fB gY Int.tmod Int.tdiv Int.fdiv
section
variable [bC]
attribute [local irreducible] sameAt j6
theorem JA (b:Nat)(s0:Int×Int)(out:Int×Int→Int)(next:(Int×Int)→Nat→(Int×Int))(U:List (Int×Int))(go gn:FuncId)(yU yV:List Value)(h:Hp)(hb:1≤b∧b≤1000)(hU:wR next b U)(hs0:s0 ∈ U)(hUl:U.length≤100000)(ho:Ms go yU dB out U h)(hn:Di gn yV dB next b U h):aJ E 103 [int b,dB s0,.func (.func go) ⟨[]⟩ ⟨yU⟩,.func (.func gn) ⟨[]⟩ ⟨yV⟩] h (fun r h'=>jY h h' r (built b s0 out next).i∧aA h h'):=by
 obtain ⟨i3,t3,-,z3⟩:=ty3;obtain ⟨iM,tM,dM⟩:=aci;have Iw:∃ fo,Value.func (.func go) ⟨[]⟩ ⟨yU⟩ = fo:=⟨_,rfl⟩;obtain ⟨fo,efo⟩:=Iw;have Iy:∃ fn,Value.func (.func gn) ⟨[]⟩ ⟨yV⟩ = fn:=⟨_,rfl⟩;obtain ⟨fn,efn⟩:=Iy;rw [efo,efn];refine enter103 (by simp) ?_;conv=>whnf
 refine aC.cut (α:=Nat×Hp) (fun s=>[(8,ptr s.1 0),(5,ptr h.next 0),(0,int b),(2,fo),(3,fn)]) (fun s H=>s.2 = H∧aA h s.2∧s.2.at s.1 = some (.row 25 true [int 0,aN,aN])∧h.next≤s.1∧s.1 < s.2.next∧s.2.at h.next = some (.row 147 true [int s0.1,int s0.2])) ?_ ?_
 ·unfold dB;conv=>whnf
  have n1:(h.lay (.row 147 true [int s0.1,int s0.2])).next = h.next + 1:=Hp.bF _ _;exact ⟨(h.next + 1,_),⟨congrArg (fun k=>ptr k 0) n1,rfl,rfl,rfl,rfl,trivial⟩,⟨rfl,(aA.lay _ _).bH _,eB n1 (Hp.ak _ _),Nat.le_succ _,by dsimp only; rw [Hp.bF,n1]; omega,Hp.bg _ (Hp.ak _ _)⟩,rfl⟩
 rintro ⟨R,H⟩ φ1 _ ⟨rfl,gH,aR,hRh,hRn,aP⟩;dsimp only at gH aR hRh hRn aP ⊢;conv=>whnf
 refine aC.cut (α:=Hp) (fun _=>[(9,ptr H.next 0),(8,ptr R 0),(0,int b),(5,ptr h.next 0),(2,fo),(3,fn)]) (fun x H2=>x = H2∧MZ H H2 25 H.next aN aN [] [] [] [int b,aN,aN] []∧H2.at h.next = some (.row 147 true [int s0.1,int s0.2])) ?_ ?_
 ·conv=>whnf
  refine ⟨rfl,_,bX (vs:=[int b,aN,aN]) rfl rfl rfl,?_⟩;conv=>whnf
  exact ⟨_,⟨rfl,rfl,rfl,rfl,rfl,rfl,trivial⟩,⟨rfl,MZ.start (.refl _),Hp.bg _ aP⟩,rfl⟩
 rintro H2 φ2 _ ⟨rfl,hz2,aP2⟩;have uh:∃ Z,H.next = Z:=⟨_,rfl⟩;obtain ⟨Z,eZ⟩:=uh;rw [eZ] at hz2 ⊢;conv=>whnf
 refine aC.cut (α:=Nat×Hp) (fun s=>[(10,bL s.1),(9,ptr Z 0),(8,ptr R 0),(0,int b),(5,ptr h.next 0),(2,fo),(3,fn)]) (fun s H3=>s.2 = H3∧MZ H s.2 25 Z aN aN [] [] [] [int b,aN,aN] [pl s.1]∧dS s.2 s.1 dB [s0]∧H.next≤s.1∧s.2.at h.next = some (.row 147 true [int s0.1,int s0.2])) ?_ ?_
 ·conv=>whnf
  refine ⟨_,aI (Hp.bg _ aP2) rfl,?_⟩;conv=>whnf
  refine mQ tM dM Ir (k:=s0) (v:=int 0) (n:=0) rfl rfl rfl (MapAt.new _) ?_;intro H3 hM3 y3;have gl3:aA H2 (H2.lay (.map [] 0)):=aA.lay _ _;have gk3:aA H2 H3:=⟨by rw [y3.next]; exact gl3.next,fun r o e=>y3.at_ r o (by have:=Hp.aU e; omega) (gl3.at_ r o e)⟩;have hz3:=(hz2.more gk3 (v:=pl H2.next) fun r e=>by cases e; exact ⟨Nat.le_refl _,by rw [y3.next,Hp.bF]; omega⟩);conv=>whnf
  exact ⟨(H2.next,H3),⟨rfl,rfl,rfl,rfl,rfl,rfl,rfl,trivial⟩,⟨rfl,hz3,hM3.congr fun k=>by
   unfold fN;by_cases e:k = s0
   ·rw [if_pos e,if_pos (by rw [e]; simp),e]; simp
   ·rw [if_neg e,if_neg (by simpa using e)],hz2.gr.next,gk3.at_ _ _ aP2⟩,rfl⟩
 rintro ⟨M,H3⟩ φ3 _ ⟨rfl,hz3,hM3,rP,aP3⟩;dsimp only at hz3 hM3 rP aP3 ⊢;conv=>whnf
 refine aC.cut (α:=Value×Hp) (fun s=>[(11,s.1),(10,bL M),(9,ptr Z 0),(8,ptr R 0),(0,int b),(2,fo),(3,fn)]) (fun s H4=>s.2 = H4∧MZ H s.2 25 Z aN aN [] [] [] [int b,aN,aN] [pl M,s.1,aN]∧dS s.2 M dB [s0]∧bD H s.2 147 2 s.1 [s0].length (fl2 [s0])) ?_ ?_
 ·conv=>whnf
  refine ⟨_,aI aP3 rfl,?_⟩;conv=>whnf
  have gl4:aA H3 (H3.lay (.row 147 true (fl2 [s0]))):=aA.lay _ _;have hz4:=(hz3.more gl4 (v:=slc H3.next 0 1 1) fun r e=>by cases e; exact ⟨Nat.le_refl _,by rw [Hp.bF]; omega⟩).more (.refl _) (v:=aN) fun r e=>by cases e
  exact ⟨(slc H3.next 0 1 1,_),⟨rfl,rfl,rfl,rfl,rfl,rfl,rfl,trivial⟩,⟨rfl,hz4,hM3.ext gl4,⟨rfl,.inr ⟨H3.next,rfl,hz3.gr.next,true,Hp.ak _ _⟩⟩⟩,rfl⟩
 rintro ⟨st,H4⟩ φ4 _ ⟨rfl,hz4,hM4,Iz⟩;dsimp only at hz4 hM4 Iz ⊢;conv=>whnf
 refine aC.cut (α:=Value×Value×List Int×List Value×List (List Int)×Hp) (fun s=>[(9,ptr Z 0),(8,ptr R 0)]) (fun s H5=>s.2.2.2.2.2 = H5∧∃ rs,MZ H s.2.2.2.2.2 25 Z s.1 s.2.1 s.2.2.1 s.2.2.2.1 s.2.2.2.2.1 [int b,s.1,s.2.1] rs∧(built b s0 out next).i = ⟨b,s.2.2.1,s.2.2.2.2.1⟩) ?_ ?_;rotate_left
 ·rintro ⟨ov,nv,O,us,N,H5⟩ φ5 _ ⟨rfl,rs,hz5,eb⟩;dsimp only at hz5 eb ⊢;have hov:=hz5.jE;obtain ⟨ax,rfl⟩:=hov;have hnv:=hz5.jO;obtain ⟨ay,rfl⟩:=hnv;have aR5:=hz5.gr.at_ _ _ aR;conv=>whnf
  repeat (refine aC.go ?_; conv=>whnf)
  refine ⟨_,aI hz5.z rfl,?_⟩;conv=>whnf
  refine ⟨rfl,_,bE (vs:=[int b,.slice ax O.length O.length,.slice ay N.length N.length]) aR5 rfl rfl rfl,?_⟩;conv=>whnf
  repeat (refine aC.go ?_; conv=>whnf)
  obtain ⟨i25,t25,jl,jm⟩:=C8;refine fu (r:=R) (o:=0) (cs:=[int b,.slice ax O.length O.length,.slice ay N.length N.length]) rfl t25 jl ?_ ?_
  ·rw [jm];exact aI (Hp.bB _ (Hp.aU aR5)) rfl
  ·rw [eb];exact hz5.leave (h:=h) (R:=R) hRn hRh gH b (.row 25 true [int b,.slice ax O.length O.length,.slice ay N.length N.length])
 conv=>whnf
 refine aC.go ?_;conv=>whnf
 refine bT (α:=Nat×List (Int×Int)×Value×Value×Value×List Value×Hp) (fun s=>[(12,int s.1),(11,s.2.2.1),(10,bL M),(9,ptr Z 0),(8,ptr R 0),(0,int b),(2,fo),(3,fn)]) (fun s=>s.2.2.2.2.2.2) (fun s=>Bq next b s0 U s.2.1 s.1∧MZ H s.2.2.2.2.2.2 25 Z s.2.2.2.1 s.2.2.2.2.1 ((s.2.1.take s.1).map out) s.2.2.2.2.2.1 (rowsOf next b s.2.1 s.1) [int b,s.2.2.2.1,s.2.2.2.2.1] [pl M,s.2.2.1,aN]∧dS s.2.2.2.2.2.2 M dB s.2.1∧bD H s.2.2.2.2.2.2 147 2 s.2.2.1 s.2.1.length (fl2 s.2.1)) (fun s=>100000 - s.1) (0,[s0],st,aN,aN,[],H4) ⟨Bq.start hU hs0,hz4,hM4,Iz⟩ ⟨rfl,rfl,rfl,rfl,rfl,rfl,rfl,rfl,trivial⟩ (Hp.Le.refl _) ?_;rintro ⟨a,L,st,ov,nv,us,H5⟩ φ5 ⟨hq,hz5,hM5,rQ⟩;dsimp only at hq hz5 hM5 rQ ⊢;have Vo:=hq.few;have hsk:=rQ.slice;obtain ⟨as5,rfl,-⟩:=hsk;have hql:=hq.le;conv=>whnf
 repeat (refine aC.go ?_; conv=>whnf)
 refine dJ (fun q1=>?_) (fun q1=>?_);rotate_left
 ·have hle:L.length≤a:=by omega
  have ea:a = L.length:=by omega
  have hbd:=hq.done hle;subst ea;rw [List.take_length] at hz5;conv=>whnf
  exact ⟨(ov,nv,L.map out,us,rowsOf next b L L.length,H5),⟨rfl,rfl,trivial⟩,⟨rfl,_,hz5,Dh hbd⟩,rfl⟩
 have haL:a < L.length:=by omega
 have yX:∃ s,L[a]? = some s:=⟨_,List.getElem?_eq_getElem haL⟩;obtain ⟨s,hs⟩:=yX;have hsU:=hq.sub s (List.mem_of_getElem? hs);have hOl:((L.take a).map out).length = a:=by rw [List.length_map,List.length_take]; omega
 have hNl:(rowsOf next b L a).length = a:=by unfold rowsOf; rw [List.length_map,List.length_take]; omega
 have hq2:=hq.next hU hs;conv=>whnf
 refine aC.cut (α:=List (Int×Int)×Value×Value×Value×List Value×Hp) (fun s=>[(12,int a),(11,s.2.1),(10,bL M),(9,ptr Z 0),(8,ptr R 0),(0,int b),(2,fo),(3,fn)]) (fun s H6=>s.2.2.2.2.2 = H6∧Bq next b s0 U s.1 (a + 1)∧MZ H s.2.2.2.2.2 25 Z s.2.2.1 s.2.2.2.1 ((s.1.take (a + 1)).map out) s.2.2.2.2.1 (rowsOf next b s.1 (a + 1)) [int b,s.2.2.1,s.2.2.2.1] [pl M,s.2.1,aN]∧dS s.2.2.2.2.2 M dB s.1∧bD H s.2.2.2.2.2 147 2 s.2.1 s.1.length (fl2 s.1)) ?_ ?_;rotate_left
 ·rintro ⟨L6,st6,ov6,nv6,us6,H6⟩ φ6 _ ⟨rfl,hq6,hz6,hM6,nU⟩;dsimp only at hq6 hz6 hM6 nU ⊢;conv=>whnf
  refine ⟨((a + 1:Nat):Int),wie (by omega) (by omega),?_⟩;conv=>whnf
  exact Rnd.mk (a + 1,L6,st6,ov6,nv6,us6,H6) ⟨hq6,hz6,hM6,nU⟩ (by show 100000 - (a + 1) < 100000 - a; omega) ⟨rfl,rfl,rfl,rfl,rfl,rfl,rfl,rfl,trivial⟩ (Hp.Le.refl _) rfl
 have hsc:=vF rQ hs;obtain ⟨rst,Mv,hsc⟩:=hsc;cases Mv
 have z1:cellAt H5 Z 1 = some ov:=bA hz5.z rfl;conv=>whnf
 refine aC.cut (α:=Value×Hp) (fun x=>[(12,int a),(11,slc rst 0 L.length L.length),(10,bL M),(9,ptr Z 0),(8,ptr R 0),(0,int b),(2,fo),(3,fn)]) (fun x H6=>x.2 = H6∧MZ H x.2 25 Z x.1 nv ((L.take (a + 1)).map out) us (rowsOf next b L a) [int b,x.1,nv] [pl M,slc rst 0 L.length L.length,aN]∧dS x.2 M dB L∧bD H x.2 147 2 (slc rst 0 L.length L.length) L.length (fl2 L)) ?_ ?_
 ·have hov:=hz5.jE;obtain ⟨ax,eov⟩:=hov;rw [hOl] at eov;subst eov;conv=>whnf
  refine ⟨_,z1,?_⟩;conv=>whnf
  refine ⟨rfl,⟨by omega,by omega⟩,?_⟩;conv=>whnf
  refine ⟨_,hsc,?_⟩;rw [← efo];conv=>whnf
  refine ⟨ho.1,?_⟩;refine aJ.mono (ho.2 s hsU H5 (gH.trans hz5.gr)) ?_;rintro _ H6 ⟨rfl,g6⟩;have hz6:=hz5.ext g6;have f1:=g6.cell z1;have f2:cellAt (H6.lay (.row 3 true [int (out s)])) Z 1 = some (.slice ax a a):=(aA.lay _ _).cell f1;conv=>whnf
  refine hz6.EW (by omega) ?_;intro ov7 H7 Eo hz7 kv7;obtain ⟨a7,n7,rfl⟩:=Eo;have f3:cellAt H7 Z 1 = some (.slice ax a a):=bA hz7.z rfl;conv=>whnf
  refine ⟨rfl,_,dQ hz7.z (by simp) rfl,?_⟩;conv=>whnf
  refine ⟨?_,?_⟩
  ·repeat' (first | exact True.intro | (refine And.intro ?_ ?_ <;> (conv=>whnf)))
   all_goals first
    | exact aj (h2:=_) rfl (aM _)
    | exact aj (h2:=_) rfl (bS _ _)
    | exact aj (h2:=_) rfl (aD _ _ _)
    | exact aj (h2:=_) rfl (ji _ _)
    | exact aj (h2:=_) (congrArg (hval _) z1) (aM _)
    | exact aj (h2:=_) (congrArg (hval _) z1) (aD _ _ _)
    | exact aj (h2:=_) (congrArg (hval _) f1) (aM _)
    | exact aj (h2:=_) (congrArg (hval _) f1) (aD _ _ _)
    | exact aj (h2:=_) (congrArg (hval _) f2) (aM _)
    | exact aj (h2:=_) (congrArg (hval _) f2) (aD _ _ _)
    | exact aj (h2:=_) (congrArg (hval _) f3) (aM _)
    | exact aj (h2:=_) (congrArg (hval _) f3) (aD _ _ _)
    | exact ⟨_,rfl,Hp.ak _ _,rfl⟩
  have hz8:=hz7.put [int b,.slice a7 n7 n7,nv];have eO:(L.take a).map out ++ [out s] = (L.take (a + 1)).map out:=by rw [gK hs,List.map_append]; rfl
  have xA:=hz8.1;rw [eO] at xA;exact ⟨(_,_),⟨rfl,rfl,rfl,rfl,rfl,rfl,rfl,rfl,trivial⟩,⟨rfl,xA,hz8.2.map (by simp) (kv7.map (by simp) (hM5.ext g6)),hz8.2.dA mem1 (kv7.dA mem1 (rQ.ext g6))⟩,rfl⟩
 rintro ⟨ov,H6⟩ φ6 _ ⟨rfl,hz6,hM6,nU⟩;dsimp only at hz6 hM6 nU ⊢;clear hz5 hM5 rQ z1;conv=>whnf
 refine aC.cut (α:=Hp) (fun _=>[(13,slc H6.next 0 b b),(12,int a),(11,slc rst 0 L.length L.length),(10,bL M),(9,ptr Z 0),(8,ptr R 0),(0,int b),(2,fo),(3,fn)]) (fun x H7=>x = H7∧MZ H x 25 Z ov nv ((L.take (a + 1)).map out) us (rowsOf next b L a) [int b,ov,nv] [pl M,slc rst 0 L.length L.length,slc H6.next 0 b b]∧dS x M dB L∧bD H x 147 2 (slc rst 0 L.length L.length) L.length (fl2 L)∧x.at H6.next = some (.row 3 true (dH next b L s 0))) ?_ ?_
 ·conv=>whnf
  refine ⟨⟨by omega,by omega,by omega,by omega⟩,?_⟩;conv=>whnf
  have gl7:aA H6 (H6.lay (.row 3 true (times [int 0] (b:Int).toNat))):=aA.lay _ _;refine ⟨_,⟨rfl,rfl,rfl,rfl,rfl,rfl,rfl,rfl,rfl,trivial⟩,⟨rfl,hz6.add gl7 (i:=2) rfl fun r e=>by cases e; exact ⟨Nat.le_refl _,by rw [Hp.bF]; omega⟩,hM6.ext gl7,nU.ext gl7,?_⟩,rfl⟩;rw [qG];exact Hp.ak _ _
 rintro H7 φ7 _ ⟨rfl,hz7,hM7,IB,aW7⟩;have hnW:=hz6.gr.next;have Rp:∃ W,H6.next = W:=⟨_,rfl⟩;obtain ⟨W,eW⟩:=Rp;rw [eW] at hz7 aW7 hnW ⊢;conv=>whnf
 refine aC.cut (α:=Value×Hp) (fun x=>[(13,slc W 0 b b),(12,int a),(11,x.1),(10,bL M),(9,ptr Z 0),(8,ptr R 0),(0,int b),(2,fo),(3,fn)]) (fun x H8=>x.2 = H8∧MZ H x.2 25 Z ov nv ((L.take (a + 1)).map out) us (rowsOf next b L a) [int b,ov,nv] [pl M,x.1,slc W 0 b b]∧dS x.2 M dB (notes L (outs next b s))∧bD H x.2 147 2 x.1 (notes L (outs next b s)).length (fl2 (notes L (outs next b s)))∧x.2.at W = some (.row 3 true (dH next b (notes L (outs next b s)) s b))) ?_ ?_;rotate_left
 ·rintro ⟨st8,H8⟩ φ8 _ ⟨rfl,hz8,hM8,iG,aW8⟩;dsimp only at hz8 hM8 iG aW8 ⊢;have hpre:=gJ (outs next b s) L;obtain ⟨r8,e8⟩:=hpre;have rO:∃ L',notes L (outs next b s) = L':=⟨_,rfl⟩;obtain ⟨L',eL'⟩:=rO;rw [eL'] at hM8 iG aW8 hq2 e8;have hrows:=oM hq.met hq.le e8;have xB:L'[a]? = some s:=by rw [e8,List.getElem?_append_left haL]; exact hs
  have htk:L'.take (a + 1) = L.take (a + 1):=by rw [e8,List.take_append_of_le_length (by omega)]
  have hbu:Built H H8 3 (slc W 0 b b) (rowOf next b L' s):=by
   refine .inr ⟨W,?_,by omega,true,?_⟩
   ·rw [show (rowOf next b L' s).length = b from by unfold rowOf; rw [List.length_map,List.length_range]]
   ·rw [aW8,qF]
  have hnv:=hz8.jO;obtain ⟨ay,eny⟩:=hnv;rw [hNl] at eny;subst eny;have hs8:=iG.slice;obtain ⟨as8,rfl,-⟩:=hs8;have z2:cellAt H8 Z 2 = some (.slice ay a a):=bA hz8.z rfl;conv=>whnf
  refine ⟨_,z2,?_⟩;conv=>whnf
  refine hz8.yT (i:=2) (by omega) rfl hbu ?_;intro nv9 H9 IC hz9 kv9;obtain ⟨a9,n9,rfl⟩:=IC;have jQ:=hz9.put [int b,ov,.slice a9 n9 n9];conv=>whnf
  refine ⟨rfl,_,dQ hz9.z (by simp) rfl,?_⟩;conv=>whnf
  have eN:rowsOf next b L a ++ [rowOf next b L' s] = rowsOf next b L' (a + 1):=by
   rw [← hrows];unfold rowsOf;rw [gK xB,List.map_append]; rfl
  have yY:=jQ.1;rw [eN,← htk] at yY;exact ⟨(L',_,ov,_,_,_),⟨rfl,rfl,rfl,rfl,rfl,rfl,rfl,rfl,trivial⟩,⟨rfl,hq2,yY,jQ.2.map (by simp) (kv9.map (by simp) hM8),jQ.2.dA mem1 (kv9.dA mem1 iG)⟩,rfl⟩
 conv=>whnf
 refine aC.go ?_;conv=>whnf
 refine bT (α:=Nat×Value×Hp) (fun x=>[(46,int x.1),(45,int b),(13,slc W 0 b b),(12,int a),(11,x.2.1),(10,bL M),(9,ptr Z 0),(8,ptr R 0),(0,int b),(2,fo),(3,fn)]) (fun x=>x.2.2) (fun x=>x.1≤b∧MZ H x.2.2 25 Z ov nv ((L.take (a + 1)).map out) us (rowsOf next b L a) [int b,ov,nv] [pl M,x.2.1,slc W 0 b b]∧dS x.2.2 M dB (notes L (dI next s x.1))∧bD H x.2.2 147 2 x.2.1 (notes L (dI next s x.1)).length (fl2 (notes L (dI next s x.1)))∧x.2.2.at W = some (.row 3 true (dH next b (notes L (dI next s x.1)) s x.1))) (fun x=>b - x.1) (0,slc rst 0 L.length L.length,H7) ⟨Nat.zero_le _,hz7,hM7,IB,aW7⟩ ⟨rfl,rfl,rfl,rfl,rfl,rfl,rfl,rfl,rfl,rfl,rfl,trivial⟩ (Hp.Le.refl _) ?_;rintro ⟨d,st8,H8⟩ φ8 ⟨hd,hz8,hM8,iG,aW8⟩;dsimp only at hd hz8 hM8 iG aW8 ⊢;clear hz7 hM7 IB aW7;conv=>whnf
 repeat (refine aC.go ?_; conv=>whnf)
 refine dJ (fun q2=>?_) (fun q2=>?_);rotate_left
 ·have:d = b:=by omega
  subst this;conv=>whnf
  exact ⟨(st8,H8),⟨rfl,rfl,rfl,rfl,rfl,rfl,rfl,rfl,rfl,trivial⟩,⟨rfl,hz8,hM8,iG,aW8⟩,rfl⟩
 have hdb:d < b:=by omega
 have hpre:=gJ (dI next s d) L;obtain ⟨r8,e8⟩:=hpre;have Dj:=iP hU hq hsU hd;have kJ:=iP hU hq hsU (d:=d + 1) (by omega);have Dk:∀ j,j < d→next s j ∈ notes L (dI next s d):=fun j hj=>fZ (vH hj);rw [jk,iF] at kJ;have hsucc:notes L (dI next s (d + 1)) = note (notes L (dI next s d)) (next s d):=by rw [jk,iF]
 have rO:∃ L',notes L (dI next s d) = L':=⟨_,rfl⟩;obtain ⟨L',eL'⟩:=rO;rw [eL'] at hM8 iG aW8 e8 Dj kJ Dk hsucc;have xB:L'[a]? = some s:=by rw [e8,List.getElem?_append_left haL]; exact hs
 have Rs:=iG.slice;obtain ⟨as8,rfl,-⟩:=Rs;have Bo:=vF iG xB;obtain ⟨rs8,Rt,Bo⟩:=Bo;cases Rt
 have abj:a < L'.length:=by rw [e8,List.length_append]; omega
 conv=>whnf
 refine aC.go ?_;conv=>whnf
 refine aC.cut (α:=Value×Hp) (fun x=>[(46,int d),(45,int b),(13,slc W 0 b b),(12,int a),(11,x.1),(10,bL M),(9,ptr Z 0),(8,ptr R 0),(0,int b),(2,fo),(3,fn)]) (fun x H9=>x.2 = H9∧MZ H x.2 25 Z ov nv ((L.take (a + 1)).map out) us (rowsOf next b L a) [int b,ov,nv] [pl M,x.1,slc W 0 b b]∧dS x.2 M dB (note L' (next s d))∧bD H x.2 147 2 x.1 (note L' (next s d)).length (fl2 (note L' (next s d)))∧x.2.at W = some (.row 3 true (dH next b (note L' (next s d)) s (d + 1)))) ?_ ?_;rotate_left
 ·rintro ⟨st9,H9⟩ φ9 _ ⟨rfl,hz9,hM9,oN,aW9⟩;dsimp only at hz9 hM9 oN aW9 ⊢;rw [← hsucc] at hM9 oN aW9;conv=>whnf
  refine ⟨((d + 1:Nat):Int),wie (by omega) (by omega),?_⟩;conv=>whnf
  exact Rnd.mk (d + 1,st9,H9) ⟨by show d + 1≤b; omega,hz9,hM9,oN,aW9⟩ (by show b - (d + 1) < b - d; omega) ⟨rfl,rfl,rfl,rfl,rfl,rfl,rfl,rfl,rfl,rfl,rfl,trivial⟩ (Hp.Le.refl _) rfl
 have hext:∃ t,next s d = t:=⟨_,rfl⟩;obtain ⟨t,et⟩:=hext;have hn2:=hn.2 s hsU d hdb H8 (gH.trans hz8.gr);rw [et] at kJ hn2 ⊢;conv=>whnf
 refine aC.go ?_;conv=>whnf
 refine aC.cut (α:=Nat×Hp) (fun x=>[(15,ptr x.1 0),(14,int d),(46,int d),(45,int b),(13,slc W 0 b b),(12,int a),(11,slc rs8 0 L'.length L'.length),(10,bL M),(9,ptr Z 0),(8,ptr R 0),(0,int b),(2,fo),(3,fn)]) (fun x H9=>x.2 = H9∧aA H8 x.2∧x.2.at x.1 = some (.row 147 true [int t.1,int t.2])∧H8.next≤x.1) ?_ ?_
 ·conv=>whnf
  refine ⟨rfl,⟨by omega,by omega⟩,?_⟩;conv=>whnf
  refine ⟨_,Bo,?_⟩;rw [← efn];conv=>whnf
  refine ⟨hn.1,?_⟩;refine aJ.mono hn2 ?_;rintro _ H9 ⟨rfl,g9⟩;unfold dB;conv=>whnf
  refine ⟨rfl,_,bX (vs:=[int t.1,int t.2]) rfl rfl rfl,?_⟩;conv=>whnf
  exact ⟨(H9.next,_),⟨rfl,rfl,rfl,rfl,rfl,rfl,rfl,rfl,rfl,rfl,rfl,rfl,rfl,trivial⟩,⟨rfl,g9.bH _,Hp.ak _ _,g9.next⟩,rfl⟩
 rintro ⟨x15,H9⟩ φ9 _ ⟨rfl,g9,aK,Jz⟩;dsimp only at g9 aK Jz ⊢;have Po:ad (slc rs8 0 L'.length L'.length)≠some x15:=fun e=>by
  have h1:=(iG.iU rs8 rfl).2;cases e
  omega
 have hz9:=hz8.ext g9;have hM9:=hM8.ext g9;have oN:=iG.ext g9;have aW9:=g9.at_ _ _ aW8;have hgW:=hz8.gr.next;conv=>whnf
 refine aC.cut (α:=Value×Hp) (fun x=>[(15,ptr x15 0),(14,int d),(46,int d),(45,int b),(13,slc W 0 b b),(12,int a),(11,x.1),(10,bL M),(9,ptr Z 0),(8,ptr R 0),(0,int b),(2,fo),(3,fn)]) (fun x H10=>x.2 = H10∧MZ H x.2 25 Z ov nv ((L.take (a + 1)).map out) us (rowsOf next b L a) [int b,ov,nv] [pl M,x.1,slc W 0 b b]∧dS x.2 M dB (note L' t)∧bD H x.2 147 2 x.1 (note L' t).length (fl2 (note L' t))∧x.2.at W = some (.row 3 true (dH next b L' s d))∧x.2.at x15 = some (.row 147 true [int t.1,int t.2])) ?_ ?_;rotate_left
 ·rintro ⟨Zz,H10⟩ Pp _ ⟨rfl,jQ,nQ,jG,rR,uj⟩;dsimp only at jQ nQ jG rR uj ⊢;have Ru:t ∈ note L' t:=nN L' t;have Dl:=rH L' t;obtain ⟨r10,e10⟩:=Dl;have hstep:=qE (b:=b) (L':=note L' t) Dk e10;rw [et] at hstep;have IE:=jG.slice;obtain ⟨abk,rfl,-⟩:=IE;conv=>whnf
  refine ⟨_,aI uj rfl,?_⟩;conv=>whnf
  refine fM tM dM t3 z3 Ir (k:=t) rfl rfl nQ (jP Ru) ?_;conv=>whnf
  refine ⟨rfl,⟨by omega,by omega⟩,?_⟩;conv=>whnf
  refine ⟨rfl,_,jd rR (by unfold dH; rw [jJ]; omega) rfl,?_⟩;conv=>whnf
  have hx:Kx (ad (slc W 0 b b)) H10 (H10.set W (.row 3 true (dH next b (note L' t) s (d + 1)))):=Kx.set _ _ _;have htz:=jQ.touch (i:=2) rfl hx (jQ.gr.bQ _ (by omega)) (by rw [Hp.Cq]; exact Nat.le_refl _);rw [← hstep] at htz;refine ⟨(_,H10.set W (.row 3 true ((dH next b L' s d).set d (int (nT (note L' t) t:Nat))))),⟨rfl,rfl,rfl,rfl,rfl,rfl,rfl,rfl,rfl,rfl,rfl,trivial⟩,⟨rfl,htz.1,htz.2.map (by simp) nQ,htz.2.dA mem1 jG,?_⟩,rfl⟩;show (H10.set W _).at W = _;rw [Hp.bB _ (Hp.aU rR),hstep]
 by_cases hin:t ∈ L'
 ·have jF:note L' t = L':=by unfold note; rw [if_pos hin]
  rw [jF];conv=>whnf
  refine aC.go ?_;conv=>whnf
  refine ⟨_,aI aK rfl,?_⟩;conv=>whnf
  refine gy tM dM t3 z3 Ir (k:=t) rfl rfl hM9 (jP hin) ?_;conv=>whnf
  repeat (refine aC.go ?_; conv=>whnf)
  exact ⟨(_,H9),⟨rfl,rfl,rfl,rfl,rfl,rfl,rfl,rfl,rfl,rfl,rfl,rfl,rfl,trivial⟩,⟨rfl,hz9,hM9,oN,aW9,aK⟩,rfl⟩
 ·have jF:note L' t = L' ++ [t]:=by unfold note; rw [if_neg hin]
  have hnl:(L' ++ [t]).length = L'.length + 1:=by rw [List.length_append]; rfl
  rw [jF] at kJ ⊢;conv=>whnf
  refine aC.go ?_;conv=>whnf
  refine ⟨_,aI aK rfl,?_⟩;conv=>whnf
  refine gI tM dM t3 z3 Ir (k:=t) rfl rfl hM9 (pz hin) ?_;conv=>whnf
  repeat (refine aC.go ?_; conv=>whnf)
  refine ⟨_,aI aK rfl,?_⟩;conv=>whnf
  refine iO tM dM Ir (k:=t) (v:=int L'.length) rfl rfl rfl hM9 ?_;intro H10 nQ y10;have htz:=hz9.touch (i:=0) (v:=pl M) rfl (Kx.keeps y10) (y10.grows hz9.gr rP) (by rw [y10.next]; exact Nat.le_refl _);have Dm:=dS.add hin nQ;have jG:=htz.2.dA (v:=slc rs8 0 L'.length L'.length) mem1 oN;have hMW:M≠W:=fun e=>by
   have:=hz9.sep.ap 3 5 (pl M) (slc W 0 b b) (by decide) rfl rfl M rfl;exact this (by rw [e]; rfl)
  have rR:=y10.at_ _ _ (fun e=>hMW e.symm) aW9;have hzz:=htz.1;have uj:H10.at x15 = some (.row 147 true [int t.1,int t.2]):=y10.at_ _ _ (fun e=>by
   obtain ⟨_,_,h1,_⟩:=hM8;have h2:=Hp.aU h1;have h3:=Jz;omega) aK
  conv=>whnf
  refine ⟨_,aI uj rfl,?_⟩;conv=>whnf
  refine hzz.Pm (i:=1) (n:=L'.length) (cl:=fl2 L') (new:=[int t.1,int t.2]) rfl jG rfl rfl (by omega) (by omega) ?_;intro ZA H11 wV Dn Bp Dp Rv;obtain ⟨a11,n11,rfl⟩:=wV;have Mw:=Dp.map (M:=M) (by simp) Dm;have Rw:=Dp.at_ (v:=slc W 0 b b) mem2 rfl rR;conv=>whnf
  exact ⟨(_,H11),⟨rfl,rfl,rfl,rfl,rfl,rfl,rfl,rfl,rfl,rfl,rfl,rfl,rfl,trivial⟩,⟨rfl,Bp,Mw,by rw [Dc,hnl]; exact Dn,Rw,Rv.at_ uj Po⟩,rfl⟩
end
end Go.Proofs.Ytedneplaibmppaa
namespace Go.Proofs.Ytedneplaibmppaa
open Go.Rx Go.RowKit
attribute [local irreducible] E iJ cellAt bJ storeAt callable dh dG dO findKey dZ bP Hp.at Hp.set Hp.lay dL cO setAt aJ dx bO dz Rnd gq fB gY Int.tmod Int.tdiv Int.fdiv
section
variable [bC]
attribute [local irreducible] sameAt j6
theorem Dq (b:Nat)(s0:Int)(out:Int→Int)(next:Int→Nat→Int)(U:List (Int))(go gn:FuncId)(yU yV:List Value)(h:Hp)(hb:1≤b∧b≤1000)(hU:wR next b U)(hs0:s0 ∈ U)(hUl:U.length≤100000)(ho:Ms go yU encI out U h)(hn:Di gn yV encI next b U h):aJ E 70 [int b,encI s0,.func (.func go) ⟨[]⟩ ⟨yU⟩,.func (.func gn) ⟨[]⟩ ⟨yV⟩] h (fun r h'=>jY h h' r (built b s0 out next).i∧aA h h'):=by
 obtain ⟨i3,t3,-,z3⟩:=ty3;obtain ⟨iM,tM,dM⟩:=Pg;have Iw:∃ fo,Value.func (.func go) ⟨[]⟩ ⟨yU⟩ = fo:=⟨_,rfl⟩;obtain ⟨fo,efo⟩:=Iw;have Iy:∃ fn,Value.func (.func gn) ⟨[]⟩ ⟨yV⟩ = fn:=⟨_,rfl⟩;obtain ⟨fn,efn⟩:=Iy;rw [efo,efn];refine enter70 (by simp) ?_;conv=>whnf
 refine aC.cut (α:=Nat×Hp) (fun s=>[(8,ptr s.1 0),(1,int s0),(0,int b),(2,fo),(3,fn)]) (fun s H=>s.2 = H∧aA h s.2∧s.2.at s.1 = some (.row 25 true [int 0,aN,aN])∧h.next≤s.1∧s.1 < s.2.next) ?_ ?_
 ·conv=>whnf
  exact ⟨(h.next,_),⟨rfl,rfl,rfl,rfl,rfl,trivial⟩,⟨rfl,aA.lay _ _,Hp.ak _ _,Nat.le_refl _,by dsimp only; rw [Hp.bF]; omega⟩,rfl⟩
 rintro ⟨R,H⟩ φ1 _ ⟨rfl,gH,aR,hRh,hRn⟩;dsimp only at gH aR hRh hRn ⊢;conv=>whnf
 refine aC.cut (α:=Hp) (fun _=>[(9,ptr H.next 0),(8,ptr R 0),(0,int b),(1,int s0),(2,fo),(3,fn)]) (fun x H2=>x = H2∧MZ H H2 25 H.next aN aN [] [] [] [int b,aN,aN] []) ?_ ?_
 ·conv=>whnf
  refine ⟨rfl,_,bX (vs:=[int b,aN,aN]) rfl rfl rfl,?_⟩;conv=>whnf
  exact ⟨_,⟨rfl,rfl,rfl,rfl,rfl,rfl,trivial⟩,⟨rfl,MZ.start (.refl _)⟩,rfl⟩
 rintro H2 φ2 _ ⟨rfl,hz2⟩;have uh:∃ Z,H.next = Z:=⟨_,rfl⟩;obtain ⟨Z,eZ⟩:=uh;rw [eZ] at hz2 ⊢;conv=>whnf
 refine aC.cut (α:=Nat×Hp) (fun s=>[(10,bL s.1),(9,ptr Z 0),(8,ptr R 0),(0,int b),(1,int s0),(2,fo),(3,fn)]) (fun s H3=>s.2 = H3∧MZ H s.2 25 Z aN aN [] [] [] [int b,aN,aN] [pl s.1]∧dS s.2 s.1 encI [s0]∧H.next≤s.1) ?_ ?_
 ·conv=>whnf
  refine mQ tM dM Bn (k:=s0) (v:=int 0) (n:=0) rfl rfl rfl (MapAt.new _) ?_;intro H3 hM3 y3;have gl3:aA H2 (H2.lay (.map [] 0)):=aA.lay _ _;have gk3:aA H2 H3:=⟨by rw [y3.next]; exact gl3.next,fun r o e=>y3.at_ r o (by have:=Hp.aU e; omega) (gl3.at_ r o e)⟩;have hz3:=(hz2.more gk3 (v:=pl H2.next) fun r e=>by cases e; exact ⟨Nat.le_refl _,by rw [y3.next,Hp.bF]; omega⟩);conv=>whnf
  exact ⟨(H2.next,H3),⟨rfl,rfl,rfl,rfl,rfl,rfl,rfl,trivial⟩,⟨rfl,hz3,hM3.congr fun k=>by
   unfold fN;by_cases e:k = s0
   ·rw [if_pos e,if_pos (by rw [e]; simp),e]; simp
   ·rw [if_neg e,if_neg (by simpa using e)],hz2.gr.next⟩,rfl⟩
 rintro ⟨M,H3⟩ φ3 _ ⟨rfl,hz3,hM3,rP⟩;dsimp only at hz3 hM3 rP ⊢;conv=>whnf
 refine aC.cut (α:=Value×Hp) (fun s=>[(11,s.1),(10,bL M),(9,ptr Z 0),(8,ptr R 0),(0,int b),(2,fo),(3,fn)]) (fun s H4=>s.2 = H4∧MZ H s.2 25 Z aN aN [] [] [] [int b,aN,aN] [pl M,s.1,aN]∧dS s.2 M encI [s0]∧bD H s.2 3 1 s.1 [s0].length (fl1 [s0])) ?_ ?_
 ·conv=>whnf
  have gl4:aA H3 (H3.lay (.row 3 true (fl1 [s0]))):=aA.lay _ _;have hz4:=(hz3.more gl4 (v:=slc H3.next 0 1 1) fun r e=>by cases e; exact ⟨Nat.le_refl _,by rw [Hp.bF]; omega⟩).more (.refl _) (v:=aN) fun r e=>by cases e
  exact ⟨(slc H3.next 0 1 1,_),⟨rfl,rfl,rfl,rfl,rfl,rfl,rfl,trivial⟩,⟨rfl,hz4,hM3.ext gl4,⟨rfl,.inr ⟨H3.next,rfl,hz3.gr.next,true,Hp.ak _ _⟩⟩⟩,rfl⟩
 rintro ⟨st,H4⟩ φ4 _ ⟨rfl,hz4,hM4,Iz⟩;dsimp only at hz4 hM4 Iz ⊢;conv=>whnf
 refine aC.cut (α:=Value×Value×List Int×List Value×List (List Int)×Hp) (fun s=>[(9,ptr Z 0),(8,ptr R 0)]) (fun s H5=>s.2.2.2.2.2 = H5∧∃ rs,MZ H s.2.2.2.2.2 25 Z s.1 s.2.1 s.2.2.1 s.2.2.2.1 s.2.2.2.2.1 [int b,s.1,s.2.1] rs∧(built b s0 out next).i = ⟨b,s.2.2.1,s.2.2.2.2.1⟩) ?_ ?_;rotate_left
 ·rintro ⟨ov,nv,O,us,N,H5⟩ φ5 _ ⟨rfl,rs,hz5,eb⟩;dsimp only at hz5 eb ⊢;have hov:=hz5.jE;obtain ⟨ax,rfl⟩:=hov;have hnv:=hz5.jO;obtain ⟨ay,rfl⟩:=hnv;have aR5:=hz5.gr.at_ _ _ aR;conv=>whnf
  repeat (refine aC.go ?_; conv=>whnf)
  refine ⟨_,aI hz5.z rfl,?_⟩;conv=>whnf
  refine ⟨rfl,_,bE (vs:=[int b,.slice ax O.length O.length,.slice ay N.length N.length]) aR5 rfl rfl rfl,?_⟩;conv=>whnf
  repeat (refine aC.go ?_; conv=>whnf)
  obtain ⟨i25,t25,jl,jm⟩:=C8;refine fu (r:=R) (o:=0) (cs:=[int b,.slice ax O.length O.length,.slice ay N.length N.length]) rfl t25 jl ?_ ?_
  ·rw [jm];exact aI (Hp.bB _ (Hp.aU aR5)) rfl
  ·rw [eb];exact hz5.leave (h:=h) (R:=R) hRn hRh gH b (.row 25 true [int b,.slice ax O.length O.length,.slice ay N.length N.length])
 conv=>whnf
 refine aC.go ?_;conv=>whnf
 refine bT (α:=Nat×List (Int)×Value×Value×Value×List Value×Hp) (fun s=>[(12,int s.1),(11,s.2.2.1),(10,bL M),(9,ptr Z 0),(8,ptr R 0),(0,int b),(2,fo),(3,fn)]) (fun s=>s.2.2.2.2.2.2) (fun s=>Bq next b s0 U s.2.1 s.1∧MZ H s.2.2.2.2.2.2 25 Z s.2.2.2.1 s.2.2.2.2.1 ((s.2.1.take s.1).map out) s.2.2.2.2.2.1 (rowsOf next b s.2.1 s.1) [int b,s.2.2.2.1,s.2.2.2.2.1] [pl M,s.2.2.1,aN]∧dS s.2.2.2.2.2.2 M encI s.2.1∧bD H s.2.2.2.2.2.2 3 1 s.2.2.1 s.2.1.length (fl1 s.2.1)) (fun s=>100000 - s.1) (0,[s0],st,aN,aN,[],H4) ⟨Bq.start hU hs0,hz4,hM4,Iz⟩ ⟨rfl,rfl,rfl,rfl,rfl,rfl,rfl,rfl,trivial⟩ (Hp.Le.refl _) ?_;rintro ⟨a,L,st,ov,nv,us,H5⟩ φ5 ⟨hq,hz5,hM5,rQ⟩;dsimp only at hq hz5 hM5 rQ ⊢;have Vo:=hq.few;have hsk:=rQ.slice;obtain ⟨as5,rfl,-⟩:=hsk;have hql:=hq.le;conv=>whnf
 repeat (refine aC.go ?_; conv=>whnf)
 refine dJ (fun q1=>?_) (fun q1=>?_);rotate_left
 ·have hle:L.length≤a:=by omega
  have ea:a = L.length:=by omega
  have hbd:=hq.done hle;subst ea;rw [List.take_length] at hz5;conv=>whnf
  exact ⟨(ov,nv,L.map out,us,rowsOf next b L L.length,H5),⟨rfl,rfl,trivial⟩,⟨rfl,_,hz5,Dh hbd⟩,rfl⟩
 have haL:a < L.length:=by omega
 have yX:∃ s,L[a]? = some s:=⟨_,List.getElem?_eq_getElem haL⟩;obtain ⟨s,hs⟩:=yX;have hsU:=hq.sub s (List.mem_of_getElem? hs);have hOl:((L.take a).map out).length = a:=by rw [List.length_map,List.length_take]; omega
 have hNl:(rowsOf next b L a).length = a:=by unfold rowsOf; rw [List.length_map,List.length_take]; omega
 have hq2:=hq.next hU hs;conv=>whnf
 refine aC.cut (α:=List (Int)×Value×Value×Value×List Value×Hp) (fun s=>[(12,int a),(11,s.2.1),(10,bL M),(9,ptr Z 0),(8,ptr R 0),(0,int b),(2,fo),(3,fn)]) (fun s H6=>s.2.2.2.2.2 = H6∧Bq next b s0 U s.1 (a + 1)∧MZ H s.2.2.2.2.2 25 Z s.2.2.1 s.2.2.2.1 ((s.1.take (a + 1)).map out) s.2.2.2.2.1 (rowsOf next b s.1 (a + 1)) [int b,s.2.2.1,s.2.2.2.1] [pl M,s.2.1,aN]∧dS s.2.2.2.2.2 M encI s.1∧bD H s.2.2.2.2.2 3 1 s.2.1 s.1.length (fl1 s.1)) ?_ ?_;rotate_left
 ·rintro ⟨L6,st6,ov6,nv6,us6,H6⟩ φ6 _ ⟨rfl,hq6,hz6,hM6,nU⟩;dsimp only at hq6 hz6 hM6 nU ⊢;conv=>whnf
  refine ⟨((a + 1:Nat):Int),wie (by omega) (by omega),?_⟩;conv=>whnf
  exact Rnd.mk (a + 1,L6,st6,ov6,nv6,us6,H6) ⟨hq6,hz6,hM6,nU⟩ (by show 100000 - (a + 1) < 100000 - a; omega) ⟨rfl,rfl,rfl,rfl,rfl,rfl,rfl,rfl,trivial⟩ (Hp.Le.refl _) rfl
 have hsc:=Tp rQ hs;obtain ⟨rst,Mv,hsc⟩:=hsc;cases Mv
 have z1:cellAt H5 Z 1 = some ov:=bA hz5.z rfl;conv=>whnf
 refine aC.cut (α:=Value×Hp) (fun x=>[(12,int a),(11,slc rst 0 L.length L.length),(10,bL M),(9,ptr Z 0),(8,ptr R 0),(0,int b),(2,fo),(3,fn)]) (fun x H6=>x.2 = H6∧MZ H x.2 25 Z x.1 nv ((L.take (a + 1)).map out) us (rowsOf next b L a) [int b,x.1,nv] [pl M,slc rst 0 L.length L.length,aN]∧dS x.2 M encI L∧bD H x.2 3 1 (slc rst 0 L.length L.length) L.length (fl1 L)) ?_ ?_
 ·have hov:=hz5.jE;obtain ⟨ax,eov⟩:=hov;rw [hOl] at eov;subst eov;conv=>whnf
  refine ⟨_,z1,?_⟩;conv=>whnf
  refine ⟨rfl,⟨by omega,by omega⟩,?_⟩;conv=>whnf
  refine ⟨_,hsc,?_⟩;rw [← efo];conv=>whnf
  refine ⟨ho.1,?_⟩;refine aJ.mono (ho.2 s hsU H5 (gH.trans hz5.gr)) ?_;rintro _ H6 ⟨rfl,g6⟩;have hz6:=hz5.ext g6;have f1:=g6.cell z1;have f2:cellAt (H6.lay (.row 3 true [int (out s)])) Z 1 = some (.slice ax a a):=(aA.lay _ _).cell f1;conv=>whnf
  refine hz6.EW (by omega) ?_;intro ov7 H7 Eo hz7 kv7;obtain ⟨a7,n7,rfl⟩:=Eo;have f3:cellAt H7 Z 1 = some (.slice ax a a):=bA hz7.z rfl;conv=>whnf
  refine ⟨rfl,_,dQ hz7.z (by simp) rfl,?_⟩;conv=>whnf
  refine ⟨?_,?_⟩
  ·repeat' (first | exact True.intro | (refine And.intro ?_ ?_ <;> (conv=>whnf)))
   all_goals first
    | exact aj (h2:=_) rfl (aM _)
    | exact aj (h2:=_) rfl (bS _ _)
    | exact aj (h2:=_) rfl (aD _ _ _)
    | exact aj (h2:=_) rfl (ji _ _)
    | exact aj (h2:=_) (congrArg (hval _) z1) (aM _)
    | exact aj (h2:=_) (congrArg (hval _) z1) (aD _ _ _)
    | exact aj (h2:=_) (congrArg (hval _) f1) (aM _)
    | exact aj (h2:=_) (congrArg (hval _) f1) (aD _ _ _)
    | exact aj (h2:=_) (congrArg (hval _) f2) (aM _)
    | exact aj (h2:=_) (congrArg (hval _) f2) (aD _ _ _)
    | exact aj (h2:=_) (congrArg (hval _) f3) (aM _)
    | exact aj (h2:=_) (congrArg (hval _) f3) (aD _ _ _)
    | exact ⟨_,rfl,Hp.ak _ _,rfl⟩
  have hz8:=hz7.put [int b,.slice a7 n7 n7,nv];have eO:(L.take a).map out ++ [out s] = (L.take (a + 1)).map out:=by rw [gK hs,List.map_append]; rfl
  have xA:=hz8.1;rw [eO] at xA;exact ⟨(_,_),⟨rfl,rfl,rfl,rfl,rfl,rfl,rfl,rfl,trivial⟩,⟨rfl,xA,hz8.2.map (by simp) (kv7.map (by simp) (hM5.ext g6)),hz8.2.dA mem1 (kv7.dA mem1 (rQ.ext g6))⟩,rfl⟩
 rintro ⟨ov,H6⟩ φ6 _ ⟨rfl,hz6,hM6,nU⟩;dsimp only at hz6 hM6 nU ⊢;clear hz5 hM5 rQ z1;conv=>whnf
 refine aC.cut (α:=Hp) (fun _=>[(13,slc H6.next 0 b b),(12,int a),(11,slc rst 0 L.length L.length),(10,bL M),(9,ptr Z 0),(8,ptr R 0),(0,int b),(2,fo),(3,fn)]) (fun x H7=>x = H7∧MZ H x 25 Z ov nv ((L.take (a + 1)).map out) us (rowsOf next b L a) [int b,ov,nv] [pl M,slc rst 0 L.length L.length,slc H6.next 0 b b]∧dS x M encI L∧bD H x 3 1 (slc rst 0 L.length L.length) L.length (fl1 L)∧x.at H6.next = some (.row 3 true (dH next b L s 0))) ?_ ?_
 ·conv=>whnf
  refine ⟨⟨by omega,by omega,by omega,by omega⟩,?_⟩;conv=>whnf
  have gl7:aA H6 (H6.lay (.row 3 true (times [int 0] (b:Int).toNat))):=aA.lay _ _;refine ⟨_,⟨rfl,rfl,rfl,rfl,rfl,rfl,rfl,rfl,rfl,trivial⟩,⟨rfl,hz6.add gl7 (i:=2) rfl fun r e=>by cases e; exact ⟨Nat.le_refl _,by rw [Hp.bF]; omega⟩,hM6.ext gl7,nU.ext gl7,?_⟩,rfl⟩;rw [qG];exact Hp.ak _ _
 rintro H7 φ7 _ ⟨rfl,hz7,hM7,IB,aW7⟩;have hnW:=hz6.gr.next;have Rp:∃ W,H6.next = W:=⟨_,rfl⟩;obtain ⟨W,eW⟩:=Rp;rw [eW] at hz7 aW7 hnW ⊢;conv=>whnf
 refine aC.cut (α:=Value×Hp) (fun x=>[(13,slc W 0 b b),(12,int a),(11,x.1),(10,bL M),(9,ptr Z 0),(8,ptr R 0),(0,int b),(2,fo),(3,fn)]) (fun x H8=>x.2 = H8∧MZ H x.2 25 Z ov nv ((L.take (a + 1)).map out) us (rowsOf next b L a) [int b,ov,nv] [pl M,x.1,slc W 0 b b]∧dS x.2 M encI (notes L (outs next b s))∧bD H x.2 3 1 x.1 (notes L (outs next b s)).length (fl1 (notes L (outs next b s)))∧x.2.at W = some (.row 3 true (dH next b (notes L (outs next b s)) s b))) ?_ ?_;rotate_left
 ·rintro ⟨st8,H8⟩ φ8 _ ⟨rfl,hz8,hM8,iG,aW8⟩;dsimp only at hz8 hM8 iG aW8 ⊢;have hpre:=gJ (outs next b s) L;obtain ⟨r8,e8⟩:=hpre;have rO:∃ L',notes L (outs next b s) = L':=⟨_,rfl⟩;obtain ⟨L',eL'⟩:=rO;rw [eL'] at hM8 iG aW8 hq2 e8;have hrows:=oM hq.met hq.le e8;have xB:L'[a]? = some s:=by rw [e8,List.getElem?_append_left haL]; exact hs
  have htk:L'.take (a + 1) = L.take (a + 1):=by rw [e8,List.take_append_of_le_length (by omega)]
  have hbu:Built H H8 3 (slc W 0 b b) (rowOf next b L' s):=by
   refine .inr ⟨W,?_,by omega,true,?_⟩
   ·rw [show (rowOf next b L' s).length = b from by unfold rowOf; rw [List.length_map,List.length_range]]
   ·rw [aW8,qF]
  have hnv:=hz8.jO;obtain ⟨ay,eny⟩:=hnv;rw [hNl] at eny;subst eny;have hs8:=iG.slice;obtain ⟨as8,rfl,-⟩:=hs8;have z2:cellAt H8 Z 2 = some (.slice ay a a):=bA hz8.z rfl;conv=>whnf
  refine ⟨_,z2,?_⟩;conv=>whnf
  refine hz8.yT (i:=2) (by omega) rfl hbu ?_;intro nv9 H9 IC hz9 kv9;obtain ⟨a9,n9,rfl⟩:=IC;have jQ:=hz9.put [int b,ov,.slice a9 n9 n9];conv=>whnf
  refine ⟨rfl,_,dQ hz9.z (by simp) rfl,?_⟩;conv=>whnf
  have eN:rowsOf next b L a ++ [rowOf next b L' s] = rowsOf next b L' (a + 1):=by
   rw [← hrows];unfold rowsOf;rw [gK xB,List.map_append]; rfl
  have yY:=jQ.1;rw [eN,← htk] at yY;exact ⟨(L',_,ov,_,_,_),⟨rfl,rfl,rfl,rfl,rfl,rfl,rfl,rfl,trivial⟩,⟨rfl,hq2,yY,jQ.2.map (by simp) (kv9.map (by simp) hM8),jQ.2.dA mem1 (kv9.dA mem1 iG)⟩,rfl⟩
 conv=>whnf
 refine aC.go ?_;conv=>whnf
 refine bT (α:=Nat×Value×Hp) (fun x=>[(46,int x.1),(45,int b),(13,slc W 0 b b),(12,int a),(11,x.2.1),(10,bL M),(9,ptr Z 0),(8,ptr R 0),(0,int b),(2,fo),(3,fn)]) (fun x=>x.2.2) (fun x=>x.1≤b∧MZ H x.2.2 25 Z ov nv ((L.take (a + 1)).map out) us (rowsOf next b L a) [int b,ov,nv] [pl M,x.2.1,slc W 0 b b]∧dS x.2.2 M encI (notes L (dI next s x.1))∧bD H x.2.2 3 1 x.2.1 (notes L (dI next s x.1)).length (fl1 (notes L (dI next s x.1)))∧x.2.2.at W = some (.row 3 true (dH next b (notes L (dI next s x.1)) s x.1))) (fun x=>b - x.1) (0,slc rst 0 L.length L.length,H7) ⟨Nat.zero_le _,hz7,hM7,IB,aW7⟩ ⟨rfl,rfl,rfl,rfl,rfl,rfl,rfl,rfl,rfl,rfl,rfl,trivial⟩ (Hp.Le.refl _) ?_;rintro ⟨d,st8,H8⟩ φ8 ⟨hd,hz8,hM8,iG,aW8⟩;dsimp only at hd hz8 hM8 iG aW8 ⊢;clear hz7 hM7 IB aW7;conv=>whnf
 repeat (refine aC.go ?_; conv=>whnf)
 refine dJ (fun q2=>?_) (fun q2=>?_);rotate_left
 ·have:d = b:=by omega
  subst this;conv=>whnf
  exact ⟨(st8,H8),⟨rfl,rfl,rfl,rfl,rfl,rfl,rfl,rfl,rfl,trivial⟩,⟨rfl,hz8,hM8,iG,aW8⟩,rfl⟩
 have hdb:d < b:=by omega
 have hpre:=gJ (dI next s d) L;obtain ⟨r8,e8⟩:=hpre;have Dj:=iP hU hq hsU hd;have kJ:=iP hU hq hsU (d:=d + 1) (by omega);have Dk:∀ j,j < d→next s j ∈ notes L (dI next s d):=fun j hj=>fZ (vH hj);rw [jk,iF] at kJ;have hsucc:notes L (dI next s (d + 1)) = note (notes L (dI next s d)) (next s d):=by rw [jk,iF]
 have rO:∃ L',notes L (dI next s d) = L':=⟨_,rfl⟩;obtain ⟨L',eL'⟩:=rO;rw [eL'] at hM8 iG aW8 e8 Dj kJ Dk hsucc;have xB:L'[a]? = some s:=by rw [e8,List.getElem?_append_left haL]; exact hs
 have Rs:=iG.slice;obtain ⟨as8,rfl,-⟩:=Rs;have Bo:=Tp iG xB;obtain ⟨rs8,Rt,Bo⟩:=Bo;cases Rt
 have abj:a < L'.length:=by rw [e8,List.length_append]; omega
 conv=>whnf
 refine aC.go ?_;conv=>whnf
 refine aC.cut (α:=Value×Hp) (fun x=>[(46,int d),(45,int b),(13,slc W 0 b b),(12,int a),(11,x.1),(10,bL M),(9,ptr Z 0),(8,ptr R 0),(0,int b),(2,fo),(3,fn)]) (fun x H9=>x.2 = H9∧MZ H x.2 25 Z ov nv ((L.take (a + 1)).map out) us (rowsOf next b L a) [int b,ov,nv] [pl M,x.1,slc W 0 b b]∧dS x.2 M encI (note L' (next s d))∧bD H x.2 3 1 x.1 (note L' (next s d)).length (fl1 (note L' (next s d)))∧x.2.at W = some (.row 3 true (dH next b (note L' (next s d)) s (d + 1)))) ?_ ?_;rotate_left
 ·rintro ⟨st9,H9⟩ φ9 _ ⟨rfl,hz9,hM9,oN,aW9⟩;dsimp only at hz9 hM9 oN aW9 ⊢;rw [← hsucc] at hM9 oN aW9;conv=>whnf
  refine ⟨((d + 1:Nat):Int),wie (by omega) (by omega),?_⟩;conv=>whnf
  exact Rnd.mk (d + 1,st9,H9) ⟨by show d + 1≤b; omega,hz9,hM9,oN,aW9⟩ (by show b - (d + 1) < b - d; omega) ⟨rfl,rfl,rfl,rfl,rfl,rfl,rfl,rfl,rfl,rfl,rfl,trivial⟩ (Hp.Le.refl _) rfl
 have hext:∃ t,next s d = t:=⟨_,rfl⟩;obtain ⟨t,et⟩:=hext;have hn2:=hn.2 s hsU d hdb H8 (gH.trans hz8.gr);rw [et] at kJ hn2 ⊢;conv=>whnf
 refine aC.go ?_;conv=>whnf
 refine aC.cut (α:=Hp) (fun x=>[(15,int t),(14,int d),(46,int d),(45,int b),(13,slc W 0 b b),(12,int a),(11,slc rs8 0 L'.length L'.length),(10,bL M),(9,ptr Z 0),(8,ptr R 0),(0,int b),(2,fo),(3,fn)]) (fun x H9=>x = H9∧aA H8 x) ?_ ?_
 ·conv=>whnf
  refine ⟨rfl,⟨by omega,by omega⟩,?_⟩;conv=>whnf
  refine ⟨_,Bo,?_⟩;rw [← efn];conv=>whnf
  refine ⟨hn.1,?_⟩;refine aJ.mono hn2 ?_;rintro _ H9 ⟨rfl,g9⟩;conv=>whnf
  exact ⟨H9,⟨rfl,rfl,rfl,rfl,rfl,rfl,rfl,rfl,rfl,rfl,rfl,rfl,rfl,trivial⟩,⟨rfl,g9⟩,rfl⟩
 rintro H9 φ9 _ ⟨rfl,g9⟩;have hz9:=hz8.ext g9;have hM9:=hM8.ext g9;have oN:=iG.ext g9;have aW9:=g9.at_ _ _ aW8;have hgW:=hz8.gr.next;conv=>whnf
 refine aC.cut (α:=Value×Hp) (fun x=>[(15,int t),(14,int d),(46,int d),(45,int b),(13,slc W 0 b b),(12,int a),(11,x.1),(10,bL M),(9,ptr Z 0),(8,ptr R 0),(0,int b),(2,fo),(3,fn)]) (fun x H10=>x.2 = H10∧MZ H x.2 25 Z ov nv ((L.take (a + 1)).map out) us (rowsOf next b L a) [int b,ov,nv] [pl M,x.1,slc W 0 b b]∧dS x.2 M encI (note L' t)∧bD H x.2 3 1 x.1 (note L' t).length (fl1 (note L' t))∧x.2.at W = some (.row 3 true (dH next b L' s d))) ?_ ?_;rotate_left
 ·rintro ⟨Zz,H10⟩ Pp _ ⟨rfl,jQ,nQ,jG,rR⟩;dsimp only at jQ nQ jG rR ⊢;have Ru:t ∈ note L' t:=nN L' t;have Dl:=rH L' t;obtain ⟨r10,e10⟩:=Dl;have hstep:=qE (b:=b) (L':=note L' t) Dk e10;rw [et] at hstep;have IE:=jG.slice;obtain ⟨abk,rfl,-⟩:=IE;conv=>whnf
  refine fM tM dM t3 z3 Bn (k:=t) rfl rfl nQ (jP Ru) ?_;conv=>whnf
  refine ⟨rfl,⟨by omega,by omega⟩,?_⟩;conv=>whnf
  refine ⟨rfl,_,jd rR (by unfold dH; rw [jJ]; omega) rfl,?_⟩;conv=>whnf
  have hx:Kx (ad (slc W 0 b b)) H10 (H10.set W (.row 3 true (dH next b (note L' t) s (d + 1)))):=Kx.set _ _ _;have htz:=jQ.touch (i:=2) rfl hx (jQ.gr.bQ _ (by omega)) (by rw [Hp.Cq]; exact Nat.le_refl _);rw [← hstep] at htz;refine ⟨(_,H10.set W (.row 3 true ((dH next b L' s d).set d (int (nT (note L' t) t:Nat))))),⟨rfl,rfl,rfl,rfl,rfl,rfl,rfl,rfl,rfl,rfl,rfl,trivial⟩,⟨rfl,htz.1,htz.2.map (by simp) nQ,htz.2.dA mem1 jG,?_⟩,rfl⟩;show (H10.set W _).at W = _;rw [Hp.bB _ (Hp.aU rR),hstep]
 by_cases hin:t ∈ L'
 ·have jF:note L' t = L':=by unfold note; rw [if_pos hin]
  rw [jF];conv=>whnf
  refine aC.go ?_;conv=>whnf
  refine gy tM dM t3 z3 Bn (k:=t) rfl rfl hM9 (jP hin) ?_;conv=>whnf
  repeat (refine aC.go ?_; conv=>whnf)
  exact ⟨(_,H9),⟨rfl,rfl,rfl,rfl,rfl,rfl,rfl,rfl,rfl,rfl,rfl,rfl,rfl,trivial⟩,⟨rfl,hz9,hM9,oN,aW9⟩,rfl⟩
 ·have jF:note L' t = L' ++ [t]:=by unfold note; rw [if_neg hin]
  have hnl:(L' ++ [t]).length = L'.length + 1:=by rw [List.length_append]; rfl
  rw [jF] at kJ ⊢;conv=>whnf
  refine aC.go ?_;conv=>whnf
  refine gI tM dM t3 z3 Bn (k:=t) rfl rfl hM9 (pz hin) ?_;conv=>whnf
  repeat (refine aC.go ?_; conv=>whnf)
  refine iO tM dM Bn (k:=t) (v:=int L'.length) rfl rfl rfl hM9 ?_;intro H10 nQ y10;have htz:=hz9.touch (i:=0) (v:=pl M) rfl (Kx.keeps y10) (y10.grows hz9.gr rP) (by rw [y10.next]; exact Nat.le_refl _);have Dm:=dS.add hin nQ;have jG:=htz.2.dA (v:=slc rs8 0 L'.length L'.length) mem1 oN;have hMW:M≠W:=fun e=>by
   have:=hz9.sep.ap 3 5 (pl M) (slc W 0 b b) (by decide) rfl rfl M rfl;exact this (by rw [e]; rfl)
  have rR:=y10.at_ _ _ (fun e=>hMW e.symm) aW9;have hzz:=htz.1;conv=>whnf
  refine hzz.Pm (i:=1) (n:=L'.length) (cl:=fl1 L') (new:=[int t]) rfl jG rfl rfl (by omega) (by omega) ?_;intro ZA H11 wV Dn Bp Dp Rv;obtain ⟨a11,n11,rfl⟩:=wV;have Mw:=Dp.map (M:=M) (by simp) Dm;have Rw:=Dp.at_ (v:=slc W 0 b b) mem2 rfl rR;conv=>whnf
  exact ⟨(_,H11),⟨rfl,rfl,rfl,rfl,rfl,rfl,rfl,rfl,rfl,rfl,rfl,rfl,rfl,trivial⟩,⟨rfl,Bp,Mw,by rw [Zy,hnl]; exact Dn,Rw⟩,rfl⟩
end
end Go.Proofs.Ytedneplaibmppaa
namespace Go.Proofs.Ytedneplaibmppaa
open Go.Rx Go.RowKit
theorem jY.put {hb H:Hp}{v:Value}{M:jh}(k:jY hb H v M){R:Nat}(hR:R < hb.next)(o:Rx.Obj):jY hb (H.set R o) v M:=by
 obtain ⟨vo,vn,us,e,h1,h2,h3,h4⟩:=k;have hx:∀ (e:TypeId) (sz j:Nat) (w:Value) (cs:List Value),bD hb H e sz w j cs→bD hb (H.set R o) e sz w j cs:=fun e sz j w cs hc=>p8 hc fun r o2 hr ho=>by
  rw [Hp.cu _ (by have:=(hc.iU r hr).1; omega)]; exact ho
 refine ⟨vo,vn,us,e,hx _ _ _ _ _ h1,hx _ _ _ _ _ h2,h3,fun j u l e1 e2=>?_⟩;have hb2:=h4 j u l e1 e2;exact oK hb2 fun r o2 hr ho=>by
  rw [Hp.cu _ (by have:=(hb2.iU r hr).1; omega)]; exact ho
theorem jY.known {h0 h:Hp}{v:Value}{M:jh}(k:jY h0 h v M):∃ a b,v = .agg ⟨[int M.base,.slice a M.out.length M.out.length,.slice b M.next.length M.next.length]⟩:=by
 obtain ⟨vo,vn,us,rfl,h1,h2,h3,_⟩:=k;obtain ⟨a,rfl,-⟩:=h1.slice;obtain ⟨b,rfl,-⟩:=h2.slice;rw [h3];exact ⟨a,b,rfl⟩
def stF {κ:Type}[DecidableEq κ](l:List κ)(c:κ):Option Value:=if c ∈ l then some (int (nT l c:Nat)) else none
def wW (h:Hp)(M:Nat)(l:List Int):Prop:=∃ n,MapAt h M encI (stF l) n
theorem wW.ext {h h':Hp}{M:Nat}{l:List Int}(g:aA h h')(k:wW h M l):wW h' M l:=let ⟨n,k⟩:=k; ⟨n,k.ext g⟩
theorem ZB {κ:Type}[DecidableEq κ]{l:List κ}{x:κ}(h:x ∈ l)(c:κ):stF l c = stF (l ++ [x]) c:=by
 unfold stF;by_cases hc:c ∈ l
 ·rw [if_pos hc,if_pos (List.mem_append_left _ hc)];unfold nT;rw [ng hc]
 ·rw [if_neg hc,if_neg fun k=>by
   rcases List.mem_append.1 k with k | k
   ·exact hc k
   ·rw [List.mem_singleton.1 k] at hc; exact hc h]
theorem ZC {κ:Type}[DecidableEq κ]{l:List κ}{x:κ}(h:x ∉ l)(c:κ):(if c = x then some (int (l.length:Nat)) else stF l c) = stF (l ++ [x]) c:=by
 unfold stF;by_cases e:c = x
 ·subst e;rw [if_pos rfl,if_pos (by simp)];unfold nT;rw [Ef h]
 ·rw [if_neg e];by_cases hc:c ∈ l
  ·rw [if_pos hc,if_pos (List.mem_append_left _ hc)];unfold nT;rw [ng hc]
  ·rw [if_neg hc,if_neg fun k=>by
    rcases List.mem_append.1 k with k | k
    ·exact hc k
    ·exact e (List.mem_singleton.1 k)]
theorem Ya {m:Mac}(hm:m.Ok){c:Int}(hc:c ∈ m.cls):m.rep c < m.out.length:=by
 have:=List.idxOf_lt_length_of_mem hc;rw [Mac.nO hm] at this;exact this
theorem Tq {m:Mac}{c:Int}(hc:c ∈ m.cls):stF m.cls c = some (int (m.rep c:Nat)):=by
 unfold stF;rw [if_pos hc];rfl
attribute [local irreducible] E iJ cellAt bJ storeAt callable dh dG dO findKey dZ bP Hp.at Hp.set Hp.lay dL cO setAt aJ dx bO dz Rnd gq fB gY Int.tmod Int.tdiv Int.fdiv
section
variable [bC]
attribute [local irreducible] sameAt
theorem MB (v:Value)(m:Mac)(h:Hp)(hv:MV h v m.i)(hm:m.Ok)(hl:m.out.length≤100000)(hbl:m.base≤1000):aJ E 92 [v] h (fun r h'=>Built h h' 3 r m.cls∧aA h h'):=by
 obtain ⟨bx,rfl,hbx⟩:=hv.box;obtain ⟨ao,an,co,cn,hcx⟩:=hbx.cx;have hlenx:=hbx.len;refine enter92 (by simp) ?_;conv=>whnf
 refine aC.cut (α:=Hp) (fun _=>[(1,ptr h.next 0)]) (fun x H=>x = H∧aA h H∧H.at h.next = some (.row 25 true bx)) ?_ ?_
 ·conv=>whnf
  exact ⟨_,⟨rfl,trivial⟩,⟨rfl,aA.lay _ _,Hp.ak _ _⟩,rfl⟩
 rintro H φ1 _ ⟨rfl,gH,aX⟩;have kx:=hcx H h.next 25 gH aX;have c1:cellAt H h.next 1 = some (.slice ao m.out.length co):=kx.c1;conv=>whnf
 refine aC.cut (α:=Value×Hp) (fun s=>[(3,s.1),(4,int (m.cnt m.out:Nat)),(1,ptr h.next 0)]) (fun s H2=>s.2 = H2∧aA H s.2∧Built h s.2 3 s.1 (m.ref m.out)) ?_ ?_
 ·conv=>whnf
  refine ⟨_,aI aX hlenx,?_⟩;conv=>whnf
  refine ⟨_,c1,?_⟩;conv=>whnf
  refine aJ.mono (Db _ _ m m.out _ (Bx.mv (hbx.ext gH)) kx.o hm rfl hl hbl) ?_;rintro _ H2 ⟨⟨u,rfl,hu⟩,g2⟩;have hub:=hu.c.slice;obtain ⟨au,rfl,-⟩:=hub;conv=>whnf
  exact ⟨(_,H2),⟨rfl,rfl,rfl,trivial⟩,⟨rfl,g2,hu.back gH.next⟩,rfl⟩
 rintro ⟨w,H2⟩ φ2 _ ⟨rfl,g2,hw⟩;dsimp only at g2 hw ⊢;conv=>whnf
 refine bT (α:=Nat×List Int×Nat×Value×Hp) (fun s=>[(3,s.2.2.2.1),(4,int (s.2.2.1:Nat)),(1,ptr h.next 0)]) (fun s=>s.2.2.2.2) (fun s=>m.Jy s.1 s.2.1 s.2.2.1 = m.cls∧(∃ j,Mac.Good m s.2.1 j s.2.2.1)∧m.out.length + 1≤s.1 + s.2.2.1∧aA H s.2.2.2.2∧Built h s.2.2.2.2 3 s.2.2.2.1 s.2.1) (fun s=>s.1) (m.out.length,m.ref m.out,m.cnt m.out,w,H2) ⟨rfl,⟨1,Mac.Good.start hm⟩,by have:=(Mac.Good.start hm).le; dsimp only; omega,g2,hw⟩ ⟨rfl,rfl,rfl,trivial⟩ (Hp.Le.refl _) ?_;rintro ⟨f,c,k,w,H3⟩ φ3 ⟨hcl,⟨j,hj⟩,hfk,g3,hw3⟩;dsimp only at hcl hj hfk g3 hw3 ⊢;have hkn:k≤m.out.length:=by
  have h2:=hj.cnt;have h3:=Mf ((List.range m.out.length).map fun s=>c.getD s 0);rw [List.length_map,List.length_range] at h3;omega
 have abl:∃ f',f = f' + 1:=⟨f - 1,by omega⟩;obtain ⟨f,rfl⟩:=abl;have adR:=Mac.Mh m c;have hge:=Mac.Mg m c;have aX3:=g3.at_ _ _ aX;have hws:=hw3.c.slice;obtain ⟨aw,rfl,-⟩:=hws;unfold Mac.Jy at hcl;conv=>whnf
 refine aC.cut (α:=Value×Hp) (fun s=>[(5,s.1),(6,int (m.cnt c:Nat)),(3,.slice aw c.length c.length),(4,int k),(1,ptr h.next 0)]) (fun s H4=>s.2 = H4∧aA H3 s.2∧Built h s.2 3 s.1 (m.ref c)) ?_ ?_
 ·conv=>whnf
  refine ⟨_,aI aX3 hlenx,?_⟩;conv=>whnf
  refine aJ.mono (Db _ _ m c _ (Bx.mv (hbx.ext (gH.trans g3))) hw3.view hm hj.len hl hbl) ?_;rintro _ H4 ⟨⟨u,rfl,hu⟩,g4⟩;have hub:=hu.c.slice;obtain ⟨au,rfl,-⟩:=hub;conv=>whnf
  exact ⟨(_,H4),⟨rfl,rfl,rfl,rfl,rfl,trivial⟩,⟨rfl,g4,hu.back (gH.trans g3).next⟩,rfl⟩
 rintro ⟨w4,H4⟩ φ4 _ ⟨rfl,g4,hw4⟩;dsimp only at g4 hw4 ⊢;have adS:=hw4.c.slice;obtain ⟨aw4,rfl,-⟩:=adS;conv=>whnf
 repeat (refine aC.go ?_; conv=>whnf)
 refine dJ (fun q1=>?_) (fun q1=>?_)
 ·rw [if_pos (by omega)] at hcl;subst hcl;conv=>whnf
  repeat (refine aC.go ?_; conv=>whnf)
  exact ⟨hw3.ext g4,(gH.trans g3).trans g4⟩
 ·rw [if_neg (by omega)] at hcl;have hne:m.cnt c≠k:=fun e=>q1 (by rw [e]);have hgc:=hj.cnt;conv=>whnf
  repeat (refine aC.go ?_; conv=>whnf)
  exact Rnd.mk (f,m.ref c,m.cnt c,_,H4) ⟨hcl,⟨j + 1,hj.next hm hne⟩,by show m.out.length + 1≤f + m.cnt c; omega,g3.trans g4,hw4⟩ (by show f < f + 1; omega) ⟨rfl,rfl,rfl,trivial⟩ (Hp.Le.refl _) rfl
theorem Ry (m:Mac)(c:Int)(X D4 M:Nat)(bx:List Value)(h H:Hp)(hbx:Bx h bx m.i)(hm:m.Ok)(hc:c ∈ m.cls)(g:aA h H)(aX:H.at X = some (.row 25 true bx))(a4:cellAt H D4 0 = some (bL M))(hM:wW H M m.cls):aJ E 93 [int c,ptr X 0,ptr D4 0] H (fun r H'=>r = int (m.OT c)∧aA H H'):=by
 obtain ⟨ao,an,co,cn,hcx⟩:=hbx.cx;obtain ⟨i3,t3,-,z3⟩:=ty3;obtain ⟨iM,tM,dM⟩:=Pg;obtain ⟨nM,hM⟩:=hM;have kx:=hcx H X 25 g aX;have c1:cellAt H X 1 = some (.slice ao m.out.length co):=kx.c1;have hr:=Ya hm hc;have ho:=kx.qD hr;obtain ⟨r,o,sp,rfl,hsp,hco⟩:=ho;refine enter93 (by simp) ?_;conv=>whnf
 repeat (refine aC.go ?_; conv=>whnf)
 refine ⟨_,c1,?_⟩;conv=>whnf
 refine ⟨_,a4,?_⟩;conv=>whnf
 refine fM tM dM t3 z3 Bn (k:=c) rfl rfl hM (Tq hc) ?_;conv=>whnf
 refine ⟨hsp,⟨by omega,by omega⟩,?_⟩;conv=>whnf
 refine ⟨_,hco,?_⟩;conv=>whnf
 repeat (refine aC.go ?_; conv=>whnf)
 exact ⟨rfl,.refl _⟩
theorem Rz (m:Mac)(c:Int)(d:Nat)(D3 X D4 M:Nat)(w:Value)(bx:List Value)(h H:Hp)(hbx:Bx h bx m.i)(hm:m.Ok)(hc:c ∈ m.cls)(hd:d < m.base)(g:aA h H)(aX:H.at X = some (.row 25 true bx))(a3:cellAt H D3 0 = some w)(hw:View H w m.cls)(a4:cellAt H D4 0 = some (bL M))(hM:wW H M m.cls):aJ E 94 [int c,int d,ptr D3 0,ptr X 0,ptr D4 0] H (fun r H'=>r = int (m.rJ c d)∧aA H H'):=by
 obtain ⟨ao,an,co,cn,hcx⟩:=hbx.cx;obtain ⟨i3,t3,-,z3⟩:=ty3;obtain ⟨iM,tM,dM⟩:=Pg;obtain ⟨nM,hM⟩:=hM;have kx:=hcx H X 25 g aX;have c2:=kx.c2;have hil:=hm.vC;have hr:=Ya hm hc;have hcl:=Mac.nO hm;have hnx:=kx.kR hm hr hd;obtain ⟨r,o,sp,r',o',sp',c',rfl,hsp,hc1,Vd,hc2⟩:=hnx;have hnl:=hm.lt _ d hr hd;obtain ⟨aw,cw,rfl⟩:=hw.known;have hwc:=View.iI hw (i:=m.nx (m.rep c) d) (by omega);obtain ⟨r2,o2,sp2,rfl,hsp2,-,hcw⟩:=hwc;refine enter94 (by simp) ?_;conv=>whnf
 repeat (refine aC.go ?_; conv=>whnf)
 refine ⟨_,a3,?_⟩;conv=>whnf
 refine ⟨_,c2,?_⟩;conv=>whnf
 refine ⟨_,a4,?_⟩;conv=>whnf
 refine fM tM dM t3 z3 Bn (k:=c) rfl rfl hM (Tq hc) ?_;conv=>whnf
 refine ⟨hsp,⟨by omega,by omega⟩,?_⟩;conv=>whnf
 refine ⟨_,hc1,?_⟩;conv=>whnf
 refine ⟨Vd,⟨by omega,by omega⟩,?_⟩;conv=>whnf
 refine ⟨_,hc2,?_⟩;conv=>whnf
 refine ⟨hsp2,⟨by omega,by omega⟩,?_⟩;conv=>whnf
 refine ⟨_,hcw,?_⟩;conv=>whnf
 repeat (refine aC.go ?_; conv=>whnf)
 exact ⟨rfl,.refl _⟩
end
end Go.Proofs.Ytedneplaibmppaa
