/- Contracts of the functions that PSCB comes to. -/
import Derived.Test.YtljbibjnidccbabPSCA
import Derived.Test.YtljbibjnidccbabSlAwake
import Derived.Test.YtljbibjnidccbabWx20
import Derived.Test.YtljbibjnidccbabWx22
import Derived.Test.YtljbibjnidccbabWx23
set_option maxRecDepth 100000
set_option maxHeartbeats 2000000
set_option linter.unusedVariables false
set_option linter.unusedSectionVars false
set_option linter.unusedSimpArgs false
namespace Go.Proofs.Ytljbibjnidccbab
open Go.Rx Go.RowKit
theorem Bd.get {B:Int} {l:List Int} (h:Bd B l) {i:Nat} (hi:i < l.length):-B≤l[i]∧l[i]≤B:=h i hi
attribute [local irreducible] E idxN cellAt cellsAt storeAt callable helems hmoved lookIn findKey keyOk hentries Hp.at Hp.set Hp.lay arBits hupdated setAt CallP YieldP BoolOf IsWrap Rnd LoopP AppP CutP Int.tmod Int.tdiv Int.fdiv
section
variable [Unknowns]
attribute [local irreducible] ResP sameAt flat flat3
theorem swirl_spec (n:Int) (v w:Value) (P:List (Int×Int)) (T:List (Int×Int×Int)) (hG:GOk n P T) (lv:Value) (l:List Int) (hn:NOk l T.length) (h:Hp) (hv:PairsV h v P) (hw:TripV h w T) (hi:Ints h lv l) :
  CallP E 34 [.agg ⟨[int n,v,w]⟩,lv] h (fun r h'=>(∃ X,r = slc X 0 P.length P.length)∧Grows h h'):=by
 obtain ⟨hn1,hn6,hE,hPl⟩:=hG
 have hl:=hE.1
 have hT:=hPl.1
 have hll:=hn.1
 obtain ⟨av,cap,rfl,hcv⟩:=id hv
 obtain ⟨aw,capw,rfl,hcw⟩:=id hw
 obtain ⟨al,capl,rfl,hcl⟩:=id hi
 have hex1:∃ H1,h.lay (.row 25 true [int n,.slice av P.length cap,.slice aw T.length capw]) = H1:=⟨_,rfl⟩
 obtain ⟨H1,hH1⟩:=hex1
 have aG:H1.at h.next = some (.row 25 true [int n,.slice av P.length cap,.slice aw T.length capw]):=by rw [← hH1]; exact Hp.at_lay_self _ _
 have gG:Grows h H1:=by rw [← hH1]; exact Grows.lay _ _
 refine enter34 (by simp) ?_
 conv=>whnf
 refine SeqP.cut (α:=Unit) (fun _=>[(2,ptr h.next 0),(1,.slice al l.length capl)]) (fun _ H=>H = H1) ?_ ?_
 ·conv=>whnf
  exact ⟨(),⟨rfl,rfl,trivial⟩,hH1,rfl⟩
 rintro _ φ H1 rfl
 have nG:=Hp.lt_of_at aG
 have nh:=gG.next
 generalize h.next = G at aG nG
 conv=>whnf
 refine SeqP.cut (α:=Hp×List Int) (fun s=>[(2,ptr G 0),(1,.slice al l.length capl),(5,slc H1.next 0 P.length P.length)]) (fun s H=>H = s.1∧s.2.length = P.length∧Bd 0 s.2∧s.1.at H1.next = some (.row 3 true (s.2.map int))∧Grows H1 s.1) ?_ ?_
 ·conv=>whnf
  refine ⟨_,cellAt_row aG rfl,?_⟩
  conv=>whnf
  refine ⟨⟨by omega,by omega,by omega,by omega⟩,?_⟩
  conv=>whnf
  refine ⟨(_,List.replicate P.length 0),⟨rfl,rfl,rfl,trivial⟩,⟨rfl,List.length_replicate,fun i hi=>by rw [List.getElem_replicate]; omega,?_,Grows.lay _ _⟩,rfl⟩
  refine (Hp.at_lay_self _ _).trans ?_
  rw [Int.toNat_natCast,List.map_replicate]
  exact congrArg (fun l=>some (Go.Rx.Obj.row 3 true l)) (times_rep _ _)
 rintro ⟨_,Z⟩ φ H2 ⟨rfl,hZ,hB,aX,g2⟩
 dsimp only at hZ hB aX g2 ⊢
 have g02:=gG.trans g2
 have hXG:H1.next≠G:=fun e=>by omega
 generalize H1.next = X at aX hXG nG nh
 have aG2:=g2.at_ _ _ aG
 conv=>whnf
 refine SeqP.cut (α:=Hp) (fun s=>[(5,slc X 0 P.length P.length)]) (fun s H=>H = s∧Grows h s) ?_ ?_
 ·conv=>whnf
  repeat (refine SeqP.go ?_; conv=>whnf)
  refine ⟨_,cellAt_row aG2 rfl,?_⟩
  conv=>whnf
  refine loop_inv (α:=Nat×Hp×List Int) (fun s=>[(18,int s.1),(17,int T.length),(16,.slice aw T.length capw),(2,ptr G 0),(1,.slice al l.length capl),(5,slc X 0 P.length P.length)]) (fun s=>s.2.1) (fun s=>s.1≤T.length∧s.2.2.length = P.length∧Bd (300 * s.1) s.2.2∧s.2.1.at X = some (.row 3 true (s.2.2.map int))∧s.2.1.at G = some (.row 25 true [int n,.slice av P.length cap,.slice aw T.length capw])∧Grows h s.2.1) (fun s=>T.length - s.1) (0,H2,Z) ⟨Nat.zero_le _,hZ,hB,aX,aG2,g02⟩ ⟨rfl,rfl,rfl,rfl,rfl,rfl,trivial⟩ (Hp.Le.refl _) ?_
  clear hZ hB aX aG2 g02 g2
  rintro ⟨k,H,Z⟩ φ ⟨hk,hZ,hB,aX,aG1,g1⟩
  dsimp only at hk hZ hB aX aG1 g1 ⊢
  conv=>whnf
  repeat (refine SeqP.go ?_; conv=>whnf)
  refine cmpB (fun d1=>?_) (fun d1=>?_)
  rotate_left
  ·conv=>whnf
   repeat (refine SeqP.go ?_; conv=>whnf)
   exact ⟨H,⟨rfl,trivial⟩,⟨rfl,g1⟩,rfl⟩
  have hk':k < T.length:=by omega
  obtain ⟨r,o,rfl,hc0,hc1,hc2⟩:=hcw k hk'
  have hpg:=hPl.2 k hk'
  unfold PGood at hpg
  generalize T[k] = x at hc0 hc1 hc2 hpg
  obtain ⟨hm1,hm2,hm3,-⟩:=hpg
  have kc:cellsAt H r (offAt o (k:Int).toNat 3) 3 = some [int x.1,int x.2.1,int x.2.2]:=by
   rw [offAt_eq,show o + (k:Int).toNat * 3 = k * 3 + o by omega]
   exact cellsAt_three (g1.cell hc0) (g1.cell hc1) (g1.cell hc2)
  have hexD:∃ HD,H.lay (.row 58 true [int x.1,int x.2.1,int x.2.2]) = HD:=⟨_,rfl⟩
  obtain ⟨HD,hHD⟩:=hexD
  have aD:HD.at H.next = some (.row 58 true [int x.1,int x.2.1,int x.2.2]):=by rw [← hHD]; exact Hp.at_lay_self _ _
  have gD:Grows H HD:=by rw [← hHD]; exact Grows.lay _ _
  have g2:=g1.trans gD
  have aX2:=gD.at_ _ _ aX
  have aG2:=gD.at_ _ _ aG1
  have hck:=hcl k (by omega)
  obtain ⟨rl,ol,spl,e,hspl,ht1⟩:=hck
  subst e
  have hbt:=hn.bd (i:=k) (by omega)
  generalize l[k] = t at ht1 hbt
  conv=>whnf
  refine SeqP.go ?_
  conv=>whnf
  refine SeqP.go ?_
  conv=>whnf
  refine SeqP.cut (α:=Unit) (fun _=>[(18,int k),(17,int T.length),(16,.slice (some ⟨r,o,none⟩) T.length capw),(2,ptr G 0),(1,.slice (some ⟨rl,ol,spl⟩) l.length capl),(5,slc X 0 P.length P.length),(6,int k),(7,ptr H.next 0)]) (fun _ Y=>Y = HD) ?_ ?_
  ·conv=>whnf
   refine ⟨rfl,⟨by omega,by omega⟩,?_⟩
   conv=>whnf
   refine ⟨_,kc,?_⟩
   conv=>whnf
   refine ⟨rfl,_,store3,?_⟩
   conv=>whnf
   exact ⟨(),⟨rfl,rfl,rfl,rfl,rfl,rfl,rfl,rfl,trivial⟩,hHD,rfl⟩
  rintro _ φ HD rfl
  generalize H.next = D at aD
  conv=>whnf
  refine SeqP.cut (α:=(Nat×Nat×Nat)×Hp) (fun s=>[(18,int k),(17,int T.length),(16,.slice (some ⟨r,o,none⟩) T.length capw),(2,ptr G 0),(1,.slice (some ⟨rl,ol,spl⟩) l.length capl),(5,slc X 0 P.length P.length),(6,int k),(8,int s.1.1),(9,int s.1.2.1),(10,int s.1.2.2)]) (fun s Y=>Y = s.2∧s.1.1 < P.length∧s.1.2.1 < P.length∧s.1.2.2 < P.length∧Grows HD s.2) ?_ ?_
  ·conv=>whnf
   refine ⟨_,cellsAt_row aG2 (by simp),?_⟩
   conv=>whnf
   refine ⟨_,cellsAt_row aD (by simp),?_⟩
   conv=>whnf
   refine CallP.mono (hem_spec n _ _ P T x (by omega) hE.sort HD (hv.ext g2) (hw.ext g2) hm1 hm2 hm3) ?_
   rintro rr H3 ⟨⟨a,b,c,rfl,ha,hb,hc⟩,g3⟩
   conv=>whnf
   exact ⟨((a,b,c),H3),⟨rfl,rfl,rfl,rfl,rfl,rfl,rfl,rfl,rfl,rfl,trivial⟩,⟨rfl,ha,hb,hc,g3⟩,rfl⟩
  rintro ⟨⟨a,b,c⟩,_⟩ φ H3 ⟨rfl,ha,hb,hc,g3⟩
  dsimp only at ha hb hc g3 ⊢
  have g4:=g2.trans g3
  have aX3:=g3.at_ _ _ aX2
  have aG3:=g3.at_ _ _ aG2
  have gt:=g4.cell ht1
  conv=>whnf
  refine SeqP.cut (α:=Hp×List Int) (fun s=>[(18,int k),(17,int T.length),(16,.slice (some ⟨r,o,none⟩) T.length capw),(2,ptr G 0),(1,.slice (some ⟨rl,ol,spl⟩) l.length capl),(5,slc X 0 P.length P.length),(6,int k),(9,int b),(10,int c)]) (fun s Y=>Y = s.1∧s.2.length = P.length∧Bd (300 * k + 100) s.2∧s.1.at X = some (.row 3 true (s.2.map int))∧s.1.at G = some (.row 25 true [int n,.slice av P.length cap,.slice (some ⟨r,o,none⟩) T.length capw])∧Grows h s.1) ?_ ?_
  ·have hza:=hB.get (i:=a) (by omega)
   have q:=row3_cell aX3 (i:=a) (by omega)
   generalize Z[a] = z at hza q
   conv=>whnf
   refine ⟨rfl,⟨by omega,by omega⟩,?_⟩
   conv=>whnf
   refine ⟨_,q,?_⟩
   conv=>whnf
   refine ⟨hspl,⟨by omega,by omega⟩,?_⟩
   conv=>whnf
   refine ⟨_,gt,?_⟩
   conv=>whnf
   refine ⟨z + t,wid (by omega),?_⟩
   conv=>whnf
   refine ⟨rfl,⟨by omega,by omega⟩,?_⟩
   conv=>whnf
   refine ⟨rfl,_,storeInt aX3 (i:=a) (by omega) (z + t),?_⟩
   conv=>whnf
   exact ⟨(_,Z.set a (z + t)),⟨rfl,rfl,rfl,rfl,rfl,rfl,rfl,rfl,rfl,trivial⟩,⟨rfl,by rw [List.length_set]; exact hZ,hB.set (by omega) (by omega) _,Hp.at_set_self _ (Hp.lt_of_at aX3),by rw [Hp.at_set_ne _ (Ne.symm hXG)]; exact aG3,g4.then_set _ (by omega)⟩,rfl⟩
  clear hB aX3 aG3 aX aX2 aG1 aG2 aD hZ gt g4 g3 kc g2 gD hHD
  rintro ⟨_,Z⟩ φ H4 ⟨rfl,hZ,hB,aX3,aG3,g4⟩
  dsimp only at hZ hB aX3 aG3 g4 ⊢
  have gt:=g4.cell ht1
  conv=>whnf
  refine SeqP.cut (α:=Hp×List Int) (fun s=>[(18,int k),(17,int T.length),(16,.slice (some ⟨r,o,none⟩) T.length capw),(2,ptr G 0),(1,.slice (some ⟨rl,ol,spl⟩) l.length capl),(5,slc X 0 P.length P.length),(6,int k),(10,int c)]) (fun s Y=>Y = s.1∧s.2.length = P.length∧Bd (300 * k + 200) s.2∧s.1.at X = some (.row 3 true (s.2.map int))∧s.1.at G = some (.row 25 true [int n,.slice av P.length cap,.slice (some ⟨r,o,none⟩) T.length capw])∧Grows h s.1) ?_ ?_
  ·have hza:=hB.get (i:=b) (by omega)
   have q:=row3_cell aX3 (i:=b) (by omega)
   generalize Z[b] = z at hza q
   conv=>whnf
   refine ⟨rfl,⟨by omega,by omega⟩,?_⟩
   conv=>whnf
   refine ⟨_,q,?_⟩
   conv=>whnf
   refine ⟨hspl,⟨by omega,by omega⟩,?_⟩
   conv=>whnf
   refine ⟨_,gt,?_⟩
   conv=>whnf
   refine ⟨z + t,wid (by omega),?_⟩
   conv=>whnf
   refine ⟨rfl,⟨by omega,by omega⟩,?_⟩
   conv=>whnf
   refine ⟨rfl,_,storeInt aX3 (i:=b) (by omega) (z + t),?_⟩
   conv=>whnf
   exact ⟨(_,Z.set b (z + t)),⟨rfl,rfl,rfl,rfl,rfl,rfl,rfl,rfl,trivial⟩,⟨rfl,by rw [List.length_set]; exact hZ,hB.set (by omega) (by omega) _,Hp.at_set_self _ (Hp.lt_of_at aX3),by rw [Hp.at_set_ne _ (Ne.symm hXG)]; exact aG3,g4.then_set _ (by omega)⟩,rfl⟩
  clear hB aX3 aG3 hZ gt g4
  rintro ⟨_,Z⟩ φ H5 ⟨rfl,hZ,hB,aX3,aG3,g4⟩
  dsimp only at hZ hB aX3 aG3 g4 ⊢
  have gt:=g4.cell ht1
  have hza:=hB.get (i:=c) (by omega)
  have q:=row3_cell aX3 (i:=c) (by omega)
  generalize Z[c] = z at hza q
  conv=>whnf
  refine ⟨rfl,⟨by omega,by omega⟩,?_⟩
  conv=>whnf
  refine ⟨_,q,?_⟩
  conv=>whnf
  refine ⟨hspl,⟨by omega,by omega⟩,?_⟩
  conv=>whnf
  refine ⟨_,gt,?_⟩
  conv=>whnf
  refine ⟨z - t,wid (by omega),?_⟩
  conv=>whnf
  refine ⟨rfl,⟨by omega,by omega⟩,?_⟩
  conv=>whnf
  refine ⟨rfl,_,storeInt aX3 (i:=c) (by omega) (z - t),?_⟩
  conv=>whnf
  refine ⟨_,wid (by omega),?_⟩
  conv=>whnf
  exact Rnd.mk (k + 1,_,Z.set c (z - t)) ⟨by show k + 1≤T.length; omega,by rw [List.length_set]; exact hZ,hB.set (by show (300 * (k:Int) + 200)≤300 * ((k + 1:Nat):Int); omega) (by show -(300 * ((k + 1:Nat):Int))≤z - t∧z - t≤300 * ((k + 1:Nat):Int); omega) _,Hp.at_set_self _ (Hp.lt_of_at aX3),by rw [Hp.at_set_ne _ (Ne.symm hXG)]; exact aG3,g4.then_set _ (by omega)⟩ (by show T.length - (k + 1) < T.length - k; omega) ⟨rfl,rfl,rfl,rfl,rfl,rfl,trivial⟩ (Hp.Le.refl _) rfl
 rintro _ φ H3 ⟨rfl,g3⟩
 conv=>whnf
 repeat (refine SeqP.go ?_; conv=>whnf)
 exact ⟨⟨X,rfl⟩,g3⟩
end
end Go.Proofs.Ytljbibjnidccbab
namespace Go.Proofs.Ytljbibjnidccbab
open Go.Rx Go.RowKit
theorem ty45:(tiOf Try.prog 45).isSome = true:=by kernel_rfl
theorem sz45:((tiOf Try.prog 45).get ty45).size = 3:=by kernel_rfl
theorem ag45:((tiOf Try.prog 45).get ty45).agg = true:=by kernel_rfl
theorem te45:E.ty 45 = some ((tiOf Try.prog 45).get ty45):=ty_get (by kernel_rfl) (Option.some_get ty45).symm
theorem ty51:(tiOf Try.prog 51).isSome = true:=by kernel_rfl
theorem sz51:((tiOf Try.prog 51).get ty51).size = 8:=by kernel_rfl
theorem ag51:((tiOf Try.prog 51).get ty51).agg = true:=by kernel_rfl
theorem te51:E.ty 51 = some ((tiOf Try.prog 51).get ty51):=ty_get (by kernel_rfl) (Option.some_get ty51).symm
def nilS:Value:=.slice none 0 0
attribute [local irreducible] E idxN cellAt cellsAt storeAt callable helems hmoved lookIn findKey keyOk hentries Hp.at Hp.set Hp.lay arBits hupdated setAt CallP YieldP BoolOf IsWrap Rnd LoopP AppP CutP Int.tmod Int.tdiv Int.fdiv
section
variable [Unknowns]
attribute [local irreducible] ResP sameAt flat flat3
theorem Gains_err (n:Int) (v w:Value) (P:List (Int×Int)) (T:List (Int×Int×Int)) (hl:P.length≤20) (hT:T.length≤20) (lv:Value) (l:List Int) (hl2:l.length≤1000) (h:Hp) (hv:PairsV h v P) (hw:TripV h w T) (hi:Ints h lv l) (hc:cfl n P T l P.length≠0) :
  CallP E 15 [.agg ⟨[int n,v,w]⟩,lv] h (fun r h'=>r = .tuple ⟨[nilS,int (cfl n P T l P.length)]⟩∧Grows h h'):=by
 obtain ⟨av,cap,rfl,hcv⟩:=id hv
 obtain ⟨aw,capw,rfl,hcw⟩:=id hw
 obtain ⟨al,capl,rfl,hcl⟩:=id hi
 have hex1:∃ H1,h.lay (.row 25 true [int n,.slice av P.length cap,.slice aw T.length capw]) = H1:=⟨_,rfl⟩
 obtain ⟨H1,hH1⟩:=hex1
 have aG:H1.at h.next = some (.row 25 true [int n,.slice av P.length cap,.slice aw T.length capw]):=by rw [← hH1]; exact Hp.at_lay_self _ _
 have gG:Grows h H1:=by rw [← hH1]; exact Grows.lay _ _
 refine enter15 (by simp) ?_
 conv=>whnf
 refine SeqP.cut (α:=Unit) (fun _=>[(2,ptr h.next 0),(1,.slice al l.length capl)]) (fun _ H=>H = H1) ?_ ?_
 ·conv=>whnf
  exact ⟨(),⟨rfl,rfl,trivial⟩,hH1,rfl⟩
 rintro _ φ H1 rfl
 generalize h.next = G at aG
 conv=>whnf
 repeat (refine SeqP.go ?_; conv=>whnf)
 refine ⟨_,cellsAt_row aG (by simp),?_⟩
 conv=>whnf
 refine CallP.mono (flow_spec n _ _ P T hl hT _ l hl2 _ (hv.ext gG) (hw.ext gG) (hi.ext gG)) ?_
 rintro r H2 ⟨rfl,g2⟩
 conv=>whnf
 repeat (refine SeqP.go ?_; conv=>whnf)
 refine cmpT hc ?_
 conv=>whnf
 repeat (refine SeqP.go ?_; conv=>whnf)
 exact ⟨rfl,gG.trans g2⟩
theorem Turns_err (n:Int) (v w:Value) (P:List (Int×Int)) (T:List (Int×Int×Int)) (hl:P.length≤20) (hT:T.length≤20) (lv:Value) (l:List Int) (hl2:l.length≤1000) (h:Hp) (hv:PairsV h v P) (hw:TripV h w T) (hi:Ints h lv l) (hc:cfl n P T l P.length≠0) :
  CallP E 16 [.agg ⟨[int n,v,w]⟩,lv] h (fun r h'=>r = .tuple ⟨[nilS,int (cfl n P T l P.length)]⟩∧Grows h h'):=by
 obtain ⟨av,cap,rfl,hcv⟩:=id hv
 obtain ⟨aw,capw,rfl,hcw⟩:=id hw
 obtain ⟨al,capl,rfl,hcl⟩:=id hi
 have hex1:∃ H1,h.lay (.row 25 true [int n,.slice av P.length cap,.slice aw T.length capw]) = H1:=⟨_,rfl⟩
 obtain ⟨H1,hH1⟩:=hex1
 have aG:H1.at h.next = some (.row 25 true [int n,.slice av P.length cap,.slice aw T.length capw]):=by rw [← hH1]; exact Hp.at_lay_self _ _
 have gG:Grows h H1:=by rw [← hH1]; exact Grows.lay _ _
 refine enter16 (by simp) ?_
 conv=>whnf
 refine SeqP.cut (α:=Unit) (fun _=>[(2,ptr h.next 0),(1,.slice al l.length capl)]) (fun _ H=>H = H1) ?_ ?_
 ·conv=>whnf
  exact ⟨(),⟨rfl,rfl,trivial⟩,hH1,rfl⟩
 rintro _ φ H1 rfl
 generalize h.next = G at aG
 conv=>whnf
 repeat (refine SeqP.go ?_; conv=>whnf)
 refine ⟨_,cellsAt_row aG (by simp),?_⟩
 conv=>whnf
 refine CallP.mono (flow_spec n _ _ P T hl hT _ l hl2 _ (hv.ext gG) (hw.ext gG) (hi.ext gG)) ?_
 rintro r H2 ⟨rfl,g2⟩
 conv=>whnf
 repeat (refine SeqP.go ?_; conv=>whnf)
 refine cmpT hc ?_
 conv=>whnf
 repeat (refine SeqP.go ?_; conv=>whnf)
 exact ⟨rfl,gG.trans g2⟩
theorem Heights_err (n:Int) (v w:Value) (P:List (Int×Int)) (T:List (Int×Int×Int)) (hl:P.length≤20) (hT:T.length≤20) (lv:Value) (l:List Int) (hl2:l.length≤1000) (h:Hp) (hv:PairsV h v P) (hw:TripV h w T) (hi:Ints h lv l) (hc:cfl n P T l P.length≠0) :
  CallP E 17 [.agg ⟨[int n,v,w]⟩,lv] h (fun r h'=>r = .tuple ⟨[nilS,.bool false,int (cfl n P T l P.length)]⟩∧Grows h h'):=by
 obtain ⟨av,cap,rfl,hcv⟩:=id hv
 obtain ⟨aw,capw,rfl,hcw⟩:=id hw
 obtain ⟨al,capl,rfl,hcl⟩:=id hi
 have hex1:∃ H1,h.lay (.row 25 true [int n,.slice av P.length cap,.slice aw T.length capw]) = H1:=⟨_,rfl⟩
 obtain ⟨H1,hH1⟩:=hex1
 have aG:H1.at h.next = some (.row 25 true [int n,.slice av P.length cap,.slice aw T.length capw]):=by rw [← hH1]; exact Hp.at_lay_self _ _
 have gG:Grows h H1:=by rw [← hH1]; exact Grows.lay _ _
 refine enter17 (by simp) ?_
 conv=>whnf
 refine SeqP.cut (α:=Unit) (fun _=>[(2,ptr h.next 0),(1,.slice al l.length capl)]) (fun _ H=>H = H1) ?_ ?_
 ·conv=>whnf
  exact ⟨(),⟨rfl,rfl,trivial⟩,hH1,rfl⟩
 rintro _ φ H1 rfl
 generalize h.next = G at aG
 conv=>whnf
 repeat (refine SeqP.go ?_; conv=>whnf)
 refine ⟨_,cellsAt_row aG (by simp),?_⟩
 conv=>whnf
 refine CallP.mono (flow_spec n _ _ P T hl hT _ l hl2 _ (hv.ext gG) (hw.ext gG) (hi.ext gG)) ?_
 rintro r H2 ⟨rfl,g2⟩
 conv=>whnf
 repeat (refine SeqP.go ?_; conv=>whnf)
 refine cmpT hc ?_
 conv=>whnf
 repeat (refine SeqP.go ?_; conv=>whnf)
 exact ⟨rfl,gG.trans g2⟩
theorem Ring_err (n:Int) (v w:Value) (P:List (Int×Int)) (T:List (Int×Int×Int)) (hl:P.length≤20) (hT:T.length≤20) (lv:Value) (l:List Int) (hl2:l.length≤1000) (h:Hp) (hv:PairsV h v P) (hw:TripV h w T) (hi:Ints h lv l) (hc:cfl n P T l P.length≠0) :
  CallP E 18 [.agg ⟨[int n,v,w]⟩,lv] h (fun r h'=>r = .tuple ⟨[nilS,.bool false,int (cfl n P T l P.length)]⟩∧Grows h h'):=by
 obtain ⟨av,cap,rfl,hcv⟩:=id hv
 obtain ⟨aw,capw,rfl,hcw⟩:=id hw
 obtain ⟨al,capl,rfl,hcl⟩:=id hi
 have hex1:∃ H1,h.lay (.row 25 true [int n,.slice av P.length cap,.slice aw T.length capw]) = H1:=⟨_,rfl⟩
 obtain ⟨H1,hH1⟩:=hex1
 have aG:H1.at h.next = some (.row 25 true [int n,.slice av P.length cap,.slice aw T.length capw]):=by rw [← hH1]; exact Hp.at_lay_self _ _
 have gG:Grows h H1:=by rw [← hH1]; exact Grows.lay _ _
 refine enter18 (by simp) ?_
 conv=>whnf
 refine SeqP.cut (α:=Unit) (fun _=>[(2,ptr h.next 0),(1,.slice al l.length capl)]) (fun _ H=>H = H1) ?_ ?_
 ·conv=>whnf
  exact ⟨(),⟨rfl,rfl,trivial⟩,hH1,rfl⟩
 rintro _ φ H1 rfl
 generalize h.next = G at aG
 conv=>whnf
 repeat (refine SeqP.go ?_; conv=>whnf)
 refine ⟨_,cellsAt_row aG (by simp),?_⟩
 conv=>whnf
 refine CallP.mono (flow_spec n _ _ P T hl hT _ l hl2 _ (hv.ext gG) (hw.ext gG) (hi.ext gG)) ?_
 rintro r H2 ⟨rfl,g2⟩
 conv=>whnf
 repeat (refine SeqP.go ?_; conv=>whnf)
 refine cmpT hc ?_
 conv=>whnf
 repeat (refine SeqP.go ?_; conv=>whnf)
 exact ⟨rfl,gG.trans g2⟩
theorem IsRing_err (n:Int) (v w:Value) (P:List (Int×Int)) (T:List (Int×Int×Int)) (hl:P.length≤20) (hT:T.length≤20) (lv:Value) (l:List Int) (hl2:l.length≤1000) (q:Value) (h:Hp) (hv:PairsV h v P) (hw:TripV h w T) (hi:Ints h lv l) (hc:cfl n P T l P.length≠0) :
  CallP E 19 [.agg ⟨[int n,v,w]⟩,lv,q] h (fun r h'=>r = .tuple ⟨[int 0,.bool false,int (cfl n P T l P.length)]⟩∧Grows h h'):=by
 obtain ⟨av,cap,rfl,hcv⟩:=id hv
 obtain ⟨aw,capw,rfl,hcw⟩:=id hw
 obtain ⟨al,capl,rfl,hcl⟩:=id hi
 have hex1:∃ H1,h.lay (.row 25 true [int n,.slice av P.length cap,.slice aw T.length capw]) = H1:=⟨_,rfl⟩
 obtain ⟨H1,hH1⟩:=hex1
 have aG:H1.at h.next = some (.row 25 true [int n,.slice av P.length cap,.slice aw T.length capw]):=by rw [← hH1]; exact Hp.at_lay_self _ _
 have gG:Grows h H1:=by rw [← hH1]; exact Grows.lay _ _
 refine enter19 (by simp) ?_
 conv=>whnf
 refine SeqP.cut (α:=Unit) (fun _=>[(3,ptr h.next 0),(1,.slice al l.length capl)]) (fun _ H=>H = H1) ?_ ?_
 ·conv=>whnf
  exact ⟨(),⟨rfl,rfl,trivial⟩,hH1,rfl⟩
 rintro _ φ H1 rfl
 generalize h.next = G at aG
 conv=>whnf
 repeat (refine SeqP.go ?_; conv=>whnf)
 refine ⟨_,cellsAt_row aG (by simp),?_⟩
 conv=>whnf
 refine CallP.mono (flow_spec n _ _ P T hl hT _ l hl2 _ (hv.ext gG) (hw.ext gG) (hi.ext gG)) ?_
 rintro r H2 ⟨rfl,g2⟩
 conv=>whnf
 repeat (refine SeqP.go ?_; conv=>whnf)
 refine cmpT hc ?_
 conv=>whnf
 repeat (refine SeqP.go ?_; conv=>whnf)
 exact ⟨rfl,gG.trans g2⟩
theorem Best_err (n:Int) (v w:Value) (P:List (Int×Int)) (T:List (Int×Int×Int)) (hl:P.length≤20) (hT:T.length≤20) (lv:Value) (l:List Int) (hl2:l.length≤1000) (h:Hp) (hv:PairsV h v P) (hw:TripV h w T) (hi:Ints h lv l) (hc:cfl n P T l P.length≠0) :
  CallP E 21 [.agg ⟨[int n,v,w]⟩,lv] h (fun r h'=>r = .tuple ⟨[nilS,int (cfl n P T l P.length)]⟩∧Grows h h'):=by
 obtain ⟨av,cap,rfl,hcv⟩:=id hv
 obtain ⟨aw,capw,rfl,hcw⟩:=id hw
 obtain ⟨al,capl,rfl,hcl⟩:=id hi
 have hex1:∃ H1,h.lay (.row 25 true [int n,.slice av P.length cap,.slice aw T.length capw]) = H1:=⟨_,rfl⟩
 obtain ⟨H1,hH1⟩:=hex1
 have aG:H1.at h.next = some (.row 25 true [int n,.slice av P.length cap,.slice aw T.length capw]):=by rw [← hH1]; exact Hp.at_lay_self _ _
 have gG:Grows h H1:=by rw [← hH1]; exact Grows.lay _ _
 refine enter21 (by simp) ?_
 conv=>whnf
 refine SeqP.cut (α:=Unit) (fun _=>[(2,ptr h.next 0),(1,.slice al l.length capl)]) (fun _ H=>H = H1) ?_ ?_
 ·conv=>whnf
  exact ⟨(),⟨rfl,rfl,trivial⟩,hH1,rfl⟩
 rintro _ φ H1 rfl
 generalize h.next = G at aG
 conv=>whnf
 repeat (refine SeqP.go ?_; conv=>whnf)
 refine ⟨_,cellsAt_row aG (by simp),?_⟩
 conv=>whnf
 refine CallP.mono (flow_spec n _ _ P T hl hT _ l hl2 _ (hv.ext gG) (hw.ext gG) (hi.ext gG)) ?_
 rintro r H2 ⟨rfl,g2⟩
 conv=>whnf
 repeat (refine SeqP.go ?_; conv=>whnf)
 refine cmpT hc ?_
 conv=>whnf
 repeat (refine SeqP.go ?_; conv=>whnf)
 exact ⟨rfl,gG.trans g2⟩
theorem IsCalm_err (n:Int) (v w:Value) (P:List (Int×Int)) (T:List (Int×Int×Int)) (hl:P.length≤20) (hT:T.length≤20) (lv:Value) (l:List Int) (hl2:l.length≤1000) (h:Hp) (hv:PairsV h v P) (hw:TripV h w T) (hi:Ints h lv l) (hc:cfl n P T l P.length≠0) :
  CallP E 23 [.agg ⟨[int n,v,w]⟩,lv] h (fun r h'=>r = .tuple ⟨[.bool false,int (cfl n P T l P.length)]⟩∧Grows h h'):=by
 obtain ⟨av,cap,rfl,hcv⟩:=id hv
 obtain ⟨aw,capw,rfl,hcw⟩:=id hw
 obtain ⟨al,capl,rfl,hcl⟩:=id hi
 have hex1:∃ H1,h.lay (.row 25 true [int n,.slice av P.length cap,.slice aw T.length capw]) = H1:=⟨_,rfl⟩
 obtain ⟨H1,hH1⟩:=hex1
 have aG:H1.at h.next = some (.row 25 true [int n,.slice av P.length cap,.slice aw T.length capw]):=by rw [← hH1]; exact Hp.at_lay_self _ _
 have gG:Grows h H1:=by rw [← hH1]; exact Grows.lay _ _
 refine enter23 (by simp) ?_
 conv=>whnf
 refine SeqP.cut (α:=Unit) (fun _=>[(2,ptr h.next 0),(1,.slice al l.length capl)]) (fun _ H=>H = H1) ?_ ?_
 ·conv=>whnf
  exact ⟨(),⟨rfl,rfl,trivial⟩,hH1,rfl⟩
 rintro _ φ H1 rfl
 generalize h.next = G at aG
 conv=>whnf
 repeat (refine SeqP.go ?_; conv=>whnf)
 refine ⟨_,cellsAt_row aG (by simp),?_⟩
 conv=>whnf
 refine CallP.mono (flow_spec n _ _ P T hl hT _ l hl2 _ (hv.ext gG) (hw.ext gG) (hi.ext gG)) ?_
 rintro r H2 ⟨rfl,g2⟩
 conv=>whnf
 repeat (refine SeqP.go ?_; conv=>whnf)
 refine cmpT hc ?_
 conv=>whnf
 repeat (refine SeqP.go ?_; conv=>whnf)
 exact ⟨rfl,gG.trans g2⟩
theorem Gauge_err (n:Int) (v w:Value) (P:List (Int×Int)) (T:List (Int×Int×Int)) (hl:P.length≤20) (hT:T.length≤20) (h:Hp) (hv:PairsV h v P) (hw:TripV h w T) (hc:chk n P T≠0) :
  CallP E 9 [.agg ⟨[int n,v,w]⟩] h (fun r h'=>r = .tuple ⟨[int 0,int (chk n P T)]⟩∧Grows h h'):=by
 obtain ⟨av,cap,rfl,hcv⟩:=id hv
 obtain ⟨aw,capw,rfl,hcw⟩:=id hw
 have hex1:∃ H1,h.lay (.row 25 true [int n,.slice av P.length cap,.slice aw T.length capw]) = H1:=⟨_,rfl⟩
 obtain ⟨H1,hH1⟩:=hex1
 have aG:H1.at h.next = some (.row 25 true [int n,.slice av P.length cap,.slice aw T.length capw]):=by rw [← hH1]; exact Hp.at_lay_self _ _
 have gG:Grows h H1:=by rw [← hH1]; exact Grows.lay _ _
 refine enter9 (by simp) ?_
 conv=>whnf
 refine SeqP.cut (α:=Unit) (fun _=>[(1,ptr h.next 0)]) (fun _ H=>H = H1) ?_ ?_
 ·conv=>whnf
  exact ⟨(),⟨rfl,trivial⟩,hH1,rfl⟩
 rintro _ φ H1 rfl
 generalize h.next = G at aG
 conv=>whnf
 repeat (refine SeqP.go ?_; conv=>whnf)
 refine ⟨_,cellsAt_row aG (by simp),?_⟩
 conv=>whnf
 refine CallP.mono (Check_spec n _ _ P T hl hT _ (hv.ext gG) (hw.ext gG)) ?_
 rintro r H2 ⟨rfl,g2⟩
 conv=>whnf
 repeat (refine SeqP.go ?_; conv=>whnf)
 refine cmpT hc ?_
 conv=>whnf
 repeat (refine SeqP.go ?_; conv=>whnf)
 exact ⟨rfl,gG.trans g2⟩
theorem Pieces_err (n:Int) (v w:Value) (P:List (Int×Int)) (T:List (Int×Int×Int)) (hl:P.length≤20) (hT:T.length≤20) (h:Hp) (hv:PairsV h v P) (hw:TripV h w T) (hc:chk n P T≠0) :
  CallP E 10 [.agg ⟨[int n,v,w]⟩] h (fun r h'=>r = .tuple ⟨[int 0,int (chk n P T)]⟩∧Grows h h'):=by
 obtain ⟨av,cap,rfl,hcv⟩:=id hv
 obtain ⟨aw,capw,rfl,hcw⟩:=id hw
 have hex1:∃ H1,h.lay (.row 25 true [int n,.slice av P.length cap,.slice aw T.length capw]) = H1:=⟨_,rfl⟩
 obtain ⟨H1,hH1⟩:=hex1
 have aG:H1.at h.next = some (.row 25 true [int n,.slice av P.length cap,.slice aw T.length capw]):=by rw [← hH1]; exact Hp.at_lay_self _ _
 have gG:Grows h H1:=by rw [← hH1]; exact Grows.lay _ _
 refine enter10 (by simp) ?_
 conv=>whnf
 refine SeqP.cut (α:=Unit) (fun _=>[(1,ptr h.next 0)]) (fun _ H=>H = H1) ?_ ?_
 ·conv=>whnf
  exact ⟨(),⟨rfl,trivial⟩,hH1,rfl⟩
 rintro _ φ H1 rfl
 generalize h.next = G at aG
 conv=>whnf
 repeat (refine SeqP.go ?_; conv=>whnf)
 refine ⟨_,cellsAt_row aG (by simp),?_⟩
 conv=>whnf
 refine CallP.mono (Check_spec n _ _ P T hl hT _ (hv.ext gG) (hw.ext gG)) ?_
 rintro r H2 ⟨rfl,g2⟩
 conv=>whnf
 repeat (refine SeqP.go ?_; conv=>whnf)
 refine cmpT hc ?_
 conv=>whnf
 repeat (refine SeqP.go ?_; conv=>whnf)
 exact ⟨rfl,gG.trans g2⟩
theorem Gradient_any (n:Int) (v w:Value) (P:List (Int×Int)) (T:List (Int×Int×Int)) (hl:P.length≤20) (hT:T.length≤20) (lv:Value) (l:List Int) (hl2:l.length≤1000) (h:Hp) (hv:PairsV h v P) (hw:TripV h w T) (hi:Ints h lv l) :
  CallP E 11 [.agg ⟨[int n,v,w]⟩,lv] h (fun r h'=>((∃ X,r = .tuple ⟨[slc X 0 P.length P.length,int 0]⟩∧cfl n P T l n = 0)∨(r = .tuple ⟨[nilS,int (cfl n P T l n)]⟩∧cfl n P T l n≠0))∧Grows h h'):=by
 obtain ⟨av,cap,rfl,hcv⟩:=id hv
 obtain ⟨aw,capw,rfl,hcw⟩:=id hw
 obtain ⟨al,capl,rfl,hcl⟩:=id hi
 have hex1:∃ H1,h.lay (.row 25 true [int n,.slice av P.length cap,.slice aw T.length capw]) = H1:=⟨_,rfl⟩
 obtain ⟨H1,hH1⟩:=hex1
 have aG:H1.at h.next = some (.row 25 true [int n,.slice av P.length cap,.slice aw T.length capw]):=by rw [← hH1]; exact Hp.at_lay_self _ _
 have gG:Grows h H1:=by rw [← hH1]; exact Grows.lay _ _
 refine enter11 (by simp) ?_
 conv=>whnf
 refine SeqP.cut (α:=Unit) (fun _=>[(2,ptr h.next 0),(1,.slice al l.length capl)]) (fun _ H=>H = H1) ?_ ?_
 ·conv=>whnf
  exact ⟨(),⟨rfl,rfl,trivial⟩,hH1,rfl⟩
 rintro _ φ H1 rfl
 generalize h.next = G at aG
 conv=>whnf
 refine SeqP.cut (α:=Hp) (fun _=>[(2,ptr G 0),(1,.slice al l.length capl)]) (fun s H=>H = s∧GOk n P T∧Grows H1 s) ?_ ?_
 ·conv=>whnf
  repeat (refine SeqP.go ?_; conv=>whnf)
  refine ⟨_,cellsAt_row aG (by simp),?_⟩
  conv=>whnf
  refine CallP.mono (Check_spec n _ _ P T hl hT _ (hv.ext gG) (hw.ext gG)) ?_
  rintro r H2 ⟨rfl,g2⟩
  conv=>whnf
  repeat (refine SeqP.go ?_; conv=>whnf)
  by_cases hg:GOk n P T
  ·refine cmpF (fun hn=>hn (chk_ok hg)) ?_
   conv=>whnf
   repeat (refine SeqP.go ?_; conv=>whnf)
   exact ⟨H2,⟨rfl,rfl,trivial⟩,⟨rfl,hg,g2⟩,rfl⟩
  ·have hc30:=chk_no hg
   have hf30:=cfl_no (l:=l) (m:=n) hg
   refine cmpT (by omega) ?_
   conv=>whnf
   repeat (refine SeqP.go ?_; conv=>whnf)
   exact ⟨.inr ⟨by rw [hf30,hc30]; rfl,by omega⟩,gG.trans g2⟩
 rintro _ φ H2 ⟨rfl,hg,g2⟩
 have aG2:=g2.at_ _ _ aG
 have g02:=gG.trans g2
 conv=>whnf
 refine SeqP.cut (α:=Unit) (fun _=>[(2,ptr G 0),(1,.slice al l.length capl)]) (fun s H=>H = H2∧NOk l n) ?_ ?_
 ·conv=>whnf
  repeat (refine SeqP.go ?_; conv=>whnf)
  refine ⟨_,cellAt_row aG2 rfl,?_⟩
  conv=>whnf
  refine CallP.mono (list_spec _ l n hl2 H2 (hi.ext g02)) ?_
  rintro r H3 ⟨⟨rfl,hk⟩ | ⟨rfl,hk⟩,rfl⟩
  ·conv=>whnf
   repeat (refine SeqP.go ?_; conv=>whnf)
   refine cmpF (by omega) ?_
   conv=>whnf
   repeat (refine SeqP.go ?_; conv=>whnf)
   exact ⟨(),⟨rfl,rfl,trivial⟩,⟨rfl,hk⟩,rfl⟩
  ·have hf1:=cfl_one hg hk
   conv=>whnf
   repeat (refine SeqP.go ?_; conv=>whnf)
   refine cmpT (by omega) ?_
   conv=>whnf
   repeat (refine SeqP.go ?_; conv=>whnf)
   exact ⟨.inr ⟨by rw [hf1]; rfl,by omega⟩,g02⟩
 rintro _ φ H2 ⟨rfl,hk⟩
 conv=>whnf
 repeat (refine SeqP.go ?_; conv=>whnf)
 refine ⟨_,cellsAt_row aG2 (by simp),?_⟩
 conv=>whnf
 refine CallP.mono (gradient_spec n _ _ P T hg _ l hk _ (hv.ext g02) (hw.ext g02) (hi.ext g02)) ?_
 rintro r H3 ⟨⟨X,rfl⟩,g3⟩
 conv=>whnf
 repeat (refine SeqP.go ?_; conv=>whnf)
 exact ⟨.inl ⟨X,rfl,cfl_ok hg hk⟩,g02.trans g3⟩
theorem Swirl_any (n:Int) (v w:Value) (P:List (Int×Int)) (T:List (Int×Int×Int)) (hl:P.length≤20) (hT:T.length≤20) (lv:Value) (l:List Int) (hl2:l.length≤1000) (h:Hp) (hv:PairsV h v P) (hw:TripV h w T) (hi:Ints h lv l) :
  CallP E 13 [.agg ⟨[int n,v,w]⟩,lv] h (fun r h'=>((∃ X,r = .tuple ⟨[slc X 0 P.length P.length,int 0]⟩∧cfl n P T l T.length = 0)∨(r = .tuple ⟨[nilS,int (cfl n P T l T.length)]⟩∧cfl n P T l T.length≠0))∧Grows h h'):=by
 obtain ⟨av,cap,rfl,hcv⟩:=id hv
 obtain ⟨aw,capw,rfl,hcw⟩:=id hw
 obtain ⟨al,capl,rfl,hcl⟩:=id hi
 have hex1:∃ H1,h.lay (.row 25 true [int n,.slice av P.length cap,.slice aw T.length capw]) = H1:=⟨_,rfl⟩
 obtain ⟨H1,hH1⟩:=hex1
 have aG:H1.at h.next = some (.row 25 true [int n,.slice av P.length cap,.slice aw T.length capw]):=by rw [← hH1]; exact Hp.at_lay_self _ _
 have gG:Grows h H1:=by rw [← hH1]; exact Grows.lay _ _
 refine enter13 (by simp) ?_
 conv=>whnf
 refine SeqP.cut (α:=Unit) (fun _=>[(2,ptr h.next 0),(1,.slice al l.length capl)]) (fun _ H=>H = H1) ?_ ?_
 ·conv=>whnf
  exact ⟨(),⟨rfl,rfl,trivial⟩,hH1,rfl⟩
 rintro _ φ H1 rfl
 generalize h.next = G at aG
 conv=>whnf
 refine SeqP.cut (α:=Hp) (fun _=>[(2,ptr G 0),(1,.slice al l.length capl)]) (fun s H=>H = s∧GOk n P T∧Grows H1 s) ?_ ?_
 ·conv=>whnf
  repeat (refine SeqP.go ?_; conv=>whnf)
  refine ⟨_,cellsAt_row aG (by simp),?_⟩
  conv=>whnf
  refine CallP.mono (Check_spec n _ _ P T hl hT _ (hv.ext gG) (hw.ext gG)) ?_
  rintro r H2 ⟨rfl,g2⟩
  conv=>whnf
  repeat (refine SeqP.go ?_; conv=>whnf)
  by_cases hg:GOk n P T
  ·refine cmpF (fun hn=>hn (chk_ok hg)) ?_
   conv=>whnf
   repeat (refine SeqP.go ?_; conv=>whnf)
   exact ⟨H2,⟨rfl,rfl,trivial⟩,⟨rfl,hg,g2⟩,rfl⟩
  ·have hc30:=chk_no hg
   have hf30:=cfl_no (l:=l) (m:=T.length) hg
   refine cmpT (by omega) ?_
   conv=>whnf
   repeat (refine SeqP.go ?_; conv=>whnf)
   exact ⟨.inr ⟨by rw [hf30,hc30]; rfl,by omega⟩,gG.trans g2⟩
 rintro _ φ H2 ⟨rfl,hg,g2⟩
 have aG2:=g2.at_ _ _ aG
 have g02:=gG.trans g2
 conv=>whnf
 refine SeqP.cut (α:=Unit) (fun _=>[(2,ptr G 0),(1,.slice al l.length capl)]) (fun s H=>H = H2∧NOk l T.length) ?_ ?_
 ·conv=>whnf
  repeat (refine SeqP.go ?_; conv=>whnf)
  refine ⟨_,cellAt_row aG2 rfl,?_⟩
  conv=>whnf
  refine CallP.mono (list_spec _ l T.length hl2 H2 (hi.ext g02)) ?_
  rintro r H3 ⟨⟨rfl,hk⟩ | ⟨rfl,hk⟩,rfl⟩
  ·conv=>whnf
   repeat (refine SeqP.go ?_; conv=>whnf)
   refine cmpF (by omega) ?_
   conv=>whnf
   repeat (refine SeqP.go ?_; conv=>whnf)
   exact ⟨(),⟨rfl,rfl,trivial⟩,⟨rfl,hk⟩,rfl⟩
  ·have hf1:=cfl_one hg hk
   conv=>whnf
   repeat (refine SeqP.go ?_; conv=>whnf)
   refine cmpT (by omega) ?_
   conv=>whnf
   repeat (refine SeqP.go ?_; conv=>whnf)
   exact ⟨.inr ⟨by rw [hf1]; rfl,by omega⟩,g02⟩
 rintro _ φ H2 ⟨rfl,hk⟩
 conv=>whnf
 repeat (refine SeqP.go ?_; conv=>whnf)
 refine ⟨_,cellsAt_row aG2 (by simp),?_⟩
 conv=>whnf
 refine CallP.mono (swirl_spec n _ _ P T hg _ l hk _ (hv.ext g02) (hw.ext g02) (hi.ext g02)) ?_
 rintro r H3 ⟨⟨X,rfl⟩,g3⟩
 conv=>whnf
 repeat (refine SeqP.go ?_; conv=>whnf)
 exact ⟨.inl ⟨X,rfl,cfl_ok hg hk⟩,g02.trans g3⟩
end
section
variable [Unknowns]
attribute [local irreducible] ResP sameAt flat flat3 finP
theorem Parts_err (n:Int) (v w:Value) (P:List (Int×Int)) (T:List (Int×Int×Int)) (hl:P.length≤20) (hT:T.length≤20) (lv:Value) (l:List Int) (hl2:l.length≤1000) (h:Hp) (hv:PairsV h v P) (hw:TripV h w T) (hi:Ints h lv l) (hc:cfl n P T l P.length≠0) :
  CallP E 20 [.agg ⟨[int n,v,w]⟩,lv] h (fun r h'=>r = .tuple ⟨[.agg ⟨[nilS,nilS,nilS]⟩,int (cfl n P T l P.length)]⟩∧Grows h h'):=by
 obtain ⟨av,cap,rfl,hcv⟩:=id hv
 obtain ⟨aw,capw,rfl,hcw⟩:=id hw
 obtain ⟨al,capl,rfl,hcl⟩:=id hi
 have hex1:∃ H1,h.lay (.row 25 true [int n,.slice av P.length cap,.slice aw T.length capw]) = H1:=⟨_,rfl⟩
 obtain ⟨H1,hH1⟩:=hex1
 have aG:H1.at h.next = some (.row 25 true [int n,.slice av P.length cap,.slice aw T.length capw]):=by rw [← hH1]; exact Hp.at_lay_self _ _
 have gG:Grows h H1:=by rw [← hH1]; exact Grows.lay _ _
 have hex2:∃ H2,H1.lay (.row 45 true [nilS,nilS,nilS]) = H2:=⟨_,rfl⟩
 obtain ⟨H2,hH2⟩:=hex2
 have aR:H2.at H1.next = some (.row 45 true [nilS,nilS,nilS]):=by rw [← hH2]; exact Hp.at_lay_self _ _
 have gR:Grows H1 H2:=by rw [← hH2]; exact Grows.lay _ _
 have nh:=gG.next
 refine enter20 (by simp) ?_
 conv=>whnf
 refine SeqP.cut (α:=Unit) (fun _=>[(2,ptr h.next 0),(4,ptr H1.next 0),(1,.slice al l.length capl)]) (fun _ H=>H = H2) ?_ ?_
 ·conv=>whnf
  exact ⟨(),⟨rfl,by rw [← hH1]; rfl,rfl,trivial⟩,by rw [← hH2,← hH1] <;> rfl,rfl⟩
 rintro _ φ H2 rfl
 have aG2:=gR.at_ _ _ aG
 have g02:=gG.trans gR
 generalize h.next = G at aG aG2
 generalize H1.next = R at aR nh
 conv=>whnf
 repeat (refine SeqP.go ?_; conv=>whnf)
 refine ⟨_,cellsAt_row aG2 (by simp),?_⟩
 conv=>whnf
 refine CallP.mono (flow_spec n _ _ P T hl hT _ l hl2 _ (hv.ext g02) (hw.ext g02) (hi.ext g02)) ?_
 rintro r H3 ⟨rfl,g3⟩
 have aR3:=g3.at_ _ _ aR
 conv=>whnf
 repeat (refine SeqP.go ?_; conv=>whnf)
 refine cmpT hc ?_
 conv=>whnf
 repeat (refine SeqP.go ?_; conv=>whnf)
 refine ⟨rfl,_,storeAt_full (vs:=[nilS,nilS,nilS]) aR3 rfl rfl rfl,?_⟩
 conv=>whnf
 repeat (refine SeqP.go ?_; conv=>whnf)
 refine leave_cell2 (r:=R) (o:=0) (cs:=[nilS,nilS,nilS]) (w:=int (cfl n P T l P.length)) rfl rfl rfl te45 ag45 ?_ ?_
 ·rw [sz45,cellsAt_row (Hp.at_set_self _ (Hp.lt_of_at aR3)) (Nat.le_refl _)]
  rfl
 ·exact ⟨rfl,(g02.trans g3).then_set _ nh⟩
theorem Sizes_err (n:Int) (v w:Value) (P:List (Int×Int)) (T:List (Int×Int×Int)) (hl:P.length≤20) (hT:T.length≤20) (lv:Value) (l:List Int) (hl2:l.length≤1000) (h:Hp) (hv:PairsV h v P) (hw:TripV h w T) (hi:Ints h lv l) (hc:cfl n P T l P.length≠0) :
  CallP E 22 [.agg ⟨[int n,v,w]⟩,lv] h (fun r h'=>r = .tuple ⟨[.agg ⟨[.int .i64 0,.int .i64 0,.int .i64 0,.int .i64 0,.int .i64 0,.int .i64 0,.int .i64 0,.int .i64 0]⟩,int (cfl n P T l P.length)]⟩∧Grows h h'):=by
 obtain ⟨av,cap,rfl,hcv⟩:=id hv
 obtain ⟨aw,capw,rfl,hcw⟩:=id hw
 obtain ⟨al,capl,rfl,hcl⟩:=id hi
 have hex1:∃ H1,h.lay (.row 25 true [int n,.slice av P.length cap,.slice aw T.length capw]) = H1:=⟨_,rfl⟩
 obtain ⟨H1,hH1⟩:=hex1
 have aG:H1.at h.next = some (.row 25 true [int n,.slice av P.length cap,.slice aw T.length capw]):=by rw [← hH1]; exact Hp.at_lay_self _ _
 have gG:Grows h H1:=by rw [← hH1]; exact Grows.lay _ _
 have hex2:∃ H2,H1.lay (.row 51 true [.int .i64 0,.int .i64 0,.int .i64 0,.int .i64 0,.int .i64 0,.int .i64 0,.int .i64 0,.int .i64 0]) = H2:=⟨_,rfl⟩
 obtain ⟨H2,hH2⟩:=hex2
 have aR:H2.at H1.next = some (.row 51 true [.int .i64 0,.int .i64 0,.int .i64 0,.int .i64 0,.int .i64 0,.int .i64 0,.int .i64 0,.int .i64 0]):=by rw [← hH2]; exact Hp.at_lay_self _ _
 have gR:Grows H1 H2:=by rw [← hH2]; exact Grows.lay _ _
 have nh:=gG.next
 refine enter22 (by simp) ?_
 conv=>whnf
 refine SeqP.cut (α:=Unit) (fun _=>[(2,ptr h.next 0),(4,ptr H1.next 0),(1,.slice al l.length capl)]) (fun _ H=>H = H2) ?_ ?_
 ·conv=>whnf
  exact ⟨(),⟨rfl,by rw [← hH1]; rfl,rfl,trivial⟩,by rw [← hH2,← hH1] <;> rfl,rfl⟩
 rintro _ φ H2 rfl
 have aG2:=gR.at_ _ _ aG
 have g02:=gG.trans gR
 generalize h.next = G at aG aG2
 generalize H1.next = R at aR nh
 conv=>whnf
 repeat (refine SeqP.go ?_; conv=>whnf)
 refine ⟨_,cellsAt_row aG2 (by simp),?_⟩
 conv=>whnf
 refine CallP.mono (flow_spec n _ _ P T hl hT _ l hl2 _ (hv.ext g02) (hw.ext g02) (hi.ext g02)) ?_
 rintro r H3 ⟨rfl,g3⟩
 have aR3:=g3.at_ _ _ aR
 conv=>whnf
 repeat (refine SeqP.go ?_; conv=>whnf)
 refine cmpT hc ?_
 conv=>whnf
 repeat (refine SeqP.go ?_; conv=>whnf)
 refine ⟨rfl,_,storeAt_full (vs:=[.int .i64 0,.int .i64 0,.int .i64 0,.int .i64 0,.int .i64 0,.int .i64 0,.int .i64 0,.int .i64 0]) aR3 rfl rfl rfl,?_⟩
 conv=>whnf
 repeat (refine SeqP.go ?_; conv=>whnf)
 refine leave_cell2 (r:=R) (o:=0) (cs:=[.int .i64 0,.int .i64 0,.int .i64 0,.int .i64 0,.int .i64 0,.int .i64 0,.int .i64 0,.int .i64 0]) (w:=int (cfl n P T l P.length)) rfl rfl rfl te51 ag51 ?_ ?_
 ·rw [sz51,cellsAt_row (Hp.at_set_self _ (Hp.lt_of_at aR3)) (Nat.le_refl _)]
  rfl
 ·exact ⟨rfl,(g02.trans g3).then_set _ nh⟩
end
end Go.Proofs.Ytljbibjnidccbab
namespace Go.Proofs.Ytljbibjnidccbab
open Go.Rx Go.RowKit
structure SV (n:Int) (P:List (Int×Int)) (T:List (Int×Int×Int)) (f:List Int) (X Y:Nat) (xa xb ya yb fa:Option Addr) (yc yd fc:Nat) (H:Hp):Prop where
 aX:H.at X = some (.row 27 true [int n,.slice xa P.length P.length,.slice xb T.length T.length])
 aY:H.at Y = some (.row 25 true [int n,.slice ya P.length yc,.slice yb T.length yd])
 px:PairsV H (.slice xa P.length P.length) P
 tx:TripV H (.slice xb T.length T.length) T
 py:PairsV H (.slice ya P.length yc) P
 ty:TripV H (.slice yb T.length yd) T
 fi:Ints H (.slice fa f.length fc) f
theorem SV.ext {n:Int} {P:List (Int×Int)} {T:List (Int×Int×Int)} {f:List Int} {X Y:Nat} {xa xb ya yb fa:Option Addr} {yc yd fc:Nat} {H H':Hp} (k:SV n P T f X Y xa xb ya yb fa yc yd fc H) (g:Grows H H'):SV n P T f X Y xa xb ya yb fa yc yd fc H' :=
 ⟨g.at_ _ _ k.aX,g.at_ _ _ k.aY,k.px.ext g,k.tx.ext g,k.py.ext g,k.ty.ext g,k.fi.ext g⟩
theorem bool_neq (x y:Operand) (b:Bool):aBin E .neq 4 x y (.bool b) (.bool b) = some (.bool false):=by
 cases b <;> kernel_rfl
theorem zero_eq (x y:Operand):aBin E .eql 51 x y (.agg ⟨[.int .i64 0,.int .i64 0,.int .i64 0,.int .i64 0,.int .i64 0,.int .i64 0,.int .i64 0,.int .i64 0]⟩) (.agg ⟨[.int .i64 0,.int .i64 0,.int .i64 0,.int .i64 0,.int .i64 0,.int .i64 0,.int .i64 0,.int .i64 0]⟩) = some (.bool true):=by
 kernel_rfl
attribute [local irreducible] E idxN cellAt cellsAt storeAt callable helems hmoved lookIn findKey keyOk hentries Hp.at Hp.set Hp.lay arBits hupdated setAt CallP YieldP BoolOf IsWrap Rnd LoopP AppP CutP Int.tmod Int.tdiv Int.fdiv
section
variable [Unknowns]
attribute [local irreducible] ResP sameAt flat flat3
theorem checks_law (n:Int) (L:List (Int×Int)) (M:List (Int×Int×Int)) (q:List Int) (hL:L.length < 9223372036854775808) (hM:M.length < 9223372036854775808) (hq:q.length < 9223372036854775808) (v w u:Value) (h:Hp) (hv:LentV h v L.length (flat L)) (hw:LentV h w M.length (flat3 M)) (hu:LentV h u q.length q) :
  CallP E 3 [.agg ⟨[int n,v,w]⟩,u] h (fun r _=>r = .bool true):=by
 obtain ⟨av,cap,rfl,-⟩:=id hv.pairs
 obtain ⟨aw,capw,rfl,-⟩:=id (LentV.trips hw)
 have huv:=LentV.view hu
 have huk:=huv.known
 obtain ⟨au,capu,rfl⟩:=huk
 have hexP:∃ P,L.take 11 = P∧P.length≤11:=⟨_,rfl,by rw [List.length_take]; omega⟩
 obtain ⟨P,hPe,hl⟩:=hexP
 have hexT:∃ T,M.take 7 = T∧T.length≤7:=⟨_,rfl,by rw [List.length_take]; omega⟩
 obtain ⟨T,hTe,hT⟩:=hexT
 have hexF:∃ f,q.take 11 = f∧f.length≤11:=⟨_,rfl,by rw [List.length_take]; omega⟩
 obtain ⟨f,hfe,hf⟩:=hexF
 have hexW:∃ W:Int,(GOk n P T→W = 1)∧(¬ GOk n P T→W = 30)∧W≠0:=by
  by_cases hg:GOk n P T
  ·exact ⟨1,fun _=>rfl,fun h=>absurd hg h,by omega⟩
  ·exact ⟨30,fun h=>absurd h hg,fun _=>rfl,by omega⟩
 obtain ⟨W,hW1,hW30,hW0⟩:=hexW
 have hcw:∀ m,¬ (GOk n P T∧NOk f m)→cfl n P T f m = W:=fun m hn=>by
  by_cases hg:GOk n P T
  ·rw [hW1 hg]; exact cfl_one hg fun k=>hn ⟨hg,k⟩
  ·rw [hW30 hg]; exact cfl_no hg
 have hex1:∃ H1,h.lay (.row 25 true [int n,.slice av L.length cap,.slice aw M.length capw]) = H1:=⟨_,rfl⟩
 obtain ⟨H1,hH1⟩:=hex1
 have aD:H1.at h.next = some (.row 25 true [int n,.slice av L.length cap,.slice aw M.length capw]):=by rw [← hH1]; exact Hp.at_lay_self _ _
 have gD:Grows h H1:=by rw [← hH1]; exact Grows.lay _ _
 refine enter3 (by simp) ?_
 conv=>whnf
 refine SeqP.cut (α:=Unit) (fun _=>[(2,ptr h.next 0),(1,.slice au q.length capu)]) (fun _ H=>H = H1) ?_ ?_
 ·conv=>whnf
  exact ⟨(),⟨rfl,rfl,trivial⟩,hH1,rfl⟩
 rintro _ φ H1 rfl
 generalize h.next = D at aD
 conv=>whnf
 refine SeqP.cut (α:=Option Addr×Option Addr×Nat×Hp) (fun s=>[(2,ptr D 0),(1,.slice au q.length capu),(5,ptr s.2.2.1 0)]) (fun s H=>H = s.2.2.2∧s.2.2.2.at s.2.2.1 = some (.row 27 true [int n,.slice s.1 P.length P.length,.slice s.2.1 T.length T.length])∧BuiltC H1 s.2.2.2 57 2 (.slice s.1 P.length P.length) P.length ((flat P).map int)∧BuiltC H1 s.2.2.2 58 3 (.slice s.2.1 T.length T.length) T.length ((flat3 T).map int)∧Grows H1 s.2.2.2) ?_ ?_
 ·conv=>whnf
  refine ⟨_,cellsAt_row aD (by simp),?_⟩
  conv=>whnf
  refine CallP.mono (own_spec n _ _ L M H1 (hv.ext gD) (hw.ext gD) hL hM) ?_
  rw [hPe,hTe]
  rintro r H2 ⟨⟨a,b,rfl,ha,hb⟩,g2⟩
  have has:=ha.slice
  obtain ⟨a1,rfl,-⟩:=has
  have hbs:=hb.slice
  obtain ⟨b1,rfl,-⟩:=hbs
  conv=>whnf
  refine ⟨rfl,_,storeAt_all (vs:=[int n,.slice a1 P.length P.length,.slice b1 T.length T.length]) rfl rfl rfl,?_⟩
  conv=>whnf
  have gl:Grows H2 (H2.lay (.row 27 true [int n,.slice a1 P.length P.length,.slice b1 T.length T.length])):=Grows.lay _ _
  exact ⟨(a1,b1,H2.next,_),⟨rfl,rfl,rfl,trivial⟩,⟨rfl,Hp.at_lay_self _ _,ha.ext gl,hb.ext gl,g2.trans gl⟩,rfl⟩
 rintro ⟨xa,xb,X,_⟩ φ H2 ⟨rfl,aX,hbx,hby,g2⟩
 dsimp only at aX hbx hby g2 ⊢
 have g02:=gD.trans g2
 conv=>whnf
 refine SeqP.cut (α:=(Option Addr×Nat)×(Option Addr×Nat)×Nat×Hp) (fun s=>[(1,.slice au q.length capu),(5,ptr X 0),(6,ptr s.2.2.1 0)]) (fun s H=>H = s.2.2.2∧s.2.2.2.at s.2.2.1 = some (.row 25 true [int n,.slice s.1.1 P.length s.1.2,.slice s.2.1.1 T.length s.2.1.2])∧PairsV s.2.2.2 (.slice s.1.1 P.length s.1.2) P∧TripV s.2.2.2 (.slice s.2.1.1 T.length s.2.1.2) T∧Grows H2 s.2.2.2) ?_ ?_
 ·conv=>whnf
  refine ⟨_,cellsAt_row aX (by simp),?_⟩
  conv=>whnf
  refine CallP.mono (given_spec H1 n _ _ P T (by omega) (by omega) H2 hbx hby) ?_
  rintro r H3 ⟨⟨a,b,rfl,ha,hb⟩,g3⟩
  obtain ⟨a1,c1,rfl,-⟩:=id ha
  obtain ⟨b1,d1,rfl,-⟩:=id hb
  conv=>whnf
  refine ⟨rfl,_,storeAt_all (vs:=[int n,.slice a1 P.length c1,.slice b1 T.length d1]) rfl rfl rfl,?_⟩
  conv=>whnf
  have gl:Grows H3 (H3.lay (.row 25 true [int n,.slice a1 P.length c1,.slice b1 T.length d1])):=Grows.lay _ _
  exact ⟨((a1,c1),(b1,d1),H3.next,_),⟨rfl,rfl,rfl,trivial⟩,⟨rfl,Hp.at_lay_self _ _,ha.ext gl,hb.ext gl,g3.trans gl⟩,rfl⟩
 rintro ⟨⟨ya,yc⟩,⟨yb,yd⟩,Y,_⟩ φ H3 ⟨rfl,aY,hpy,hty,g3⟩
 dsimp only at aY hpy hty g3 ⊢
 have hpx:=hbx.pairs.ext g3
 have htx:=(BuiltC.trips hby).ext g3
 have aX3:=g3.at_ _ _ aX
 have g03:=g02.trans g3
 clear aX hbx hby
 conv=>whnf
 refine SeqP.cut (α:=(Option Addr×Nat)×Hp) (fun s=>[(5,ptr X 0),(6,ptr Y 0),(7,.slice s.1.1 f.length s.1.2)]) (fun s H=>H = s.2∧SV n P T f X Y xa xb ya yb s.1.1 yc yd s.1.2 s.2) ?_ ?_
 ·conv=>whnf
  refine CallP.mono (few_spec _ q H3 (huv.ext g03) hq) ?_
  rw [hfe]
  rintro r H4 ⟨hb,g4⟩
  have hbi:=hb.ints
  obtain ⟨a1,c1,rfl,-⟩:=id hbi
  conv=>whnf
  exact ⟨((a1,c1),H4),⟨rfl,rfl,rfl,trivial⟩,⟨rfl,g4.at_ _ _ aX3,g4.at_ _ _ aY,hpx.ext g4,htx.ext g4,hpy.ext g4,hty.ext g4,hbi⟩,rfl⟩
 clear aX3 aY hpx htx hpy hty g03 g3 g2 g02 aD gD hH1 huv hu hv hw
 rintro ⟨⟨fa,fc⟩,_⟩ φ H4 ⟨rfl,sv⟩
 dsimp only at sv ⊢
 conv=>whnf
 refine SeqP.go ?_
 conv=>whnf
 refine SeqP.cut (α:=Hp) (fun _=>[(5,ptr X 0),(6,ptr Y 0),(7,.slice fa f.length fc),(8,int (chk n P T))]) (fun s H=>H = s∧SV n P T f X Y xa xb ya yb fa yc yd fc s) ?_ ?_
 ·conv=>whnf
  repeat (refine SeqP.go ?_; conv=>whnf)
  refine ⟨_,cellsAt_row sv.aX (by simp),?_⟩
  conv=>whnf
  refine CallP.mono (RCheck_spec n _ _ P T (by omega) (by omega) H4 sv.px sv.tx) ?_
  rintro r H5 ⟨⟨b,rfl,hb⟩,g5⟩
  cases b with
  | true =>
   have hc:=chk_ok (hb.1 rfl)
   conv=>whnf
   repeat (refine SeqP.go ?_; conv=>whnf)
   exact ⟨H5,⟨rfl,rfl,rfl,by rw [hc]; rfl,trivial⟩,⟨rfl,sv.ext g5⟩,rfl⟩
  | false =>
   have hc:=chk_no (fun hg=>by cases hb.2 hg)
   conv=>whnf
   repeat (refine SeqP.go ?_; conv=>whnf)
   exact ⟨H5,⟨rfl,rfl,rfl,by rw [hc]; rfl,trivial⟩,⟨rfl,sv.ext g5⟩,rfl⟩
 clear sv
 rintro _ φ H5 ⟨rfl,sv⟩
 conv=>whnf
 refine SeqP.cut (α:=Hp) (fun _=>[(5,ptr X 0),(6,ptr Y 0),(7,.slice fa f.length fc),(8,int (chk n P T))]) (fun s H=>H = s∧SV n P T f X Y xa xb ya yb fa yc yd fc s) ?_ ?_
 ·conv=>whnf
  repeat (refine SeqP.go ?_; conv=>whnf)
  refine ⟨_,cellsAt_row sv.aY (by simp),?_⟩
  conv=>whnf
  refine CallP.mono (Check_spec n _ _ P T (by omega) (by omega) H5 sv.py sv.ty) ?_
  rintro r H6 ⟨rfl,g6⟩
  conv=>whnf
  repeat (refine SeqP.go ?_; conv=>whnf)
  refine cmpF (by omega) ?_
  conv=>whnf
  repeat (refine SeqP.go ?_; conv=>whnf)
  exact ⟨H6,⟨rfl,rfl,rfl,rfl,trivial⟩,⟨rfl,sv.ext g6⟩,rfl⟩
 clear sv
 rintro _ φ H6 ⟨rfl,sv⟩
 conv=>whnf
 refine SeqP.cut (α:=Hp) (fun _=>[(5,ptr X 0),(6,ptr Y 0),(7,.slice fa f.length fc),(8,int W)]) (fun s H=>H = s∧SV n P T f X Y xa xb ya yb fa yc yd fc s) ?_ ?_
 ·conv=>whnf
  repeat (refine SeqP.go ?_; conv=>whnf)
  by_cases hg:GOk n P T
  ·have hW:=hW1 hg
   refine cmpF (fun h=>h (chk_ok hg)) ?_
   conv=>whnf
   repeat (refine SeqP.go ?_; conv=>whnf)
   exact ⟨H6,⟨rfl,rfl,rfl,by rw [hW]; rfl,trivial⟩,⟨rfl,sv⟩,rfl⟩
  ·have hc:=chk_no hg
   have hW:=hW30 hg
   refine cmpT (by omega) ?_
   conv=>whnf
   refine SeqP.cut (α:=Hp) (fun _=>[(5,ptr X 0),(6,ptr Y 0),(7,.slice fa f.length fc),(8,int (chk n P T)),(9,int 0),(10,int (chk n P T))]) (fun s H=>H = s∧SV n P T f X Y xa xb ya yb fa yc yd fc s) ?_ ?_
   ·conv=>whnf
    refine ⟨_,cellsAt_row sv.aY (by simp),?_⟩
    conv=>whnf
    refine CallP.mono (Gauge_err n _ _ P T (by omega) (by omega) H6 sv.py sv.ty (by omega)) ?_
    rintro r H7 ⟨rfl,g7⟩
    conv=>whnf
    exact ⟨H7,⟨rfl,rfl,rfl,rfl,rfl,rfl,trivial⟩,⟨rfl,sv.ext g7⟩,rfl⟩
   clear sv
   rintro _ φ H7 ⟨rfl,sv⟩
   conv=>whnf
   refine SeqP.cut (α:=Hp) (fun _=>[(5,ptr X 0),(6,ptr Y 0),(7,.slice fa f.length fc),(8,int (chk n P T)),(9,int 0),(10,int (chk n P T)),(11,int 0),(12,int (chk n P T))]) (fun s H=>H = s∧SV n P T f X Y xa xb ya yb fa yc yd fc s) ?_ ?_
   ·conv=>whnf
    refine ⟨_,cellsAt_row sv.aY (by simp),?_⟩
    conv=>whnf
    refine CallP.mono (Pieces_err n _ _ P T (by omega) (by omega) H7 sv.py sv.ty (by omega)) ?_
    rintro r H8 ⟨rfl,g8⟩
    conv=>whnf
    exact ⟨H8,⟨rfl,rfl,rfl,rfl,rfl,rfl,rfl,rfl,trivial⟩,⟨rfl,sv.ext g8⟩,rfl⟩
   clear sv
   rintro _ φ H8 ⟨rfl,sv⟩
   conv=>whnf
   repeat (refine SeqP.go ?_; conv=>whnf)
   refine cmpF (by omega) ?_
   conv=>whnf
   refine cmpF (by omega) ?_
   conv=>whnf
   refine ⟨0,wie (by omega) (by omega),?_⟩
   conv=>whnf
   refine cmpF (by omega) ?_
   conv=>whnf
   repeat (refine SeqP.go ?_; conv=>whnf)
   exact ⟨H8,⟨rfl,rfl,rfl,by rw [hW,hc]; rfl,trivial⟩,⟨rfl,sv⟩,rfl⟩
 clear sv
 rintro _ φ H6 ⟨rfl,sv⟩
 conv=>whnf
 refine SeqP.cut (α:=Bool×Hp) (fun s=>[(5,ptr X 0),(6,ptr Y 0),(7,.slice fa f.length fc),(8,int W),(13,.bool s.1)]) (fun s H=>H = s.2∧(s.1 = false↔GOk n P T)∧SV n P T f X Y xa xb ya yb fa yc yd fc s.2) ?_ ?_
 ·conv=>whnf
  refine ⟨_,cellsAt_row sv.aX (by simp),?_⟩
  conv=>whnf
  refine CallP.mono (RCheck_spec n _ _ P T (by omega) (by omega) H6 sv.px sv.tx) ?_
  rintro r H5 ⟨⟨b,rfl,hb⟩,g5⟩
  cases b with
  | true =>
   conv=>whnf
   exact ⟨(false,H5),⟨rfl,rfl,rfl,rfl,rfl,trivial⟩,⟨rfl,⟨fun _=>hb.1 rfl,fun _=>rfl⟩,sv.ext g5⟩,rfl⟩
  | false =>
   conv=>whnf
   exact ⟨(true,H5),⟨rfl,rfl,rfl,rfl,rfl,trivial⟩,⟨rfl,⟨fun h=>(by cases h),fun h=>by cases hb.2 h⟩,sv.ext g5⟩,rfl⟩
 clear sv
 rintro ⟨bad,_⟩ φ H6 ⟨rfl,hbad,sv⟩
 dsimp only at hbad sv ⊢
 conv=>whnf
 refine SeqP.cut (α:=Hp) (fun s=>[(5,ptr X 0),(6,ptr Y 0),(7,.slice fa f.length fc),(8,int W),(13,.bool bad)]) (fun s H=>H = s∧SV n P T f X Y xa xb ya yb fa yc yd fc s) ?_ ?_
 ·have hcl:=Gradient_any n _ _ P T (by omega) (by omega) _ f (by omega) H6 sv.py sv.ty sv.fi
  conv=>whnf
  repeat (refine SeqP.go ?_; conv=>whnf)
  refine ⟨_,cellsAt_row sv.aY (by simp),?_⟩
  conv=>whnf
  refine CallP.mono hcl ?_
  rintro r H7 ⟨⟨Z,rfl,hz⟩ | ⟨rfl,hz⟩,g7⟩
  ·have hgn:=cfl_iff.1 hz
   have hb0:=hbad.2 hgn.1
   subst hb0
   have sv7:=sv.ext g7
   conv=>whnf
   repeat (refine SeqP.go ?_; conv=>whnf)
   refine ⟨_,cellAt_row sv7.aX rfl,?_⟩
   conv=>whnf
   refine CallP.mono (Numbers_spec _ f n (by omega) H7 sv7.fi) ?_
   rintro r H8 ⟨⟨b,rfl,hb⟩,rfl⟩
   have hbt:=hb.2 hgn.2
   subst hbt
   conv=>whnf
   refine cmpF (by omega) ?_
   conv=>whnf
   refine resP_val (v:=.bool false) (h:=H8) ?_ ?_
   ·show hval _ (aBin E .neq 4 _ _ (.bool false) (.bool false)) = _
    rw [bool_neq]
    rfl
   conv=>whnf
   refine cmpF (by omega) ?_
   conv=>whnf
   repeat (refine SeqP.go ?_; conv=>whnf)
   exact ⟨H8,⟨rfl,rfl,rfl,rfl,rfl,trivial⟩,⟨rfl,sv7⟩,rfl⟩
  ·have hgn:¬ (GOk n P T∧NOk f n):=fun h=>hz (cfl_iff.2 h)
   rw [hcw _ hgn]
   have sv7:=sv.ext g7
   cases bad with
   | true =>
    conv=>whnf
    repeat (refine SeqP.go ?_; conv=>whnf)
    refine cmpT (by omega) ?_
    conv=>whnf
    refine resP_val (v:=.bool false) (h:=H7) ?_ ?_
    ·show hval _ (aBin E .neq 4 _ _ (.bool true) (.bool true)) = _
     rw [bool_neq]
     rfl
    conv=>whnf
    refine cmpT (by omega) ?_
    conv=>whnf
    refine cmpF (by omega) ?_
    conv=>whnf
    refine cmpF (by omega) ?_
    conv=>whnf
    repeat (refine SeqP.go ?_; conv=>whnf)
    exact ⟨H7,⟨rfl,rfl,rfl,rfl,rfl,trivial⟩,⟨rfl,sv7⟩,rfl⟩
   | false =>
    conv=>whnf
    repeat (refine SeqP.go ?_; conv=>whnf)
    refine ⟨_,cellAt_row sv7.aX rfl,?_⟩
    conv=>whnf
    refine CallP.mono (Numbers_spec _ f n (by omega) H7 sv7.fi) ?_
    rintro r H8 ⟨⟨b,rfl,hb⟩,rfl⟩
    cases b with
    | true=>exact absurd ⟨hbad.1 rfl,hb.1 rfl⟩ hgn
    | false =>
     conv=>whnf
     refine cmpT (by omega) ?_
     conv=>whnf
     refine resP_val (v:=.bool false) (h:=H8) ?_ ?_
     ·show hval _ (aBin E .neq 4 _ _ (.bool true) (.bool true)) = _
      rw [bool_neq]
      rfl
     conv=>whnf
     refine cmpT (by omega) ?_
     conv=>whnf
     refine cmpF (by omega) ?_
     conv=>whnf
     refine cmpF (by omega) ?_
     conv=>whnf
     repeat (refine SeqP.go ?_; conv=>whnf)
     exact ⟨H8,⟨rfl,rfl,rfl,rfl,rfl,trivial⟩,⟨rfl,sv7⟩,rfl⟩
 clear sv
 rintro _ φ H6 ⟨rfl,sv⟩
 conv=>whnf
 refine SeqP.cut (α:=Hp) (fun s=>[(5,ptr X 0),(6,ptr Y 0),(7,.slice fa f.length fc),(8,int W),(13,.bool bad)]) (fun s H=>H = s∧SV n P T f X Y xa xb ya yb fa yc yd fc s) ?_ ?_
 ·have hcl:=Swirl_any n _ _ P T (by omega) (by omega) _ f (by omega) H6 sv.py sv.ty sv.fi
  conv=>whnf
  repeat (refine SeqP.go ?_; conv=>whnf)
  refine ⟨_,cellsAt_row sv.aY (by simp),?_⟩
  conv=>whnf
  refine CallP.mono hcl ?_
  rintro r H7 ⟨⟨Z,rfl,hz⟩ | ⟨rfl,hz⟩,g7⟩
  ·have hgn:=cfl_iff.1 hz
   have hb0:=hbad.2 hgn.1
   subst hb0
   have sv7:=sv.ext g7
   conv=>whnf
   repeat (refine SeqP.go ?_; conv=>whnf)
   refine ⟨_,cellAt_row sv7.aX rfl,?_⟩
   conv=>whnf
   refine CallP.mono (Numbers_spec _ f T.length (by omega) H7 sv7.fi) ?_
   rintro r H8 ⟨⟨b,rfl,hb⟩,rfl⟩
   have hbt:=hb.2 hgn.2
   subst hbt
   conv=>whnf
   refine cmpF (by omega) ?_
   conv=>whnf
   refine resP_val (v:=.bool false) (h:=H8) ?_ ?_
   ·show hval _ (aBin E .neq 4 _ _ (.bool false) (.bool false)) = _
    rw [bool_neq]
    rfl
   conv=>whnf
   refine cmpF (by omega) ?_
   conv=>whnf
   repeat (refine SeqP.go ?_; conv=>whnf)
   exact ⟨H8,⟨rfl,rfl,rfl,rfl,rfl,trivial⟩,⟨rfl,sv7⟩,rfl⟩
  ·have hgn:¬ (GOk n P T∧NOk f T.length):=fun h=>hz (cfl_iff.2 h)
   rw [hcw _ hgn]
   have sv7:=sv.ext g7
   cases bad with
   | true =>
    conv=>whnf
    repeat (refine SeqP.go ?_; conv=>whnf)
    refine cmpT (by omega) ?_
    conv=>whnf
    refine resP_val (v:=.bool false) (h:=H7) ?_ ?_
    ·show hval _ (aBin E .neq 4 _ _ (.bool true) (.bool true)) = _
     rw [bool_neq]
     rfl
    conv=>whnf
    refine cmpT (by omega) ?_
    conv=>whnf
    refine cmpF (by omega) ?_
    conv=>whnf
    refine cmpF (by omega) ?_
    conv=>whnf
    repeat (refine SeqP.go ?_; conv=>whnf)
    exact ⟨H7,⟨rfl,rfl,rfl,rfl,rfl,trivial⟩,⟨rfl,sv7⟩,rfl⟩
   | false =>
    conv=>whnf
    repeat (refine SeqP.go ?_; conv=>whnf)
    refine ⟨_,cellAt_row sv7.aX rfl,?_⟩
    conv=>whnf
    refine CallP.mono (Numbers_spec _ f T.length (by omega) H7 sv7.fi) ?_
    rintro r H8 ⟨⟨b,rfl,hb⟩,rfl⟩
    cases b with
    | true=>exact absurd ⟨hbad.1 rfl,hb.1 rfl⟩ hgn
    | false =>
     conv=>whnf
     refine cmpT (by omega) ?_
     conv=>whnf
     refine resP_val (v:=.bool false) (h:=H8) ?_ ?_
     ·show hval _ (aBin E .neq 4 _ _ (.bool true) (.bool true)) = _
      rw [bool_neq]
      rfl
     conv=>whnf
     refine cmpT (by omega) ?_
     conv=>whnf
     refine cmpF (by omega) ?_
     conv=>whnf
     refine cmpF (by omega) ?_
     conv=>whnf
     repeat (refine SeqP.go ?_; conv=>whnf)
     exact ⟨H8,⟨rfl,rfl,rfl,rfl,rfl,trivial⟩,⟨rfl,sv7⟩,rfl⟩
 clear sv
 rintro _ φ H6 ⟨rfl,sv⟩
 conv=>whnf
 refine SeqP.cut (α:=Hp) (fun s=>[(5,ptr X 0),(6,ptr Y 0),(7,.slice fa f.length fc),(8,int W)]) (fun s H=>H = s∧SV n P T f X Y xa xb ya yb fa yc yd fc s∧¬ (GOk n P T∧NOk f P.length)) ?_ ?_
 ·conv=>whnf
  repeat (refine SeqP.go ?_; conv=>whnf)
  cases bad with
  | true =>
   conv=>whnf
   repeat (refine SeqP.go ?_; conv=>whnf)
   exact ⟨H6,⟨rfl,rfl,rfl,rfl,trivial⟩,⟨rfl,sv,fun h=>by cases hbad.2 h.1⟩,rfl⟩
  | false =>
   conv=>whnf
   refine ⟨_,cellAt_row sv.aX rfl,?_⟩
   conv=>whnf
   refine CallP.mono (Numbers_spec _ f P.length (by omega) H6 sv.fi) ?_
   rintro r H8 ⟨⟨b,rfl,hb⟩,rfl⟩
   cases b with
   | true =>
    conv=>whnf
    repeat (refine SeqP.go ?_; conv=>whnf)
    refine memo14 ?_
    conv=>whnf
    repeat (refine SeqP.go ?_; conv=>whnf)
    rfl
   | false =>
    conv=>whnf
    repeat (refine SeqP.go ?_; conv=>whnf)
    exact ⟨H8,⟨rfl,rfl,rfl,rfl,trivial⟩,⟨rfl,sv,fun h=>by cases hb.2 h.2⟩,rfl⟩
 clear sv
 rintro _ φ H6 ⟨rfl,sv,hno⟩
 have hcW:=hcw _ hno
 have hc0:cfl n P T f P.length≠0:=by omega
 conv=>whnf
 refine SeqP.cut (α:=Hp) (fun s=>[(5,ptr X 0),(6,ptr Y 0),(7,.slice fa f.length fc),(8,int W),(18,.slice none 0 0),(19,int W)]) (fun s H=>H = s∧SV n P T f X Y xa xb ya yb fa yc yd fc s) ?_ ?_
 ·have hcl:=Gains_err n _ _ P T (by omega) (by omega) _ f (by omega) H6 sv.py sv.ty sv.fi hc0
  rw [hcW] at hcl
  conv=>whnf
  refine ⟨_,cellsAt_row sv.aY (by simp),?_⟩
  conv=>whnf
  refine CallP.mono hcl ?_
  rintro r H7 ⟨rfl,g7⟩
  conv=>whnf
  exact ⟨H7,⟨rfl,rfl,rfl,rfl,rfl,rfl,trivial⟩,⟨rfl,sv.ext g7⟩,rfl⟩
 clear sv
 rintro _ φ H6 ⟨rfl,sv⟩
 conv=>whnf
 refine SeqP.cut (α:=Hp) (fun s=>[(5,ptr X 0),(6,ptr Y 0),(7,.slice fa f.length fc),(8,int W),(18,.slice none 0 0),(19,int W),(20,.slice none 0 0),(21,int W)]) (fun s H=>H = s∧SV n P T f X Y xa xb ya yb fa yc yd fc s) ?_ ?_
 ·have hcl:=Turns_err n _ _ P T (by omega) (by omega) _ f (by omega) H6 sv.py sv.ty sv.fi hc0
  rw [hcW] at hcl
  conv=>whnf
  refine ⟨_,cellsAt_row sv.aY (by simp),?_⟩
  conv=>whnf
  refine CallP.mono hcl ?_
  rintro r H7 ⟨rfl,g7⟩
  conv=>whnf
  exact ⟨H7,⟨rfl,rfl,rfl,rfl,rfl,rfl,rfl,rfl,trivial⟩,⟨rfl,sv.ext g7⟩,rfl⟩
 clear sv
 rintro _ φ H6 ⟨rfl,sv⟩
 conv=>whnf
 refine SeqP.cut (α:=Hp) (fun s=>[(5,ptr X 0),(6,ptr Y 0),(7,.slice fa f.length fc),(8,int W),(18,.slice none 0 0),(19,int W),(20,.slice none 0 0),(21,int W),(22,.slice none 0 0),(23,.bool false),(24,int W)]) (fun s H=>H = s∧SV n P T f X Y xa xb ya yb fa yc yd fc s) ?_ ?_
 ·have hcl:=Heights_err n _ _ P T (by omega) (by omega) _ f (by omega) H6 sv.py sv.ty sv.fi hc0
  rw [hcW] at hcl
  conv=>whnf
  refine ⟨_,cellsAt_row sv.aY (by simp),?_⟩
  conv=>whnf
  refine CallP.mono hcl ?_
  rintro r H7 ⟨rfl,g7⟩
  conv=>whnf
  exact ⟨H7,⟨rfl,rfl,rfl,rfl,rfl,rfl,rfl,rfl,rfl,rfl,rfl,trivial⟩,⟨rfl,sv.ext g7⟩,rfl⟩
 clear sv
 rintro _ φ H6 ⟨rfl,sv⟩
 conv=>whnf
 refine SeqP.cut (α:=Hp) (fun s=>[(5,ptr X 0),(6,ptr Y 0),(7,.slice fa f.length fc),(8,int W),(18,.slice none 0 0),(19,int W),(20,.slice none 0 0),(21,int W),(22,.slice none 0 0),(23,.bool false),(24,int W),(25,.slice none 0 0),(26,.bool false),(27,int W)]) (fun s H=>H = s∧SV n P T f X Y xa xb ya yb fa yc yd fc s) ?_ ?_
 ·have hcl:=Ring_err n _ _ P T (by omega) (by omega) _ f (by omega) H6 sv.py sv.ty sv.fi hc0
  rw [hcW] at hcl
  conv=>whnf
  refine ⟨_,cellsAt_row sv.aY (by simp),?_⟩
  conv=>whnf
  refine CallP.mono hcl ?_
  rintro r H7 ⟨rfl,g7⟩
  conv=>whnf
  exact ⟨H7,⟨rfl,rfl,rfl,rfl,rfl,rfl,rfl,rfl,rfl,rfl,rfl,rfl,rfl,rfl,trivial⟩,⟨rfl,sv.ext g7⟩,rfl⟩
 clear sv
 rintro _ φ H6 ⟨rfl,sv⟩
 conv=>whnf
 refine SeqP.cut (α:=Hp) (fun s=>[(5,ptr X 0),(6,ptr Y 0),(7,.slice fa f.length fc),(8,int W),(18,.slice none 0 0),(19,int W),(20,.slice none 0 0),(21,int W),(22,.slice none 0 0),(23,.bool false),(24,int W),(25,.slice none 0 0),(26,.bool false),(27,int W),(28,int 0),(29,.bool false),(30,int W)]) (fun s H=>H = s∧SV n P T f X Y xa xb ya yb fa yc yd fc s) ?_ ?_
 ·conv=>whnf
  refine ⟨_,cellsAt_row sv.aY (by simp),?_⟩
  conv=>whnf
  have gl:Grows H6 (H6.lay (.row 3 true [int 0,int 1,int 2])):=Grows.lay _ _
  have svl:=sv.ext gl
  have hcl:=IsRing_err n _ _ P T (by omega) (by omega) _ f (by omega) (slc H6.next 0 3 3) _ svl.py svl.ty svl.fi hc0
  rw [hcW] at hcl
  refine CallP.mono hcl ?_
  rintro r H7 ⟨rfl,g7⟩
  conv=>whnf
  exact ⟨H7,⟨rfl,rfl,rfl,rfl,rfl,rfl,rfl,rfl,rfl,rfl,rfl,rfl,rfl,rfl,rfl,rfl,rfl,trivial⟩,⟨rfl,svl.ext g7⟩,rfl⟩
 clear sv
 rintro _ φ H6 ⟨rfl,sv⟩
 conv=>whnf
 refine SeqP.cut (α:=Nat×Hp) (fun s=>[(5,ptr X 0),(6,ptr Y 0),(7,.slice fa f.length fc),(8,int W),(18,.slice none 0 0),(19,int W),(20,.slice none 0 0),(21,int W),(22,.slice none 0 0),(23,.bool false),(24,int W),(25,.slice none 0 0),(26,.bool false),(27,int W),(28,int 0),(29,.bool false),(30,int W),(31,ptr s.1 0),(32,int W)]) (fun s H=>H = s.2∧SV n P T f X Y xa xb ya yb fa yc yd fc s.2∧s.2.at s.1 = some (.row 45 true [nilS,nilS,nilS])) ?_ ?_
 ·have hcl:=Parts_err n _ _ P T (by omega) (by omega) _ f (by omega) H6 sv.py sv.ty sv.fi hc0
  rw [hcW] at hcl
  conv=>whnf
  refine ⟨_,cellsAt_row sv.aY (by simp),?_⟩
  conv=>whnf
  refine CallP.mono hcl ?_
  rintro r H7 ⟨rfl,g7⟩
  have gl:Grows H7 (H7.lay (.row 45 true [nilS,nilS,nilS])):=Grows.lay _ _
  conv=>whnf
  refine ⟨rfl,_,storeAt_all (vs:=[nilS,nilS,nilS]) rfl rfl rfl,?_⟩
  conv=>whnf
  exact ⟨(H7.next,_),⟨rfl,rfl,rfl,rfl,rfl,rfl,rfl,rfl,rfl,rfl,rfl,rfl,rfl,rfl,rfl,rfl,rfl,rfl,rfl,trivial⟩,⟨rfl,(sv.ext g7).ext gl,Hp.at_lay_self _ _⟩,rfl⟩
 clear sv
 rintro ⟨Za,_⟩ φ H6 ⟨rfl,sv,aZa⟩
 dsimp only at sv aZa ⊢
 conv=>whnf
 refine SeqP.cut (α:=Hp) (fun s=>[(5,ptr X 0),(6,ptr Y 0),(7,.slice fa f.length fc),(8,int W),(18,.slice none 0 0),(19,int W),(20,.slice none 0 0),(21,int W),(22,.slice none 0 0),(23,.bool false),(24,int W),(25,.slice none 0 0),(26,.bool false),(27,int W),(28,int 0),(29,.bool false),(30,int W),(31,ptr Za 0),(32,int W),(33,.slice none 0 0),(34,int W)]) (fun s H=>H = s∧SV n P T f X Y xa xb ya yb fa yc yd fc s∧s.at Za = some (.row 45 true [nilS,nilS,nilS])) ?_ ?_
 ·have hcl:=Best_err n _ _ P T (by omega) (by omega) _ f (by omega) H6 sv.py sv.ty sv.fi hc0
  rw [hcW] at hcl
  conv=>whnf
  refine ⟨_,cellsAt_row sv.aY (by simp),?_⟩
  conv=>whnf
  refine CallP.mono hcl ?_
  rintro r H7 ⟨rfl,g7⟩
  conv=>whnf
  exact ⟨H7,⟨rfl,rfl,rfl,rfl,rfl,rfl,rfl,rfl,rfl,rfl,rfl,rfl,rfl,rfl,rfl,rfl,rfl,rfl,rfl,rfl,rfl,trivial⟩,⟨rfl,sv.ext g7,g7.at_ _ _ aZa⟩,rfl⟩
 clear sv aZa
 rintro _ φ H6 ⟨rfl,sv,aZa⟩
 conv=>whnf
 refine SeqP.cut (α:=Nat×Hp) (fun s=>[(5,ptr X 0),(6,ptr Y 0),(7,.slice fa f.length fc),(8,int W),(18,.slice none 0 0),(19,int W),(20,.slice none 0 0),(21,int W),(22,.slice none 0 0),(23,.bool false),(24,int W),(25,.slice none 0 0),(26,.bool false),(27,int W),(28,int 0),(29,.bool false),(30,int W),(31,ptr Za 0),(32,int W),(33,.slice none 0 0),(34,int W),(35,ptr s.1 0),(36,int W)]) (fun s H=>H = s.2∧SV n P T f X Y xa xb ya yb fa yc yd fc s.2∧s.2.at Za = some (.row 45 true [nilS,nilS,nilS])∧s.2.at s.1 = some (.row 51 true [.int .i64 0,.int .i64 0,.int .i64 0,.int .i64 0,.int .i64 0,.int .i64 0,.int .i64 0,.int .i64 0])) ?_ ?_
 ·have hcl:=Sizes_err n _ _ P T (by omega) (by omega) _ f (by omega) H6 sv.py sv.ty sv.fi hc0
  rw [hcW] at hcl
  conv=>whnf
  refine ⟨_,cellsAt_row sv.aY (by simp),?_⟩
  conv=>whnf
  refine CallP.mono hcl ?_
  rintro r H7 ⟨rfl,g7⟩
  have gl:Grows H7 (H7.lay (.row 51 true [.int .i64 0,.int .i64 0,.int .i64 0,.int .i64 0,.int .i64 0,.int .i64 0,.int .i64 0,.int .i64 0])):=Grows.lay _ _
  conv=>whnf
  refine ⟨rfl,_,storeAt_all (vs:=[.int .i64 0,.int .i64 0,.int .i64 0,.int .i64 0,.int .i64 0,.int .i64 0,.int .i64 0,.int .i64 0]) rfl rfl rfl,?_⟩
  conv=>whnf
  exact ⟨(H7.next,_),⟨rfl,rfl,rfl,rfl,rfl,rfl,rfl,rfl,rfl,rfl,rfl,rfl,rfl,rfl,rfl,rfl,rfl,rfl,rfl,rfl,rfl,rfl,rfl,trivial⟩,⟨rfl,(sv.ext g7).ext gl,gl.at_ _ _ (g7.at_ _ _ aZa),Hp.at_lay_self _ _⟩,rfl⟩
 clear sv aZa
 rintro ⟨Zb,_⟩ φ H6 ⟨rfl,sv,aZa,aZb⟩
 dsimp only at sv aZa aZb ⊢
 conv=>whnf
 refine SeqP.cut (α:=Hp) (fun s=>[(5,ptr X 0),(6,ptr Y 0),(7,.slice fa f.length fc),(8,int W),(18,.slice none 0 0),(19,int W),(20,.slice none 0 0),(21,int W),(22,.slice none 0 0),(23,.bool false),(24,int W),(25,.slice none 0 0),(26,.bool false),(27,int W),(28,int 0),(29,.bool false),(30,int W),(31,ptr Za 0),(32,int W),(33,.slice none 0 0),(34,int W),(35,ptr Zb 0),(36,int W),(37,.bool false),(38,int W)]) (fun s H=>H = s∧SV n P T f X Y xa xb ya yb fa yc yd fc s∧s.at Za = some (.row 45 true [nilS,nilS,nilS])∧s.at Zb = some (.row 51 true [.int .i64 0,.int .i64 0,.int .i64 0,.int .i64 0,.int .i64 0,.int .i64 0,.int .i64 0,.int .i64 0])) ?_ ?_
 ·have hcl:=IsCalm_err n _ _ P T (by omega) (by omega) _ f (by omega) H6 sv.py sv.ty sv.fi hc0
  rw [hcW] at hcl
  conv=>whnf
  refine ⟨_,cellsAt_row sv.aY (by simp),?_⟩
  conv=>whnf
  refine CallP.mono hcl ?_
  rintro r H7 ⟨rfl,g7⟩
  conv=>whnf
  exact ⟨H7,⟨rfl,rfl,rfl,rfl,rfl,rfl,rfl,rfl,rfl,rfl,rfl,rfl,rfl,rfl,rfl,rfl,rfl,rfl,rfl,rfl,rfl,rfl,rfl,rfl,rfl,trivial⟩,⟨rfl,sv.ext g7,g7.at_ _ _ aZa,g7.at_ _ _ aZb⟩,rfl⟩
 clear sv aZa aZb
 rintro _ φ H6 ⟨rfl,sv,aZa,aZb⟩
 conv=>whnf
 repeat (refine SeqP.go ?_; conv=>whnf)
 refine cmpT (by omega) ?_
 conv=>whnf
 refine cmpT (by omega) ?_
 conv=>whnf
 refine cmpT (by omega) ?_
 conv=>whnf
 refine cmpT (by omega) ?_
 conv=>whnf
 refine cmpT (by omega) ?_
 conv=>whnf
 refine cmpT (by omega) ?_
 conv=>whnf
 refine cmpT (by omega) ?_
 conv=>whnf
 refine cmpT (by omega) ?_
 conv=>whnf
 refine cmpT (by omega) ?_
 conv=>whnf
 refine cmpT (by omega) ?_
 conv=>whnf
 refine ⟨0,wie (by omega) (by omega),?_⟩
 conv=>whnf
 refine ⟨0,wie (by omega) (by omega),?_⟩
 conv=>whnf
 refine ⟨0,wie (by omega) (by omega),?_⟩
 conv=>whnf
 refine ⟨⟨by omega,by omega⟩,?_⟩
 conv=>whnf
 refine ⟨_,cellAt_row aZa rfl,?_⟩
 conv=>whnf
 refine ⟨0,wie (by omega) (by omega),?_⟩
 conv=>whnf
 refine ⟨⟨by omega,by omega⟩,?_⟩
 conv=>whnf
 refine ⟨_,cellAt_row aZa rfl,?_⟩
 conv=>whnf
 refine ⟨0,wie (by omega) (by omega),?_⟩
 conv=>whnf
 refine ⟨⟨by omega,by omega⟩,?_⟩
 conv=>whnf
 refine ⟨_,cellAt_row aZa rfl,?_⟩
 conv=>whnf
 refine ⟨0,wie (by omega) (by omega),?_⟩
 conv=>whnf
 refine ⟨0,wie (by omega) (by omega),?_⟩
 conv=>whnf
 refine cmpT (by omega) ?_
 conv=>whnf
 refine ⟨_,cellsAt_row aZb (by simp),?_⟩
 conv=>whnf
 refine resP_val (v:=.bool true) (h:=H6) ?_ ?_
 ·show hval _ (aBin E .eql 51 _ _ (.agg ⟨[.int .i64 0,.int .i64 0,.int .i64 0,.int .i64 0,.int .i64 0,.int .i64 0,.int .i64 0,.int .i64 0]⟩) (.agg ⟨[.int .i64 0,.int .i64 0,.int .i64 0,.int .i64 0,.int .i64 0,.int .i64 0,.int .i64 0,.int .i64 0]⟩)) = _
  rw [zero_eq]
  rfl
 conv=>whnf
 refine memo14 ?_
 conv=>whnf
 repeat (refine SeqP.go ?_; conv=>whnf)
 rfl
end
end Go.Proofs.Ytljbibjnidccbab
namespace Go.Proofs.Ytljbibjnidccbab
open Go.Rx Go.RowKit
def fieldTy (i:Nat) (t:TypeId):Option TypeDesc→Option (TypeId×Nat)
 | some (.struct fs)=>(fs[i]?).map fun f=>(f.type,f.offset)
 | _=>none
theorem field_of {t ft off i:Nat} (h:fieldTy i t (Try.prog.underlying t) = some (ft,off)) {ts:List Tr} (hy:TyT Try.prog t ts):ts.length = Try.prog.cellsOf t∧TyT Try.prog ft ((ts.drop off).take (Try.prog.cellsOf ft)):=by
 cases hu:Try.prog.underlying t with
 | none=>rw [hu] at h; cases h
 | some d =>
  rw [hu] at h
  cases d with
  | struct fs =>
   have hf:=ty_field hu hy
   unfold fieldTy at h
   dsimp only at h
   cases hg:fs[i]? with
   | none=>rw [hg] at h; cases h
   | some f =>
    rw [hg] at h
    cases h
    exact ⟨hf.1,hf.2 i f hg⟩
  | _=>cases h
theorem cells3:Try.prog.cellsOf 3 = 1:=by kernel_rfl
theorem cells22:Try.prog.cellsOf 22 = 1:=by kernel_rfl
theorem cells23:Try.prog.cellsOf 23 = 1:=by kernel_rfl
theorem one_of {ts:List Tr} {o:Nat} (h:o < ts.length):(ts.drop o).take 1 = [ts[o]]:=by
 rw [List.drop_eq_getElem_cons h]; rfl
theorem ag_inv {h:Hp} {v:Value} {ts:List Tr} (k:AbsT h v (.ag ts)):∃ vs:List Value,v = .agg ⟨vs⟩∧vs.length = ts.length∧∀ (k:Nat) v t,vs[k]? = some v→ts[k]? = some t→AbsT h v t:=by
 cases k with
 | ag vs cs hl ht=>exact ⟨vs,rfl,hl,ht⟩
theorem num_inv {h:Hp} {v:Value} {n:Int} (k:AbsT h v (.num n)):v = int n:=by cases k; rfl
theorem ground_arg {ts:List Tr} (hy:TyT Try.prog 25 ts):∃ (n:Int) (L:List (Int×Int)) (M:List (Int×Int×Int)),L.length < 9223372036854775808∧M.length < 9223372036854775808∧∀ h v,AbsT h v (.ag ts)→∃ a b,v = .agg ⟨[int n,a,b]⟩∧LentV h a L.length (flat L)∧LentV h b M.length (flat3 M):=by
 have hmax:maxLen < 9223372036854775808:=by decide
 have f0:=field_of (i:=0) (ft:=3) (off:=0) (by kernel_rfl) hy
 have f1:=field_of (i:=1) (ft:=22) (off:=1) (by kernel_rfl) hy
 have f2:=field_of (i:=2) (ft:=23) (off:=2) (by kernel_rfl) hy
 have hl:ts.length = 3:=f0.1.trans (by kernel_rfl)
 have f0:=f0.2
 have f1:=f1.2
 have f2:=f2.2
 rw [cells3,one_of (by omega)] at f0
 rw [cells22,one_of (by omega)] at f1
 rw [cells23,one_of (by omega)] at f2
 obtain ⟨n,en,hn⟩:=ty_num Try.underlying3 f0
 obtain ⟨L,e1,m1,-⟩:=ty_pairs Try.underlying22 Try.underlying57 Try.underlying3 (by kernel_rfl) (by kernel_rfl) f1
 obtain ⟨k,l,e2,hk,m2,-⟩:=ty_rows (by omega) Try.underlying23 Try.underlying58 Try.underlying3 (by kernel_rfl) (by kernel_rfl) f2
 obtain ⟨M,rfl,rfl⟩:=flat3_of k l hk
 refine ⟨n,L,M,by omega,by omega,fun h v k=>?_⟩
 obtain ⟨vs,rfl,hvl,hk⟩:=ag_inv k
 match vs,hvl with
 | [v0,v1,v2],_ =>
 have k0:=hk 0 v0 _ rfl (List.getElem?_eq_getElem (by omega))
 have k1:=hk 1 v1 _ rfl (List.getElem?_eq_getElem (by omega))
 have k2:=hk 2 v2 _ rfl (List.getElem?_eq_getElem (by omega))
 rw [show ts[0] = .num n from List.cons.inj en |>.1] at k0
 rw [e1] at k1
 rw [e2] at k2
 have:=num_inv k0
 subst this
 exact ⟨v1,v2,rfl,k1.lentV,k2.lentV⟩
 | [],h | [_],h | [_,_],h | _ :: _ :: _ :: _ :: _,h=>simp [hl] at h
section
variable [Unknowns]
theorem checks_spec (ts:List Tr) (hy:TyT Try.prog 25 ts) (t:Tr) (ht:TyT Try.prog 26 [t]):∀ h vs,AllT h vs [.ag ts,t]→CallP E 3 vs h (fun r _=>r = .bool true):=by
 intro h vs hvs
 have hmax:maxLen < 9223372036854775808:=by decide
 obtain ⟨n,L,M,hL,hM,hg⟩:=ground_arg hy
 obtain ⟨q,rfl,hq,-⟩:=ty_ints Try.underlying26 (by kernel_rfl) Try.underlying3 ht
 match vs,hvs with
 | [v,u],hvs =>
 obtain ⟨h1,h2,-⟩:=hvs
 obtain ⟨a,b,rfl,ha,hb⟩:=hg h v h1
 have hu:LentV h u q.length q:=AbsT.lentV h2
 exact checks_law n L M q hL hM (by omega) a b u h ha hb hu
end
end Go.Proofs.Ytljbibjnidccbab
