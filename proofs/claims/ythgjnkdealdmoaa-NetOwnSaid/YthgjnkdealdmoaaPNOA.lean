/- Contracts of the functions that PNOC comes to. -/
import Derived.Test.YthgjnkdealdmoaaCodePNOC
import Derived.Test.YthgjnkdealdmoaaWx23
import Derived.Test.YthgjnkdealdmoaaWx29
import Derived.Test.YthgjnkdealdmoaaWx17
import Derived.Test.YthgjnkdealdmoaaWx16
import Derived.Test.YthgjnkdealdmoaaWx24
import Derived.Test.YthgjnkdealdmoaaWx18
import Derived.Test.YthgjnkdealdmoaaNAwake
import Derived.Test.YthgjnkdealdmoaaWx20
set_option maxRecDepth 100000
set_option maxHeartbeats 2000000
set_option linter.unusedVariables false
set_option linter.unusedSectionVars false
set_option linter.unusedSimpArgs false
namespace Go.Proofs.Ythgjnkdealdmoaa
open Go.Rx Go.RowKit
def leP (a b:Int×Int):Prop:=a.1 < b.1∨a.1 = b.1∧a.2≤b.2
theorem leP.trans {a b c:Int×Int} (h:leP a b) (k:leP b c):leP a c:=by unfold leP at *; omega
theorem leP.of_not {a b:Int×Int} (h:¬ leP a b):leP b a:=by unfold leP at *; omega
structure NetOk (n:Nat) (P:List (Int×Int)):Prop where
 n1:1≤n∧n≤6
 ok:∀ p ∈ P,0≤p.1∧p.1≤p.2∧p.2 < n
 srt:P.Pairwise leP
theorem ins_srt {P:List (Int×Int)} {x:Int×Int} {k:Nat} (hs:P.Pairwise leP) (hk:k≤P.length) (lo:∀ i,(hi:i < P.length)→i < k→leP P[i] x) (hi:∀ h:k < P.length,¬ leP P[k] x):(P.take k ++ x :: P.drop k).Pairwise leP:=by
 have hs':=hs
 rw [← List.take_append_drop k P,List.pairwise_append] at hs'
 obtain ⟨s1,s2,s3⟩:=hs'
 have hx:∀ y ∈ P.drop k,leP x y:=by
  intro y hy
  by_cases h:k < P.length
  ·have hkx:=(hi h)
   have hky:P[k] = y∨leP P[k] y:=by
    rw [List.drop_eq_getElem_cons h] at hy s2
    rcases List.mem_cons.1 hy with rfl | hy
    ·exact .inl rfl
    ·exact .inr ((List.pairwise_cons.1 s2).1 y hy)
   rcases hky with e | e
   ·rw [e] at hkx; exact leP.of_not hkx
   ·exact (leP.of_not hkx).trans e
  ·rw [List.drop_eq_nil_of_le (by omega)] at hy; cases hy
 rw [List.pairwise_append]
 refine ⟨s1,List.pairwise_cons.2 ⟨hx,s2⟩,fun a ha b hb=>?_⟩
 have hax:leP a x:=by
  obtain ⟨i,hi',rfl⟩:=List.getElem_of_mem ha
  rw [List.length_take] at hi'
  rw [List.getElem_take]
  exact lo i (by omega) (by omega)
 rcases List.mem_cons.1 hb with rfl | hb
 ·exact hax
 ·exact hax.trans (hx b hb)
theorem NetOk.ins {n:Nat} {P:List (Int×Int)} (h:NetOk n P) {x:Int×Int} {k:Nat} (hx:0≤x.1∧x.1≤x.2∧x.2 < n) (hk:k≤P.length) (lo:∀ i,(hi:i < P.length)→i < k→leP P[i] x) (hi:∀ h:k < P.length,¬ leP P[k] x):NetOk n (P.take k ++ x :: P.drop k):=by
 refine ⟨h.n1,fun p hp=>?_,ins_srt h.srt hk lo hi⟩
 rcases List.mem_append.1 hp with hp | hp
 ·exact h.ok p (List.mem_of_mem_take hp)
 ·rcases List.mem_cons.1 hp with rfl | hp
  ·exact hx
  ·exact h.ok p (List.mem_of_mem_drop hp)
theorem flat_app:∀ a b:List (Int×Int),flat (a ++ b) = flat a ++ flat b
 | [],_=>rfl
 | x :: a,b=>by show x.1 :: x.2 :: flat (a ++ b) = _; rw [flat_app a b]; rfl
theorem flat_sing (p:Int×Int):(flat [p]).map int = [int p.1,int p.2]:=rfl
theorem flat_drop:∀ (E:List (Int×Int)) (k:Nat),flat (E.drop k) = (flat E).drop (k * 2)
 | [],k=>by simp [flat]
 | x :: E,0=>by simp [flat]
 | x :: E,k + 1=>by
  have:=flat_drop E k
  rw [show (k + 1) * 2 = k * 2 + 1 + 1 by omega]
  simpa [flat] using this
theorem flat_one (P:List (Int×Int)):((flat P).map int).all oneCell = true:=by
 rw [List.all_eq_true]
 intro v hv
 obtain ⟨n,_,rfl⟩:=List.mem_map.1 hv
 rfl
def GB (h0 h:Hp) (v:Value) (P:List (Int×Int)):Prop:=BuiltC h0 h 79 2 v P.length ((flat P).map int)
theorem GB.ext {h0 h h':Hp} {v:Value} {P:List (Int×Int)} (k:GB h0 h v P) (g:Grows h h'):GB h0 h' v P:=BuiltC.ext g k
theorem GB.nil {h:Hp}:GB h h (.slice none 0 0) []:=BuiltC.nil
theorem GB.pairs {h0 h:Hp} {v:Value} {P:List (Int×Int)} (k:GB h0 h v P):PairsV h v P:=BuiltC.pairs k
theorem PairsV.get {h:Hp} {v:Value} {P:List (Int×Int)} (k:PairsV h v P) {i:Nat} (hi:i < P.length):∃ r o c,v = .slice (some ⟨r,o,none⟩) P.length c∧cellAt h r (0 + (i * 2 + o)) = some (int (P[i]).1)∧cellAt h r (1 + (i * 2 + o)) = some (int (P[i]).2):=by
 obtain ⟨a,c,rfl,hc⟩:=k
 obtain ⟨r,o,rfl,h1,h2⟩:=hc i hi
 exact ⟨r,o,c,rfl,by rw [Nat.zero_add]; exact h1,by rw [Nat.add_comm]; exact h2⟩
theorem store2 {H:Hp} {e:Nat} {a b:Value} {c d:Int}:storeAt (H.lay (.row e true [a,b])) H.next 0 [int c,int d] = some (H.lay (.row e true [int c,int d])):=by
 unfold storeAt
 rw [Hp.at_lay_self]
 dsimp only
 rw [if_pos ⟨by simp,rfl⟩,Hp.set_lay_self]
 rfl
theorem take_getP {P:List (Int×Int)} {k:Nat} (hk:k≤P.length):(P.take k).length = k:=by rw [List.length_take]; omega
attribute [local irreducible] E idxN cellAt cellsAt storeAt callable helems hmoved lookIn findKey keyOk hentries Hp.at Hp.set Hp.lay arBits hupdated setAt CallP YieldP BoolOf IsWrap Rnd LoopP AppP CutP Int.tmod Int.tdiv Int.fdiv
section
variable [Unknowns]
attribute [local irreducible] ResP sameAt GB flat
theorem tame_spec (n0:Int) (v:Value) (L:List (Int×Int)) (most:Nat) (hm:most≤9) (h:Hp) (hv:PairsV h v L) (hl:L.length < 9223372036854775808) :
  CallP E 17 [int n0,v,int most] h (fun r h'=>∃ (n:Nat) (v':Value) (P:List (Int×Int)),r = .tuple ⟨[int n,v']⟩∧NetOk n P∧P.length≤most∧GB h h' v' P∧Grows h h'):=by
 obtain ⟨av,cap,rfl,hcv⟩:=id hv
 refine enter17 (by simp) ?_
 have hux:=u64_of n0
 obtain ⟨u,u0,u1,hu⟩:=hux
 have b1:=tmod_bd u0 (show (0:Int) < 6 by omega)
 obtain ⟨n,hn⟩:∃ n:Nat,1 + u.tmod 6 = (n:Int):=⟨(1 + u.tmod 6).toNat,by omega⟩
 conv=>whnf
 refine SeqP.go ?_
 conv=>whnf
 refine SeqP.go ?_
 conv=>whnf
 refine ⟨u,hu,?_⟩
 conv=>whnf
 refine ⟨by omega,?_⟩
 conv=>whnf
 refine ⟨u.tmod 6,wid (by omega),?_⟩
 conv=>whnf
 refine ⟨(n:Int),wie hn (by omega),?_⟩
 conv=>whnf
 refine SeqP.cut (α:=Unit) (fun _=>[(8,.slice none 0 0),(0,int n),(1,.slice av L.length cap),(2,int most)]) (fun _ h'=>h' = h) ?_ ?_
 ·conv=>whnf
  exact ⟨(),⟨rfl,rfl,rfl,rfl,trivial⟩,rfl,rfl⟩
 rintro _ φ h rfl
 conv=>whnf
 refine SeqP.cut (α:=List (Int×Int)×Value×Hp) (fun s=>[(8,s.2.1),(0,int n)]) (fun s h'=>h' = s.2.2∧NetOk n s.1∧s.1.length≤most∧GB h s.2.2 s.2.1 s.1∧Grows h s.2.2) ?_ ?_
 ·conv=>whnf
  refine SeqP.go ?_
  conv=>whnf
  refine loop_inv (α:=Nat×List (Int×Int)×Value×Hp) (fun s=>[(9,int s.1),(8,s.2.2.1),(0,int n),(1,.slice av L.length cap),(2,int most)]) (fun s=>s.2.2.2) (fun s=>s.1≤L.length∧s.1≤most∧NetOk n s.2.1∧s.2.1.length≤s.1∧GB h s.2.2.2 s.2.2.1 s.2.1∧Grows h s.2.2.2) (fun s=>L.length - s.1) (0,[],.slice none 0 0,h) ⟨Nat.zero_le _,Nat.zero_le _,⟨by omega,fun _ hp=>(by cases hp),List.Pairwise.nil⟩,Nat.le_refl _,GB.nil,.refl _⟩ ⟨rfl,rfl,rfl,rfl,rfl,trivial⟩ (Hp.Le.refl _) ?_
  rintro ⟨i,P,vP,H⟩ φ ⟨hi,him,hP,hPl,hb,hg⟩
  dsimp only at hi him hP hPl hb hg ⊢
  have hn0:=hP.n1
  conv=>whnf
  refine SeqP.go ?_
  conv=>whnf
  refine SeqP.go ?_
  conv=>whnf
  refine cmpB (fun c1=>?_) (fun c1=>?_)
  rotate_left
  ·conv=>whnf
   repeat (refine SeqP.go ?_; conv=>whnf)
   exact ⟨(P,vP,H),⟨rfl,rfl,trivial⟩,⟨rfl,hP,(by show P.length≤most; omega),hb,hg⟩,rfl⟩
  conv=>whnf
  refine cmpB (fun c2=>?_) (fun c2=>?_)
  rotate_left
  ·conv=>whnf
   repeat (refine SeqP.go ?_; conv=>whnf)
   exact ⟨(P,vP,H),⟨rfl,rfl,trivial⟩,⟨rfl,hP,(by show P.length≤most; omega),hb,hg⟩,rfl⟩
  conv=>whnf
  refine SeqP.go ?_
  conv=>whnf
  have hi':i < L.length:=by omega
  obtain ⟨r,o,rfl,hc0,hc1⟩:=hcv i hi'
  have hc0':cellAt H r (0 + (i * 2 + o)) = some (int (L[i]).1):=by rw [Nat.zero_add]; exact hg.cell hc0
  have hc1':cellAt H r (1 + (i * 2 + o)) = some (int (L[i]).2):=by rw [Nat.add_comm]; exact hg.cell hc1
  have hux:=u64_of (L[i]).1
  obtain ⟨u,u0,u1,hu⟩:=hux
  have hux':=u64_of (L[i]).2
  obtain ⟨u',u0',u1',hu'⟩:=hux'
  have e1:=tmod_bd u0 (show (0:Int) < (n:Int) by omega)
  have e2:=tmod_bd u0' (show (0:Int) < (n:Int) by omega)
  obtain ⟨x,hx⟩:∃ x:Nat,u.tmod n = (x:Int):=⟨(u.tmod n).toNat,by omega⟩
  obtain ⟨y,hy⟩:∃ y:Nat,u'.tmod n = (y:Int):=⟨(u'.tmod n).toNat,by omega⟩
  refine SeqP.cut (α:=Unit) (fun _=>[(10,int x),(11,int y),(9,int i),(8,vP),(0,int n),(1,.slice (some ⟨r,o,none⟩) L.length cap),(2,int most)]) (fun _ h'=>h' = H) ?_ ?_
  ·conv=>whnf
   refine ⟨rfl,⟨by omega,by omega⟩,?_⟩
   conv=>whnf
   refine ⟨⟨by omega,by omega⟩,?_⟩
   conv=>whnf
   refine ⟨_,hc0',?_⟩
   conv=>whnf
   refine ⟨u,hu,?_⟩
   conv=>whnf
   refine ⟨(n:Int),u64_id (by omega),?_⟩
   conv=>whnf
   refine ⟨by omega,?_⟩
   conv=>whnf
   refine ⟨(x:Int),wie hx (by omega),?_⟩
   conv=>whnf
   refine ⟨rfl,⟨by omega,by omega⟩,?_⟩
   conv=>whnf
   refine ⟨⟨by omega,by omega⟩,?_⟩
   conv=>whnf
   refine ⟨_,hc1',?_⟩
   conv=>whnf
   refine ⟨u',hu',?_⟩
   conv=>whnf
   refine ⟨(n:Int),u64_id (by omega),?_⟩
   conv=>whnf
   refine ⟨by omega,?_⟩
   conv=>whnf
   refine ⟨(y:Int),wie hy (by omega),?_⟩
   conv=>whnf
   exact ⟨(),⟨rfl,rfl,rfl,rfl,rfl,rfl,rfl,trivial⟩,rfl,rfl⟩
  rintro _ φ H rfl
  conv=>whnf
  refine SeqP.cut (α:=Hp) (fun s=>[(12,ptr H.next 0),(9,int i),(8,vP),(0,int n),(1,.slice (some ⟨r,o,none⟩) L.length cap),(2,int most)]) (fun s h'=>h' = s∧s = H.lay (.row 79 true [int (min x y:Nat),int (max x y:Nat)])) ?_ ?_
  ·conv=>whnf
   refine resP_val (v:=int ((min x y:Nat):Int)) (h:=H) ?_ ?_
   ·conv=>lhs; whnf
    refine congrArg (fun n=>HRes.val (Value.int .i64 n) H) ?_
    split <;> omega
   conv=>whnf
   refine resP_val (v:=int ((max x y:Nat):Int)) (h:=H) ?_ ?_
   ·conv=>lhs; whnf
    refine congrArg (fun n=>HRes.val (Value.int .i64 n) H) ?_
    split <;> omega
   conv=>whnf
   refine ⟨rfl,_,store2,?_⟩
   conv=>whnf
   exact ⟨_,⟨rfl,rfl,rfl,rfl,rfl,rfl,trivial⟩,⟨rfl,rfl⟩,rfl⟩
  rintro H1 φ _ ⟨rfl,rfl⟩
  have aD:(H.lay (.row 79 true [int (min x y:Nat),int (max x y:Nat)])).at H.next = some (.row 79 true [int (min x y:Nat),int (max x y:Nat)]):=Hp.at_lay_self _ _
  have gD:Grows H (H.lay (.row 79 true [int (min x y:Nat),int (max x y:Nat)])):=Grows.lay _ _
  generalize hHe:H.lay (.row 79 true [int (min x y:Nat),int (max x y:Nat)]) = H1 at aD gD
  have hb1:=hb.ext gD
  have hg1:=hg.trans gD
  have hpx:(0:Int)≤(min x y:Nat)∧((min x y:Nat):Int)≤(max x y:Nat)∧((max x y:Nat):Int) < n:=by omega
  have cd0:cellAt H1 H.next (0 + 0) = some (int (min x y:Nat)):=cellAt_row aD rfl
  have cd1:cellAt H1 H.next (1 + 0) = some (int (max x y:Nat)):=cellAt_row aD rfl
  generalize hDe:H.next = D at aD cd0 cd1
  conv=>whnf
  refine SeqP.go ?_
  conv=>whnf
  refine SeqP.cut (α:=Nat) (fun k=>[(13,int k),(12,ptr D 0),(9,int i),(8,vP),(0,int n),(1,.slice (some ⟨r,o,none⟩) L.length cap),(2,int most)]) (fun k h'=>h' = H1∧k≤P.length∧(∀ j,(hj:j < P.length)→j < k→leP P[j] (((min x y:Nat):Int),((max x y:Nat):Int)))∧(∀ h:k < P.length,¬ leP P[k] (((min x y:Nat):Int),((max x y:Nat):Int)))) ?_ ?_
  ·conv=>whnf
   obtain ⟨av,cP,rfl,hcP⟩:=id hb1.pairs
   refine loop_inv (α:=Nat) (fun k=>[(13,int k),(12,ptr D 0),(9,int i),(8,.slice av P.length cP),(0,int n),(1,.slice (some ⟨r,o,none⟩) L.length cap),(2,int most)]) (fun _=>H1) (fun k=>k≤P.length∧∀ j,(hj:j < P.length)→j < k→leP P[j] (((min x y:Nat):Int),((max x y:Nat):Int))) (fun k=>P.length - k) 0 ⟨Nat.zero_le _,fun j _ hj=>absurd hj (Nat.not_lt_zero _)⟩ ⟨rfl,rfl,rfl,rfl,rfl,rfl,rfl,trivial⟩ (Hp.Le.refl _) ?_
   rintro k φ ⟨hk,hlo⟩
   dsimp only at hk hlo ⊢
   conv=>whnf
   refine SeqP.go ?_
   conv=>whnf
   refine SeqP.go ?_
   conv=>whnf
   refine cmpB (fun d1=>?_) (fun d1=>?_)
   rotate_left
   ·conv=>whnf
    exact ⟨k,⟨rfl,rfl,rfl,rfl,rfl,rfl,rfl,trivial⟩,⟨rfl,hk,hlo,fun h=>by omega⟩,rfl⟩
   have hk':k < P.length:=by omega
   have hPk:=hb1.pairs
   have hgt:=PairsV.get hPk hk'
   obtain ⟨rP,oP,cP2,eP,p0,p1⟩:=hgt
   injection eP with eP1 _ eP2
   subst eP1; subst eP2
   have succ:leP P[k] (((min x y:Nat):Int),((max x y:Nat):Int))→∀ j,(hj:j < P.length)→j < k + 1→leP P[j] (((min x y:Nat):Int),((max x y:Nat):Int)):=by
    intro hle j hj hj1
    by_cases hjk:j = k
    ·subst hjk; exact hle
    ·exact hlo j hj (by omega)
   conv=>whnf
   refine ⟨rfl,⟨by omega,by omega⟩,?_⟩
   conv=>whnf
   refine ⟨⟨by omega,by omega⟩,?_⟩
   conv=>whnf
   refine ⟨_,p0,?_⟩
   conv=>whnf
   refine ⟨⟨by omega,by omega⟩,?_⟩
   conv=>whnf
   refine ⟨_,cd0,?_⟩
   conv=>whnf
   refine cmpB (fun d2=>?_) (fun d2=>?_)
   ·conv=>whnf
    refine ⟨_,wid (by omega),?_⟩
    conv=>whnf
    exact Rnd.mk (k + 1) ⟨by omega,succ (.inl d2)⟩ (by omega) ⟨rfl,rfl,rfl,rfl,rfl,rfl,rfl,trivial⟩ (Hp.Le.refl _) rfl
   conv=>whnf
   refine ⟨rfl,⟨by omega,by omega⟩,?_⟩
   conv=>whnf
   refine ⟨⟨by omega,by omega⟩,?_⟩
   conv=>whnf
   refine ⟨_,p0,?_⟩
   conv=>whnf
   refine ⟨⟨by omega,by omega⟩,?_⟩
   conv=>whnf
   refine ⟨_,cd0,?_⟩
   conv=>whnf
   refine cmpB (fun d3=>?_) (fun d3=>?_)
   rotate_left
   ·conv=>whnf
    refine ⟨k,⟨rfl,rfl,rfl,rfl,rfl,rfl,rfl,trivial⟩,⟨rfl,hk,hlo,fun h=>?_⟩,rfl⟩
    unfold leP
    dsimp only
    omega
   conv=>whnf
   refine ⟨rfl,⟨by omega,by omega⟩,?_⟩
   conv=>whnf
   refine ⟨⟨by omega,by omega⟩,?_⟩
   conv=>whnf
   refine ⟨_,p1,?_⟩
   conv=>whnf
   refine ⟨⟨by omega,by omega⟩,?_⟩
   conv=>whnf
   refine ⟨_,cd1,?_⟩
   conv=>whnf
   refine cmpB (fun d4=>?_) (fun d4=>?_)
   ·conv=>whnf
    refine ⟨_,wid (by omega),?_⟩
    conv=>whnf
    exact Rnd.mk (k + 1) ⟨by omega,succ (.inr ⟨d3,d4⟩)⟩ (by omega) ⟨rfl,rfl,rfl,rfl,rfl,rfl,rfl,trivial⟩ (Hp.Le.refl _) rfl
   ·conv=>whnf
    refine ⟨k,⟨rfl,rfl,rfl,rfl,rfl,rfl,rfl,trivial⟩,⟨rfl,hk,hlo,fun h=>?_⟩,rfl⟩
    unfold leP
    dsimp only
    omega
  rintro k φ H1 ⟨rfl,hk,hlo,hhi⟩
  have hlk:(P.take k).length = k:=take_getP hk
  have hbC:BuiltC h H1 79 2 vP P.length ((flat P).map int):=by unfold GB at hb1; exact hb1
  conv=>whnf
  refine SeqP.go ?_
  conv=>whnf
  refine SeqP.cut (α:=Value×Hp) (fun s=>[(14,s.1),(13,int k),(12,ptr D 0),(9,int i),(8,vP),(0,int n),(1,.slice (some ⟨r,o,none⟩) L.length cap),(2,int most)]) (fun s h'=>h' = s.2∧GB H1 s.2 s.1 (P.take k)∧Grows H1 s.2) ?_ ?_
  ·conv=>whnf
   refine CutP.built (i:=0) (j:=k) hbC (flat_one _) ⟨.inl ⟨rfl,rfl⟩,.inr rfl⟩ (Nat.zero_le _) hk ?_
   intro v1 hv1
   conv=>whnf
   refine AppP.cells (h0:=H1) BuiltC.nil (.refl _) hv1 (by omega) (by omega) ?_
   intro v2 h3 b3 g3 _
   have e3:[] ++ ((flat P).map int |>.drop (0 * 2)).take ((k - 0) * 2) = (flat (P.take k)).map int:=by
    rw [flat_take,List.map_take]; simp
   rw [e3,show 0 + (k - 0) = (P.take k).length by omega] at b3
   conv=>whnf
   exact ⟨(v2,h3),⟨rfl,rfl,rfl,rfl,rfl,rfl,rfl,rfl,trivial⟩,⟨rfl,by unfold GB; exact b3,g3⟩,rfl⟩
  rintro ⟨v2,_⟩ φ h3 ⟨rfl,b3,g3⟩
  dsimp only at b3 g3 ⊢
  have aD3:=g3.at_ _ _ aD
  conv=>whnf
  refine SeqP.cut (α:=Value×Hp) (fun s=>[(14,s.1),(13,int k),(9,int i),(8,vP),(0,int n),(1,.slice (some ⟨r,o,none⟩) L.length cap),(2,int most)]) (fun s h'=>h' = s.2∧GB H1 s.2 s.1 (P.take k ++ [(((min x y:Nat):Int),((max x y:Nat):Int))])∧Grows H1 s.2) ?_ ?_
  ·conv=>whnf
   refine ⟨_,cellsAt_row aD3 (by simp),?_⟩
   conv=>whnf
   have b3':BuiltC H1 h3 79 2 v2 (P.take k).length ((flat (P.take k)).map int):=by unfold GB at b3; exact b3
   refine AppP.cells (h0:=H1) (b3'.ext (Grows.lay _ _)) (g3.then_lay _) (elems_part (s:=2) (o:=0) (m:=1) (cs:=[int (min x y:Nat),int (max x y:Nat)]) (Hp.at_lay_self _ _) (by simp) rfl 1) (by omega) (by omega) ?_
   intro v3 h4 b4 g4 _
   have e4:(flat (P.take k)).map int ++ ([int (min x y:Nat),int (max x y:Nat)].drop 0).take (1 * 2) = (flat (P.take k ++ [(((min x y:Nat):Int),((max x y:Nat):Int))])).map int:=by
    rw [flat_app,List.map_append,flat_sing]
    rfl
   have e5:(P.take k).length + 1 = (P.take k ++ [(((min x y:Nat):Int),((max x y:Nat):Int))]).length:=by simp
   rw [e4,e5] at b4
   conv=>whnf
   exact ⟨(v3,h4),⟨rfl,rfl,rfl,rfl,rfl,rfl,rfl,trivial⟩,⟨rfl,by unfold GB; exact b4,g4⟩,rfl⟩
  rintro ⟨v3,_⟩ φ h4 ⟨rfl,b4,g4⟩
  dsimp only at b4 g4 ⊢
  have hbD:BuiltC h h4 79 2 vP P.length ((flat P).map int):=hbC.ext g4
  conv=>whnf
  refine CutP.built (i:=k) (j:=P.length) hbD (flat_one _) ⟨.inr rfl,.inl ⟨rfl,rfl⟩⟩ hk (Nat.le_refl _) ?_
  intro v4 hv4
  conv=>whnf
  have b4':BuiltC H1 h4 79 2 v3 (P.take k ++ [(((min x y:Nat):Int),((max x y:Nat):Int))]).length ((flat (P.take k ++ [(((min x y:Nat):Int),((max x y:Nat):Int))])).map int):=by unfold GB at b4; exact b4
  refine AppP.cells (h0:=H1) b4' g4 hv4 (by simp; omega) (by simp; omega) ?_
  intro v5 h5 b5 g5 _
  conv=>whnf
  have e6:(flat (P.take k ++ [(((min x y:Nat):Int),((max x y:Nat):Int))])).map int ++ (((flat P).map int).drop (k * 2)).take ((P.length - k) * 2) = (flat (P.take k ++ (((min x y:Nat):Int),((max x y:Nat):Int)) :: P.drop k)).map int:=by
   have hz:(((flat P).map int).drop (k * 2)).take ((P.length - k) * 2) = ((flat P).map int).drop (k * 2):=List.take_of_length_le (by rw [List.length_drop,List.length_map,flat_length]; omega)
   rw [hz,show P.take k ++ (((min x y:Nat):Int),((max x y:Nat):Int)) :: P.drop k = (P.take k ++ [(((min x y:Nat):Int),((max x y:Nat):Int))]) ++ P.drop k by simp,flat_app _ (P.drop k),List.map_append,flat_drop,List.map_drop]
  have e7:(P.take k ++ [(((min x y:Nat):Int),((max x y:Nat):Int))]).length + (P.length - k) = (P.take k ++ (((min x y:Nat):Int),((max x y:Nat):Int)) :: P.drop k).length:=by simp; omega
  rw [e6,e7] at b5
  have hl7:(P.take k ++ (((min x y:Nat):Int),((max x y:Nat):Int)) :: P.drop k).length = P.length + 1:=by simp; omega
  refine ⟨_,wid (by omega),?_⟩
  conv=>whnf
  exact Rnd.mk (i + 1,P.take k ++ (((min x y:Nat):Int),((max x y:Nat):Int)) :: P.drop k,v5,h5) ⟨by show i + 1≤L.length; omega,by show i + 1≤most; omega,hP.ins hpx hk hlo hhi,by rw [hl7]; show P.length + 1≤i + 1; omega,by unfold GB; exact BuiltC.back hg1.next b5,hg1.trans g5⟩ (by show L.length - (i + 1) < L.length - i; omega) ⟨rfl,rfl,rfl,rfl,rfl,trivial⟩ (Hp.Le.refl _) rfl
 rintro ⟨P,vP,_⟩ φ H ⟨rfl,hP,hPl,hb,hg⟩
 dsimp only at hP hPl hb hg ⊢
 have hsl:∃ a c,vP = .slice a P.length c:=by
  obtain ⟨a,c,e,_⟩:=hb.pairs
  exact ⟨a,c,e⟩
 obtain ⟨a,c,rfl⟩:=hsl
 conv=>whnf
 exact ⟨n,_,P,rfl,hP,hPl,hb,hg⟩
end
end Go.Proofs.Ythgjnkdealdmoaa
namespace Go.Proofs.Ythgjnkdealdmoaa
open Go.Rx Go.RowKit
def at0 (p:List Int) (x:Int):Int:=p.getD x.toNat 0
def re1 (b a z:Int):Int:=if z = b then a else z
def relab (p:List Int) (b a:Int):List Int:=p.map (re1 b a)
def partK (p:List Int) (b a:Int) (k:Nat):List Int:=(p.take k).map (re1 b a) ++ p.drop k
def idK (N k:Nat):List Int:=(List.range N).map fun j=>if j < k then (j:Int) else 0
def edg (P:List (Int×Int)) (k:Nat):Int×Int:=P.getD k (0,0)
def rkStep (b:Bool) (e:Int×Int) (s:List Int×Nat):List Int×Nat:=if b = true∧¬ at0 s.1 e.1 = at0 s.1 e.2 then (relab s.1 (at0 s.1 e.2) (at0 s.1 e.1),s.2 + 1) else s
def rk (N:Nat) (P:List (Int×Int)) (set:Nat):Nat→List Int×Nat
 | 0=>(idK N N,0)
 | k + 1=>rkStep (set.testBit k) (edg P k) (rk N P set k)
theorem idK_len (N k:Nat):(idK N k).length = N:=by unfold idK; simp
theorem relab_len (p:List Int) (b a:Int):(relab p b a).length = p.length:=by unfold relab; simp
theorem rkStep_len (b:Bool) (e:Int×Int) (s:List Int×Nat):(rkStep b e s).1.length = s.1.length:=by
 unfold rkStep
 split
 ·exact relab_len _ _ _
 ·rfl
theorem rk_len (N:Nat) (P:List (Int×Int)) (set:Nat):∀ k,(rk N P set k).1.length = N
 | 0=>idK_len N N
 | k + 1=>by unfold rk; rw [rkStep_len,rk_len N P set k]
theorem rk_le (N:Nat) (P:List (Int×Int)) (set:Nat):∀ k,(rk N P set k).2≤k
 | 0=>Nat.le_refl _
 | k + 1=>by
  have:=rk_le N P set k
  unfold rk rkStep
  split
  ·show (rk N P set k).2 + 1≤k + 1
   omega
  ·omega
theorem idK_set {N k:Nat} (hk:k < N):(idK N k).set k (k:Int) = idK N (k + 1):=by
 apply List.ext_getElem
 ·simp [idK]
 ·intro i h1 h2
  simp only [idK,List.getElem_set,List.getElem_map,List.getElem_range]
  by_cases e:k = i
  ·rw [if_pos e,if_pos (by omega),e]
  ·rw [if_neg e]
   by_cases e2:i < k
   ·rw [if_pos e2,if_pos (by omega)]
   ·rw [if_neg e2,if_neg (by omega)]
theorem idK_zero (N:Nat):idK N 0 = List.replicate N 0:=by
 apply List.ext_getElem
 ·simp [idK]
 ·intro i h1 h2
  simp [idK]
theorem partK_zero (p:List Int) (b a:Int):partK p b a 0 = p:=by simp [partK]
theorem partK_all (p:List Int) (b a:Int):partK p b a p.length = relab p b a:=by simp [partK,relab]
theorem partK_len (p:List Int) (b a:Int) (k:Nat):(partK p b a k).length = p.length:=by unfold partK; rw [List.length_append,List.length_map,List.length_take,List.length_drop]; omega
theorem partK_get {p:List Int} {b a:Int} {k:Nat} (hk:k < p.length):(partK p b a k)[k]? = some (p.getD k 0):=by
 unfold partK
 rw [List.getElem?_append_right (by rw [List.length_map,List.length_take]; omega),List.length_map,List.length_take,show k - min k p.length = 0 by omega,List.getElem?_drop]
 simp [List.getD,hk]
theorem partK_set {p:List Int} {b a:Int} {k:Nat} (hk:k < p.length):(partK p b a k).set k (re1 b a (p.getD k 0)) = partK p b a (k + 1):=by
 apply List.ext_getElem?
 intro i
 rw [List.getElem?_set]
 have e:(partK p b a k).length = p.length:=partK_len _ _ _ _
 unfold partK at e ⊢
 by_cases hik:k = i
 ·subst hik
  rw [if_pos rfl,if_pos (by omega),List.getElem?_append_left (by simp; omega)]
  simp [List.getD,hk]
 ·rw [if_neg hik]
  by_cases h1:i < k
  ·rw [List.getElem?_append_left (by simp; omega),List.getElem?_append_left (by simp; omega)]
   simp [List.getElem?_take]
   rw [if_pos (show i < k + 1 by omega)]
   try rw [if_pos h1]
  ·rw [List.getElem?_append_right (by simp; omega),List.getElem?_append_right (by simp; omega)]
   simp only [List.length_map,List.length_take,List.getElem?_drop]
   congr 1
   omega
theorem partK_next {p:List Int} {b a:Int} {k:Nat} (hk:k < p.length) (h:¬ p.getD k 0 = b):partK p b a (k + 1) = partK p b a k:=by
 rw [← partK_set hk,re1,if_neg h]
 apply List.ext_getElem?
 intro i
 rw [List.getElem?_set]
 split
 ·rename_i e
  subst e
  rw [if_pos (by rw [partK_len]; exact hk),partK_get hk]
 ·rfl
theorem rk_same {n:Nat} {P:List (Int×Int)} (hP:NetOk n P) (set:Nat):∀ k,k≤P.length→(rk n P set k).1 = (rk 6 P set k).1.take n∧(rk n P set k).2 = (rk 6 P set k).2
 | 0,_=>by
  have:=hP.n1
  refine ⟨?_,rfl⟩
  show idK n n = (idK 6 6).take n
  apply List.ext_getElem
  ·simp [idK]; omega
  ·intro i h1 h2
   have h1':i < n:=by rw [idK_len] at h1; exact h1
   simp only [idK,List.getElem_take,List.getElem_map,List.getElem_range]
   rw [if_pos h1',if_pos (by omega)]
 | k + 1,hk=>by
  obtain ⟨h1,h2⟩:=rk_same hP set k (by omega)
  have hn:=hP.n1
  have hl:=rk_len 6 P set k
  have he:=hP.ok _ (List.getElem_mem (show k < P.length by omega))
  have ee:edg P k = P[k]'(by omega):=by unfold edg; simp [List.getD,show k < P.length by omega]
  have a1:∀ z:Int,0≤z→z < n→at0 (rk n P set k).1 z = at0 (rk 6 P set k).1 z:=by
   intro z z0 z1
   unfold at0
   rw [h1]
   simp only [List.getD]
   rw [List.getElem?_take,if_pos (by omega)]
  have b1:=a1 (edg P k).1 (by rw [ee]; omega) (by rw [ee]; omega)
  have b2:=a1 (edg P k).2 (by rw [ee]; omega) (by rw [ee]; omega)
  unfold rk rkStep
  rw [b1,b2]
  split
  ·refine ⟨?_,by rw [h2]⟩
   dsimp only
   unfold relab
   rw [h1,List.map_take]
  ·exact ⟨h1,h2⟩
end Go.Proofs.Ythgjnkdealdmoaa
namespace Go.Proofs.Ythgjnkdealdmoaa
open Go.Rx Go.RowKit
theorem edg_get {P:List (Int×Int)} {k:Nat} (hk:k < P.length):edg P k = P[k]:=by unfold edg; simp [List.getD,hk]
theorem at0_get {p:List Int} {x:Int} (h0:0≤x) (h1:x < p.length):p[x.toNat]? = some (at0 p x):=by
 unfold at0
 simp [List.getD,show x.toNat < p.length by omega]
theorem times_one (v:Value):∀ n,times [v] n = List.replicate n v
 | 0=>rfl
 | n + 1=>by show v :: times [v] n = _; rw [times_one v n,List.replicate_succ]
theorem lay_cell {H:Hp} {l:List Int} {i:Nat} {x:Int} (h:l[i]? = some x):cellAt (H.lay (.row 3 true (l.map int))) H.next i = some (int x):=cellAt_row (Hp.at_lay_self _ _) (by rw [List.getElem?_map,h]; rfl)
theorem lay_set {H:Hp} {l:List Int} {i:Nat} {x:Int} (h:i < l.length):storeAt (H.lay (.row 3 true (l.map int))) H.next i [int x] = some (H.lay (.row 3 true ((l.set i x).map int))):=by
 rw [storeAt_lay (by rw [List.length_map]; exact h) rfl,List.map_set]
theorem lay_setO {H:Hp} {l:List Int} {k:Int} {i:Nat} {x:Int} (hk:k.toNat = i) (h:i < l.length):storeAt (H.lay (.row 3 true (l.map int))) H.next (offAt 0 k.toNat 1) [int x] = some (H.lay (.row 3 true ((l.set i x).map int))):=by
 rw [offAt_eq,hk,show 0 + i * 1 = i by omega]
 exact lay_set h
theorem lay_cellO {H:Hp} {l:List Int} {k:Int} {i:Nat} {x:Int} (hk:k.toNat = i) (h:l[i]? = some x):cellAt (H.lay (.row 3 true (l.map int))) H.next (offAt 0 k.toNat 1) = some (int x):=by
 rw [offAt_eq,hk,show 0 + i * 1 = i by omega]
 exact lay_cell h
theorem rk_skip {n:Nat} {P:List (Int×Int)} {set e:Nat} (h:set.testBit e = false∨at0 (rk n P set e).1 (edg P e).1 = at0 (rk n P set e).1 (edg P e).2):rk n P set (e + 1) = rk n P set e:=by
 show rkStep _ _ _ = _
 unfold rkStep
 rw [if_neg]
 rintro ⟨h1,h2⟩
 rcases h with h | h
 ·rw [h] at h1; cases h1
 ·exact h2 h
theorem rk_join {n:Nat} {P:List (Int×Int)} {set e:Nat} (h1:set.testBit e = true) (h2:¬ at0 (rk n P set e).1 (edg P e).1 = at0 (rk n P set e).1 (edg P e).2):rk n P set (e + 1) = (relab (rk n P set e).1 (at0 (rk n P set e).1 (edg P e).2) (at0 (rk n P set e).1 (edg P e).1),(rk n P set e).2 + 1):=by
 show rkStep _ _ _ = _
 unfold rkStep
 rw [if_pos ⟨h1,h2⟩]
attribute [local irreducible] E idxN cellAt cellsAt storeAt callable helems hmoved lookIn findKey keyOk hentries Hp.at Hp.set Hp.lay arBits hupdated setAt CallP YieldP BoolOf IsWrap Rnd LoopP AppP CutP Int.tmod Int.tdiv Int.fdiv
section
variable [Unknowns]
attribute [local irreducible] ResP sameAt flat
theorem RRank_spec (n:Nat) (P:List (Int×Int)) (hP:NetOk n P) (hl:P.length≤9) (set:Nat) (hs:set < 2 ^ 62) (v:Value) (h:Hp) (hv:PairsV h v P) :
  CallP E 19 [int n,v,int set] h (fun r h'=>r = int (rk n P set P.length).2∧Grows h h'):=by
 obtain ⟨av,cap,rfl,-⟩:=id hv
 have hn:=hP.n1
 refine enter19 (by simp) ?_
 conv=>whnf
 refine SeqP.go ?_
 conv=>whnf
 refine SeqP.cut (α:=Unit) (fun _=>[(7,slc h.next 0 n n),(0,int n),(1,.slice av P.length cap),(2,int set)]) (fun _ H=>H = h.lay (.row 3 true ((idK n 0).map int))) ?_ ?_
 ·conv=>whnf
  refine ⟨⟨by omega,by omega,by omega,by omega⟩,?_⟩
  conv=>whnf
  refine ⟨(),⟨rfl,rfl,rfl,rfl,trivial⟩,?_,rfl⟩
  rw [idK_zero,List.map_replicate]
  rw [Int.toNat_natCast]
  exact congrArg (fun l=>h.lay (.row 3 true l)) (times_one _ _)
 rintro _ φ _ rfl
 conv=>whnf
 refine SeqP.cut (α:=Unit) (fun _=>[(7,slc h.next 0 n n),(0,int n),(1,.slice av P.length cap),(2,int set)]) (fun _ H=>H = h.lay (.row 3 true ((idK n n).map int))) ?_ ?_
 ·conv=>whnf
  refine SeqP.go ?_
  conv=>whnf
  refine loop_inv (α:=Nat) (fun k=>[(8,int k),(7,slc h.next 0 n n),(0,int n),(1,.slice av P.length cap),(2,int set)]) (fun k=>h.lay (.row 3 true ((idK n k).map int))) (fun k=>k≤n) (fun k=>n - k) 0 (Nat.zero_le _) ⟨rfl,rfl,rfl,rfl,rfl,trivial⟩ (Hp.Le.refl _) ?_
  rintro k φ hk
  have hk:k≤n:=hk
  conv=>whnf
  refine SeqP.go ?_
  conv=>whnf
  refine SeqP.go ?_
  conv=>whnf
  refine cmpB (fun c1=>?_) (fun c1=>?_)
  rotate_left
  ·conv=>whnf
   have:k = n:=by omega
   subst this
   exact ⟨(),⟨rfl,rfl,rfl,rfl,trivial⟩,rfl,rfl⟩
  conv=>whnf
  refine SeqP.go ?_
  conv=>whnf
  refine ⟨rfl,⟨by omega,by omega⟩,?_⟩
  conv=>whnf
  refine ⟨rfl,h.lay (.row 3 true ((idK n (k + 1)).map int)),by rw [← idK_set (show k < n by omega)]; exact lay_setO (i:=k) (by omega) (by rw [idK_len]; omega),?_⟩
  conv=>whnf
  refine ⟨_,wid (by omega),?_⟩
  conv=>whnf
  exact Rnd.mk (k + 1) (show k + 1≤n by omega) (by show n - (k + 1) < n - k; omega) ⟨rfl,rfl,rfl,rfl,rfl,trivial⟩ (Hp.Le.refl _) rfl
 rintro _ φ _ rfl
 conv=>whnf
 refine SeqP.go ?_
 conv=>whnf
 refine SeqP.cut (α:=Unit) (fun _=>[(9,int (rk n P set P.length).2)]) (fun _ H=>Grows h H) ?_ ?_
 ·conv=>whnf
  refine SeqP.go ?_
  conv=>whnf
  refine loop_inv (α:=Nat×List Int×Nat) (fun s=>[(10,int s.1),(9,int s.2.2),(7,slc h.next 0 n n),(0,int n),(1,.slice av P.length cap),(2,int set)]) (fun s=>h.lay (.row 3 true (s.2.1.map int))) (fun s=>s.1≤P.length∧s.2 = rk n P set s.1) (fun s=>P.length - s.1) (0,idK n n,0) ⟨Nat.zero_le _,rfl⟩ ⟨rfl,rfl,rfl,rfl,rfl,rfl,trivial⟩ (Hp.Le.refl _) ?_
  rintro ⟨e,p,c⟩ φ ⟨he,hp⟩
  dsimp only at he hp ⊢
  have hpl:p.length = n:=by have:=rk_len n P set e; rw [← hp] at this; exact this
  have hcl:c≤e:=by have:=rk_le n P set e; rw [← hp] at this; exact this
  conv=>whnf
  refine SeqP.go ?_
  conv=>whnf
  refine SeqP.go ?_
  conv=>whnf
  refine cmpB (fun c1=>?_) (fun c1=>?_)
  rotate_left
  ·conv=>whnf
   have:e = P.length:=by omega
   subst this
   rw [← hp]
   exact ⟨(),⟨rfl,trivial⟩,Grows.lay _ _,rfl⟩
  have he':e < P.length:=by omega
  have hgt:=PairsV.get hv he'
  obtain ⟨r,o,c',eP,p0,p1⟩:=hgt
  injection eP with eP1 _ eP2
  subst eP1; subst eP2
  have q0:=(Grows.lay h (.row 3 true (p.map int))).cell p0
  have q1:=(Grows.lay h (.row 3 true (p.map int))).cell p1
  have hok:=hP.ok _ (List.getElem_mem he')
  have g0:=at0_get (p:=p) (x:=(P[e]).1) (by omega) (by omega)
  have g1:=at0_get (p:=p) (x:=(P[e]).2) (by omega) (by omega)
  conv=>whnf
  refine SeqP.go ?_
  conv=>whnf
  refine SeqP.cut (α:=Unit) (fun _=>[(11,int (at0 p (P[e]).1)),(12,int (at0 p (P[e]).2)),(10,int e),(9,int c),(7,slc h.next 0 n n),(0,int n),(1,.slice (some ⟨r,o,none⟩) P.length cap),(2,int set)]) (fun _ H=>H = h.lay (.row 3 true (p.map int))) ?_ ?_
  ·conv=>whnf
   refine ⟨rfl,⟨by omega,by omega⟩,?_⟩
   conv=>whnf
   refine ⟨⟨by omega,by omega⟩,?_⟩
   conv=>whnf
   refine ⟨_,q0,?_⟩
   conv=>whnf
   refine ⟨rfl,⟨by omega,by omega⟩,?_⟩
   conv=>whnf
   refine ⟨int (at0 p (P[e]).1),lay_cellO rfl g0,?_⟩
   conv=>whnf
   refine ⟨rfl,⟨by omega,by omega⟩,?_⟩
   conv=>whnf
   refine ⟨⟨by omega,by omega⟩,?_⟩
   conv=>whnf
   refine ⟨_,q1,?_⟩
   conv=>whnf
   refine ⟨rfl,⟨by omega,by omega⟩,?_⟩
   conv=>whnf
   refine ⟨int (at0 p (P[e]).2),lay_cellO rfl g1,?_⟩
   conv=>whnf
   exact ⟨(),⟨rfl,rfl,rfl,rfl,rfl,rfl,rfl,rfl,trivial⟩,rfl,rfl⟩
  rintro _ φ _ rfl
  have esh:=shr_nat (a:=set) (k:=e) (by omega)
  conv=>whnf
  refine SeqP.go ?_
  conv=>whnf
  refine SeqP.go ?_
  conv=>whnf
  refine ⟨by omega,?_⟩
  conv=>whnf
  refine ⟨by omega,?_⟩
  conv=>whnf
  have hed:=edg_get he'
  have inv:∀ {s:List Int×Nat},s = rk n P set (e + 1)→e + 1≤P.length∧s = rk n P set (e + 1):=fun h=>⟨by omega,h⟩
  refine cmpB (fun hb2=>?_) (fun hb2=>?_)
  ·have hb2:((set:Int).fdiv (2 ^ (min (e:Int).toNat 64))).tmod 2 = 0:=hb2
   rw [esh,show (2:Int) = ((2:Nat):Int) from rfl,tmod_nat] at hb2
   have hbit:set.testBit e = false:=by
    cases hx:set.testBit e with
    | false=>rfl
    | true=>have:=(bit_mod set e).2 hx; omega
   conv=>whnf
   refine ⟨_,wid (by omega),?_⟩
   conv=>whnf
   exact Rnd.mk (e + 1,p,c) (inv (by rw [rk_skip (.inl hbit)]; exact hp)) (by show P.length - (e + 1) < P.length - e; omega) ⟨rfl,rfl,rfl,rfl,rfl,rfl,trivial⟩ (Hp.Le.refl _) rfl
  have hb2:¬ ((set:Int).fdiv (2 ^ (min (e:Int).toNat 64))).tmod 2 = 0:=hb2
  rw [esh,show (2:Int) = ((2:Nat):Int) from rfl,tmod_nat] at hb2
  have hbit:set.testBit e = true:=(bit_mod set e).1 (by omega)
  conv=>whnf
  refine cmpB (fun c2=>?_) (fun c2=>?_)
  ·conv=>whnf
   refine ⟨_,wid (by omega),?_⟩
   conv=>whnf
   exact Rnd.mk (e + 1,p,c) (inv (by rw [rk_skip (.inr (by rw [← hp,hed]; exact c2))]; exact hp)) (by show P.length - (e + 1) < P.length - e; omega) ⟨rfl,rfl,rfl,rfl,rfl,rfl,trivial⟩ (Hp.Le.refl _) rfl
  have hj:=rk_join (n:=n) (P:=P) (set:=set) (e:=e) hbit (by rw [← hp,hed]; exact c2)
  rw [← hp,hed] at hj
  conv=>whnf
  refine SeqP.go ?_
  conv=>whnf
  refine ⟨((c + 1:Nat):Int),wie (by omega) (by omega),?_⟩
  conv=>whnf
  refine SeqP.go ?_
  conv=>whnf
  refine loop_inv (α:=Nat) (fun k=>[(13,int k),(11,int (at0 p (P[e]).1)),(12,int (at0 p (P[e]).2)),(10,int e),(9,int (c + 1:Nat)),(7,slc h.next 0 n n),(0,int n),(1,.slice (some ⟨r,o,none⟩) P.length cap),(2,int set)]) (fun k=>h.lay (.row 3 true ((partK p (at0 p (P[e]).2) (at0 p (P[e]).1) k).map int))) (fun k=>k≤n) (fun k=>n - k) 0 (Nat.zero_le _) ⟨rfl,rfl,rfl,rfl,rfl,rfl,rfl,rfl,rfl,trivial⟩ (by rw [partK_zero]; exact Hp.Le.refl _) ?_
  rintro k φ hk
  have hk:k≤n:=hk
  conv=>whnf
  refine SeqP.go ?_
  conv=>whnf
  refine SeqP.go ?_
  conv=>whnf
  refine cmpB (fun d1=>?_) (fun d1=>?_)
  rotate_left
  ·conv=>whnf
   have hkn:k = n:=by omega
   subst hkn
   refine ⟨_,wid (by omega),?_⟩
   conv=>whnf
   exact Rnd.mk (e + 1,partK p (at0 p (P[e]).2) (at0 p (P[e]).1) k,c + 1) (inv (by rw [hj,← hpl,partK_all])) (by show P.length - (e + 1) < P.length - e; omega) ⟨rfl,rfl,rfl,rfl,rfl,rfl,trivial⟩ (Hp.Le.refl _) rfl
  have hk':k < p.length:=by omega
  have hpk:=partK_get (b:=at0 p (P[e]).2) (a:=at0 p (P[e]).1) hk'
  have hpkl:=partK_len p (at0 p (P[e]).2) (at0 p (P[e]).1) k
  conv=>whnf
  refine SeqP.go ?_
  conv=>whnf
  refine ⟨rfl,⟨by omega,by omega⟩,?_⟩
  conv=>whnf
  refine ⟨int (p.getD k 0),lay_cellO (i:=k) (by omega) hpk,?_⟩
  conv=>whnf
  refine cmpB (fun d2=>?_) (fun d2=>?_)
  ·conv=>whnf
   refine ⟨rfl,⟨by omega,by omega⟩,?_⟩
   conv=>whnf
   refine ⟨rfl,h.lay (.row 3 true ((partK p (at0 p (P[e]).2) (at0 p (P[e]).1) (k + 1)).map int)),?_,?_⟩
   ·rw [← partK_set hk',re1,if_pos d2]
    exact lay_setO (i:=k) (by omega) (by omega)
   conv=>whnf
   refine ⟨_,wid (by omega),?_⟩
   conv=>whnf
   exact Rnd.mk (k + 1) (show k + 1≤n by omega) (by show n - (k + 1) < n - k; omega) ⟨rfl,rfl,rfl,rfl,rfl,rfl,rfl,rfl,rfl,trivial⟩ (Hp.Le.refl _) rfl
  ·have hnx:=partK_next (b:=at0 p (P[e]).2) (a:=at0 p (P[e]).1) hk' d2
   conv=>whnf
   refine ⟨_,wid (by omega),?_⟩
   conv=>whnf
   rw [← hnx]
   exact Rnd.mk (k + 1) (show k + 1≤n by omega) (by show n - (k + 1) < n - k; omega) ⟨rfl,rfl,rfl,rfl,rfl,rfl,rfl,rfl,rfl,trivial⟩ (Hp.Le.refl _) rfl
 rintro _ φ H hg
 conv=>whnf
 exact ⟨rfl,hg⟩
end
end Go.Proofs.Ythgjnkdealdmoaa
namespace Go.Proofs.Ythgjnkdealdmoaa
open Go.Rx Go.RowKit
attribute [local irreducible] E idxN cellAt cellsAt storeAt callable helems hmoved lookIn findKey keyOk hentries Hp.at Hp.set Hp.lay arBits hupdated setAt CallP YieldP BoolOf IsWrap Rnd LoopP AppP CutP Int.tmod Int.tdiv Int.fdiv
section
variable [Unknowns]
attribute [local irreducible] ResP sameAt flat
theorem has_spec (s v:Nat) (hs:s < 1048576) (hv:v < 60) (h:Hp):CallP E 90 [int s,int v] h (fun r h'=>r = .bool (s.testBit v)∧h' = h):=by
 have esh:=shr_nat (a:=s) (k:=v) (by omega)
 have hle:s >>> v≤s:=by rw [Nat.shiftRight_eq_div_pow]; exact Nat.div_le_self _ _
 have ea:=bits_and (a:=s >>> v) (b:=1) (by omega) (by omega)
 refine enter90 (by simp) ?_
 conv=>whnf
 repeat (refine SeqP.go ?_; conv=>whnf)
 refine ⟨by omega,?_⟩
 conv=>whnf
 refine cmpB (fun hb=>?_) (fun hb=>?_)
 ·have hb:arBits .i64 .and ((s:Int).fdiv (2 ^ (min (v:Int).toNat 64))) ((1:Nat):Int) = 1:=hb
  rw [esh,ea] at hb
  have e:s.testBit v = true:=(bit_has s v).1 (by omega)
  conv=>whnf
  repeat (refine SeqP.go ?_; conv=>whnf)
  exact ⟨by rw [e]; rfl,rfl⟩
 ·have hb:¬ arBits .i64 .and ((s:Int).fdiv (2 ^ (min (v:Int).toNat 64))) ((1:Nat):Int) = 1:=hb
  rw [esh,ea] at hb
  have e:s.testBit v = false:=by
   cases e:s.testBit v with
   | false=>rfl
   | true=>have:=(bit_has s v).2 e; omega
  conv=>whnf
  repeat (refine SeqP.go ?_; conv=>whnf)
  exact ⟨by rw [e]; rfl,rfl⟩
theorem ty116:(tiOf Try.prog 116).isSome = true:=by kernel_rfl
def gval (n:Nat) (v:Value):Value:=.agg ⟨[int n,v]⟩
theorem all_spec (n:Nat) (P:List (Int×Int)) (hl:P.length≤9) (v:Value) (h:Hp) (hv:PairsV h v P):CallP E 113 [gval n v] h (fun r h'=>r = int ((2 ^ P.length - 1:Nat):Int)∧Grows h h'):=by
 obtain ⟨av,cap,rfl,-⟩:=id hv
 have hp:=Nat.pow_le_pow_right (n:=2) (by omega) hl
 have hp1:=Nat.one_le_two_pow (n:=P.length)
 refine enter113 (by simp) ?_
 conv=>whnf
 refine SeqP.go ?_
 conv=>whnf
 refine ⟨.slice av P.length cap,cellAt_row (Hp.at_lay_self _ _) rfl,?_⟩
 conv=>whnf
 refine ⟨by omega,((2 ^ P.length:Nat):Int),shl_one (by omega),?_⟩
 conv=>whnf
 refine ⟨((2 ^ P.length - 1:Nat):Int),wie (by omega) (by omega),?_⟩
 conv=>whnf
 exact ⟨rfl,Grows.lay _ _⟩
theorem layE_set {H:Hp} {e:Nat} {l:List Int} {k:Int} {i:Nat} {x:Int} (hk:k.toNat = i) (h:i < l.length):storeAt (H.lay (.row e true (l.map int))) H.next (offAt 0 k.toNat 1) [int x] = some (H.lay (.row e true ((l.set i x).map int))):=by
 rw [offAt_eq,hk,show 0 + i * 1 = i by omega,storeAt_lay (by rw [List.length_map]; exact h) rfl,List.map_set]
section
attribute [local irreducible] finP
theorem separate_spec (h:Hp):CallP E 97 [] h (fun r h'=>r = .agg ⟨(idK 6 6).map int⟩∧Grows h h'):=by
 refine enter97 (by simp) ?_
 conv=>whnf
 refine SeqP.go ?_
 conv=>whnf
 have hz:(h.lay (.row 116 true [int 0,int 0,int 0,int 0,int 0,int 0])) = (h.lay (.row 116 true ((idK 6 0).map int))):=rfl
 generalize hH0:h.lay (.row 116 true [int 0,int 0,int 0,int 0,int 0,int 0]) = H0
 have h0:H0.at h.next = some (.row 116 true ((idK 6 0).map int)):=by rw [← hH0]; exact Hp.at_lay_self _ _
 have gh0:Grows h H0:=by rw [← hH0]; exact Grows.lay _ _
 refine SeqP.cut (α:=Unit) (fun _=>[(0,ptr h.next 0),(1,ptr H0.next 0)]) (fun _ H=>H = H0.lay (.row 116 true ((idK 6 0).map int))) ?_ ?_
 ·conv=>whnf
  exact ⟨(),⟨rfl,rfl,trivial⟩,rfl,rfl⟩
 rintro _ φ _ rfl
 conv=>whnf
 refine SeqP.cut (α:=Unit) (fun _=>[(0,ptr h.next 0),(1,ptr H0.next 0)]) (fun _ H=>H = H0.lay (.row 116 true ((idK 6 6).map int))) ?_ ?_
 ·conv=>whnf
  refine SeqP.go ?_
  conv=>whnf
  refine loop_inv (α:=Nat) (fun k=>[(3,int k),(0,ptr h.next 0),(1,ptr H0.next 0)]) (fun k=>H0.lay (.row 116 true ((idK 6 k).map int))) (fun k=>k≤6) (fun k=>6 - k) 0 (Nat.zero_le _) ⟨rfl,rfl,rfl,trivial⟩ (Hp.Le.refl _) ?_
  rintro k φ hk
  have hk:k≤6:=hk
  conv=>whnf
  refine SeqP.go ?_
  conv=>whnf
  refine cmpB (fun c1=>?_) (fun c1=>?_)
  rotate_left
  ·conv=>whnf
   have:k = 6:=by omega
   subst this
   exact ⟨(),⟨rfl,rfl,trivial⟩,rfl,rfl⟩
  conv=>whnf
  refine SeqP.go ?_
  conv=>whnf
  refine SeqP.go ?_
  conv=>whnf
  refine SeqP.go ?_
  conv=>whnf
  refine ⟨⟨by omega,by omega⟩,?_⟩
  conv=>whnf
  refine ⟨rfl,H0.lay (.row 116 true ((idK 6 (k + 1)).map int)),by rw [← idK_set (show k < 6 by omega)]; exact layE_set (i:=k) (by omega) (by rw [idK_len]; omega),?_⟩
  conv=>whnf
  refine ⟨_,wid (by omega),?_⟩
  conv=>whnf
  exact Rnd.mk (k + 1) (show k + 1≤6 by omega) (by show 6 - (k + 1) < 6 - k; omega) ⟨rfl,rfl,rfl,trivial⟩ (Hp.Le.refl _) rfl
 rintro _ φ _ rfl
 conv=>whnf
 refine ⟨_,cellsAt_row (Hp.at_lay_self _ _) (by simp [idK_len]),?_⟩
 conv=>whnf
 refine ⟨rfl,_,storeAt_full (Hp.at_lay_old _ h0) rfl rfl rfl,?_⟩
 conv=>whnf
 refine leave_cell (i:=(tiOf Try.prog 116).get ty116) (r:=h.next) (o:=0) (cs:=(idK 6 6).map int) rfl (ty_get (by kernel_rfl) (Option.some_get ty116).symm) (by kernel_rfl) ?_ ?_
 ·rw [show ((tiOf Try.prog 116).get ty116).size = 6 from by kernel_rfl,cellsAt_row (Hp.at_set_self _ (Hp.lt_of_at (Hp.at_lay_old _ h0))) (Nat.le_refl _)]
  rfl
 ·exact ⟨rfl,(gh0.then_lay _).then_set _ (Nat.le_refl _)⟩
end
structure GR (h H:Hp) (G:Nat) (p:List Int):Prop where
 next:h.next≤H.next
 at_:∀ r o,r≠G→h.at r = some o→H.at r = some o
 grp:H.at G = some (.row 116 true (p.map int))
theorem GR.start {h:Hp} {G:Nat} {p:List Int} (k:h.at G = some (.row 116 true (p.map int))):GR h h G p:=⟨Nat.le_refl _,fun _ _ _ e=>e,k⟩
theorem GR.cell {h H:Hp} {G:Nat} {p:List Int} (k:GR h H G p) {i:Nat} {j x:Int} (hj:j.toNat = i) (hx:p[i]? = some x):cellAt H G (offAt 0 j.toNat 1) = some (int x):=by
 rw [offAt_eq,hj,show 0 + i * 1 = i by omega]
 exact cellAt_row k.grp (by rw [List.getElem?_map,hx]; rfl)
theorem GR.set {h H:Hp} {G:Nat} {p:List Int} (k:GR h H G p) {i:Nat} {j x:Int} (hj:j.toNat = i) (hi:i < p.length):∃ H',storeAt H G (offAt 0 j.toNat 1) [int x] = some H'∧GR h H' G (p.set i x):=by
 rw [offAt_eq,hj,show 0 + i * 1 = i by omega,storeAt_row k.grp (by rw [List.length_map]; exact hi) rfl]
 refine ⟨_,rfl,⟨by rw [Hp.next_set]; exact k.next,fun r o hr e=>by rw [Hp.at_set_ne _ hr]; exact k.at_ r o hr e,?_⟩⟩
 rw [Hp.at_set_self _ (Hp.lt_of_at k.grp),List.map_set]
theorem join_spec (G:Nat) (p:List Int) (hp:p.length = 6) (a b:Int) (ha:0≤a∧a < 6) (hb:0≤b∧b < 6) (h:Hp) (hG:h.at G = some (.row 116 true (p.map int))) :
  CallP E 99 [ptr G 0,int a,int b] h (fun r h'=>(at0 p a = at0 p b∧r = .bool false∧GR h h' G p)∨(¬ at0 p a = at0 p b∧r = .bool true∧GR h h' G (relab p (at0 p b) (at0 p a)))):=by
 have g0:=GR.start hG
 have ga:=at0_get (p:=p) (x:=a) (by omega) (by omega)
 have gb:=at0_get (p:=p) (x:=b) (by omega) (by omega)
 refine enter99 (by simp) ?_
 ((conv=>whnf); repeat (refine SeqP.go ?_; conv=>whnf))
 repeat (refine SeqP.go ?_; conv=>whnf)
 refine ⟨⟨by omega,by omega⟩,?_⟩
 ((conv=>whnf); repeat (refine SeqP.go ?_; conv=>whnf))
 refine ⟨int (at0 p b),g0.cell rfl gb,?_⟩
 ((conv=>whnf); repeat (refine SeqP.go ?_; conv=>whnf))
 refine ⟨⟨by omega,by omega⟩,?_⟩
 ((conv=>whnf); repeat (refine SeqP.go ?_; conv=>whnf))
 refine ⟨int (at0 p a),g0.cell rfl ga,?_⟩
 ((conv=>whnf); repeat (refine SeqP.go ?_; conv=>whnf))
 repeat (refine SeqP.go ?_; conv=>whnf)
 repeat (refine SeqP.go ?_; conv=>whnf)
 refine cmpB (fun c1=>?_) (fun c1=>?_)
 ·((conv=>whnf); repeat (refine SeqP.go ?_; conv=>whnf))
  repeat (refine SeqP.go ?_; conv=>whnf)
  exact .inl ⟨c1.symm,rfl,g0⟩
 ((conv=>whnf); repeat (refine SeqP.go ?_; conv=>whnf))
 refine loop_inv (α:=Nat×Hp) (fun s=>[(25,int s.1),(24,ptr G 0),(0,ptr G 0),(7,int (at0 p b)),(8,int (at0 p a))]) (fun s=>s.2) (fun s=>s.1≤6∧GR h s.2 G (partK p (at0 p b) (at0 p a) s.1)) (fun s=>6 - s.1) (0,h) ⟨Nat.zero_le _,by rw [partK_zero]; exact g0⟩ ⟨rfl,rfl,rfl,rfl,rfl,trivial⟩ (Hp.Le.refl _) ?_
 rintro ⟨k,H⟩ φ ⟨hk,hg⟩
 dsimp only at hk hg ⊢
 ((conv=>whnf); repeat (refine SeqP.go ?_; conv=>whnf))
 repeat (refine SeqP.go ?_; conv=>whnf)
 refine cmpB (fun c2=>?_) (fun c2=>?_)
 rotate_left
 ·((conv=>whnf); repeat (refine SeqP.go ?_; conv=>whnf))
  repeat (refine SeqP.go ?_; conv=>whnf)
  have:k = p.length:=by omega
  subst this
  rw [partK_all] at hg
  exact .inr ⟨fun e=>c1 e.symm,rfl,hg⟩
 have hk':k < p.length:=by omega
 have hpk:=partK_get (b:=at0 p b) (a:=at0 p a) hk'
 have hpl:=partK_len p (at0 p b) (at0 p a) k
 ((conv=>whnf); repeat (refine SeqP.go ?_; conv=>whnf))
 repeat (refine SeqP.go ?_; conv=>whnf)
 repeat (refine SeqP.go ?_; conv=>whnf)
 refine ⟨⟨by omega,by omega⟩,?_⟩
 ((conv=>whnf); repeat (refine SeqP.go ?_; conv=>whnf))
 refine ⟨int (p.getD k 0),hg.cell (i:=k) (by omega) hpk,?_⟩
 ((conv=>whnf); repeat (refine SeqP.go ?_; conv=>whnf))
 refine cmpB (fun d2=>?_) (fun d2=>?_)
 ·((conv=>whnf); repeat (refine SeqP.go ?_; conv=>whnf))
  refine ⟨⟨by omega,by omega⟩,?_⟩
  have hst:=hg.set (j:=(k:Int)) (i:=k) (x:=at0 p a) (by omega) (by omega)
  obtain ⟨H',hs1,hs2⟩:=hst
  have e2:=partK_set (b:=at0 p b) (a:=at0 p a) hk'
  rw [re1,if_pos d2] at e2
  rw [e2] at hs2
  ((conv=>whnf); repeat (refine SeqP.go ?_; conv=>whnf))
  refine ⟨rfl,H',hs1,?_⟩
  ((conv=>whnf); repeat (refine SeqP.go ?_; conv=>whnf))
  refine ⟨_,wid (by omega),?_⟩
  ((conv=>whnf); repeat (refine SeqP.go ?_; conv=>whnf))
  exact Rnd.mk (k + 1,H') ⟨by show k + 1≤6; omega,hs2⟩ (by show 6 - (k + 1) < 6 - k; omega) ⟨rfl,rfl,rfl,rfl,rfl,trivial⟩ (Hp.Le.refl _) rfl
 ·have hnx:=partK_next (b:=at0 p b) (a:=at0 p a) hk' d2
  ((conv=>whnf); repeat (refine SeqP.go ?_; conv=>whnf))
  refine ⟨_,wid (by omega),?_⟩
  ((conv=>whnf); repeat (refine SeqP.go ?_; conv=>whnf))
  exact Rnd.mk (k + 1,H) ⟨by show k + 1≤6; omega,by rw [hnx]; exact hg⟩ (by show 6 - (k + 1) < 6 - k; omega) ⟨rfl,rfl,rfl,rfl,rfl,trivial⟩ (Hp.Le.refl _) rfl
end
end Go.Proofs.Ythgjnkdealdmoaa
namespace Go.Proofs.Ythgjnkdealdmoaa
open Go.Rx Go.RowKit
attribute [local irreducible] E idxN cellAt cellsAt storeAt callable helems hmoved lookIn findKey keyOk hentries Hp.at Hp.set Hp.lay arBits hupdated setAt CallP YieldP BoolOf IsWrap Rnd LoopP AppP CutP Int.tmod Int.tdiv Int.fdiv
section
variable [Unknowns]
theorem isnan_spec (a:Int) (h:Hp):CallP E 145 [int a] h (fun r h'=>r = .bool false∧h' = h):=by
 refine enter145 (by simp) ?_
 ((conv=>whnf); repeat (refine SeqP.go ?_; conv=>whnf))
 refine cmpF (by omega) ?_
 ((conv=>whnf); repeat (refine SeqP.go ?_; conv=>whnf))
 exact ⟨rfl,rfl⟩
def cmpI (a b:Int):Int:=if a < b then -1 else if b < a then 1 else 0
theorem cmp_spec (a b:Int) (h:Hp):CallP E 133 [int a,int b] h (fun r h'=>r = int (cmpI a b)∧h' = h):=by
 refine enter133 (by simp) ?_
 ((conv=>whnf); repeat (refine SeqP.go ?_; conv=>whnf))
 refine CallP.mono (isnan_spec a h) ?_
 rintro r h1 ⟨rfl,rfl⟩
 ((conv=>whnf); repeat (refine SeqP.go ?_; conv=>whnf))
 refine CallP.mono (isnan_spec b h1) ?_
 rintro r h2 ⟨rfl,rfl⟩
 ((conv=>whnf); repeat (refine SeqP.go ?_; conv=>whnf))
 by_cases h3:a < b
 ·refine cmpT h3 ?_
  ((conv=>whnf); repeat (refine SeqP.go ?_; conv=>whnf))
  exact ⟨by unfold cmpI; rw [if_pos h3]; rfl,rfl⟩
 refine cmpF h3 ?_
 ((conv=>whnf); repeat (refine SeqP.go ?_; conv=>whnf))
 by_cases h4:b < a
 ·refine cmpT h4 ?_
  ((conv=>whnf); repeat (refine SeqP.go ?_; conv=>whnf))
  exact ⟨by unfold cmpI; rw [if_neg h3,if_pos h4]; rfl,rfl⟩
 refine cmpF h4 ?_
 ((conv=>whnf); repeat (refine SeqP.go ?_; conv=>whnf))
 exact ⟨by unfold cmpI; rw [if_neg h3,if_neg h4]; rfl,rfl⟩
def PLess (x y:Int×Int):Prop:=x.1 < y.1∨x.1 = y.1∧x.2 < y.2
theorem compare_spec (v w:Value) (x y:Int×Int) (h:Hp) (hv:Ints h v [x.1,x.2]) (hw:Ints h w [y.1,y.2]):CallP E 121 [v,w] h (fun r h'=>(∃ c:Int,r = int c∧(c < 0↔PLess x y)∧(c = 0↔x = y))∧h' = h):=by
 obtain ⟨a,b⟩:=x
 obtain ⟨c,d⟩:=y
 obtain ⟨av,cap,rfl,hc⟩:=id hv
 obtain ⟨aw,cap',rfl,hd⟩:=id hw
 obtain ⟨r,o,sp,e,hsp,hc0⟩:=hc 0 (by simp)
 subst e
 obtain ⟨r',o',sp',e,hsp',hd0⟩:=hd 0 (by simp)
 subst e
 have hc1:cellAt h r (1 + o) = some (int b):=by
  obtain ⟨_,_,_,e,_,h1⟩:=hc 1 (by simp)
  cases e
  exact h1
 have hd1:cellAt h r' (1 + o') = some (int d):=by
  obtain ⟨_,_,_,e,_,h1⟩:=hd 1 (by simp)
  cases e
  exact h1
 refine enter121 (by simp) ?_
 ((conv=>whnf); repeat (refine SeqP.go ?_; conv=>whnf))
 refine loop_inv (α:=Nat) (fun k=>[(11,int k),(10,int 2),(9,.slice (some ⟨r,o,sp⟩) 2 cap),(0,.slice (some ⟨r,o,sp⟩) 2 cap),(1,.slice (some ⟨r',o',sp'⟩) 2 cap')]) (fun _=>h) (fun k=>k≤2∧(1≤k→a = c)∧(2≤k→b = d)) (fun k=>2 - k) 0 ⟨by omega,by omega,by omega⟩ ⟨rfl,rfl,rfl,rfl,rfl,trivial⟩ (Hp.Le.refl _) ?_
 rintro k φ ⟨hk,h1,h2⟩
 have hk3:k = 0∨k = 1∨k = 2:=by omega
 ((conv=>whnf); repeat (refine SeqP.go ?_; conv=>whnf))
 refine cmpB (fun hb=>?_) (fun hb=>?_)
 rotate_left
 ·have:k = 2:=by omega
  subst this
  ((conv=>whnf); repeat (refine SeqP.go ?_; conv=>whnf))
  refine cmpF (by omega) ?_
  ((conv=>whnf); repeat (refine SeqP.go ?_; conv=>whnf))
  refine ⟨⟨0,rfl,?_,?_⟩,rfl⟩
  ·unfold PLess; dsimp only; omega
  ·rw [Prod.mk.injEq]; omega
 have hx:∃ x:Int,cellAt h r (k + o) = some (int x)∧(k = 0∧x = a∨k = 1∧x = b):=by
  rcases hk3 with rfl | rfl | rfl
  ·exact ⟨a,hc0,.inl ⟨rfl,rfl⟩⟩
  ·exact ⟨b,hc1,.inr ⟨rfl,rfl⟩⟩
  ·omega
 have hy:∃ y:Int,cellAt h r' (k + o') = some (int y)∧(k = 0∧y = c∨k = 1∧y = d):=by
  rcases hk3 with rfl | rfl | rfl
  ·exact ⟨c,hd0,.inl ⟨rfl,rfl⟩⟩
  ·exact ⟨d,hd1,.inr ⟨rfl,rfl⟩⟩
  ·omega
 obtain ⟨x,hx1,hx2⟩:=hx
 obtain ⟨y,hy1,hy2⟩:=hy
 ((conv=>whnf); repeat (refine SeqP.go ?_; conv=>whnf))
 refine ⟨hsp,⟨by omega,by omega⟩,?_⟩
 ((conv=>whnf); repeat (refine SeqP.go ?_; conv=>whnf))
 refine ⟨_,hx1,?_⟩
 ((conv=>whnf); repeat (refine SeqP.go ?_; conv=>whnf))
 refine cmpF (by omega) ?_
 ((conv=>whnf); repeat (refine SeqP.go ?_; conv=>whnf))
 refine ⟨hsp',⟨by omega,by omega⟩,?_⟩
 ((conv=>whnf); repeat (refine SeqP.go ?_; conv=>whnf))
 refine ⟨_,hy1,?_⟩
 ((conv=>whnf); repeat (refine SeqP.go ?_; conv=>whnf))
 refine CallP.mono (cmp_spec x y h) ?_
 rintro rr h3 ⟨rfl,rfl⟩
 ((conv=>whnf); repeat (refine SeqP.go ?_; conv=>whnf))
 by_cases hxy:x = y
 ·refine cmpF (fun hn=>hn (by unfold cmpI; rw [if_neg (by omega),if_neg (by omega)])) ?_
  ((conv=>whnf); repeat (refine SeqP.go ?_; conv=>whnf))
  refine ⟨_,wid (by omega),?_⟩
  ((conv=>whnf); repeat (refine SeqP.go ?_; conv=>whnf))
  exact Rnd.mk (k + 1) ⟨by omega,by omega,by omega⟩ (by omega) ⟨rfl,rfl,rfl,rfl,rfl,trivial⟩ (Hp.Le.refl _) rfl
 ·refine cmpT (fun hn=>by
   unfold cmpI at hn
   split at hn
   ·omega
   ·split at hn <;> omega) ?_
  ((conv=>whnf); repeat (refine SeqP.go ?_; conv=>whnf))
  refine ⟨⟨cmpI x y,rfl,?_,?_⟩,rfl⟩
  ·unfold PLess cmpI; dsimp only
   constructor
   ·intro h
    split at h
    ·omega
    ·split at h <;> omega
   ·intro h
    rw [if_pos (by omega)]
    omega
  ·rw [Prod.mk.injEq]
   constructor
   ·intro h
    unfold cmpI at h
    split at h
    ·omega
    ·split at h <;> omega
   ·intro h; exfalso; omega
end
end Go.Proofs.Ythgjnkdealdmoaa
namespace Go.Proofs.Ythgjnkdealdmoaa
open Go.Rx Go.RowKit
def mem (set i:Nat):List Nat:=(List.range i).filter fun j=>set.testBit j
theorem mem_succ (set i:Nat):mem set (i + 1) = if set.testBit i = true then mem set i ++ [i] else mem set i:=by
 unfold mem
 rw [List.range_succ,List.filter_append]
 cases h:set.testBit i <;> simp [h]
theorem mem_pre (set i:Nat):∀ d,∃ r,mem set (i + d) = mem set i ++ r
 | 0=>⟨[],by simp⟩
 | d + 1=>by
  obtain ⟨r,e⟩:=mem_pre set i d
  rw [show i + (d + 1) = (i + d) + 1 by omega,mem_succ]
  split
  ·exact ⟨r ++ [i + d],by rw [e,List.append_assoc]⟩
  ·exact ⟨r,e⟩
theorem mem_stop {set i:Nat} (h:set >>> i = 0):∀ d,mem set (i + d) = mem set i
 | 0=>rfl
 | d + 1=>by
  rw [show i + (d + 1) = (i + d) + 1 by omega,mem_succ,if_neg,mem_stop h d]
  have:set.testBit (i + d) = (set >>> i).testBit d:=by rw [Nat.testBit_shiftRight]
  rw [this,h]
  simp
theorem mem_get {set i N:Nat} (h:set.testBit i = true) (hi:i < N):(mem set N)[(mem set i).length]? = some i:=by
 obtain ⟨r,e⟩:=mem_pre set (i + 1) (N - (i + 1))
 rw [show i + 1 + (N - (i + 1)) = N by omega,mem_succ,if_pos h,List.append_assoc] at e
 rw [e,List.getElem?_append_right (Nat.le_refl _)]
 simp
def rkF (N:Nat) (P:List (Int×Int)) (l:List Nat):List Int×Nat:=l.foldl (fun s e=>rkStep true (edg P e) s) (idK N N,0)
theorem rkF_app (N:Nat) (P:List (Int×Int)) (l:List Nat) (e:Nat):rkF N P (l ++ [e]) = rkStep true (edg P e) (rkF N P l):=by unfold rkF; rw [List.foldl_append]; rfl
theorem rk_mem (N:Nat) (P:List (Int×Int)) (set:Nat):∀ i,rk N P set i = rkF N P (mem set i)
 | 0=>rfl
 | i + 1=>by
  show rkStep _ _ _ = _
  rw [mem_succ,rk_mem N P set i]
  split
  ·rename_i h
   rw [h,rkF_app]
  ·rename_i h
   unfold rkStep
   rw [if_neg (fun k=>h k.1)]
attribute [local irreducible] E idxN cellAt cellsAt storeAt callable helems hmoved lookIn findKey keyOk hentries Hp.at Hp.set Hp.lay arBits hupdated setAt CallP YieldP BoolOf IsWrap Rnd LoopP AppP CutP Int.tmod Int.tdiv Int.fdiv
section
variable [Unknowns]
attribute [local irreducible] ResP sameAt flat
def gvN (i:Nat):List Value:=[int (i:Int)]
theorem members_iter (set N:Nat) (hN:N≤9) (hs:set < 2 ^ N) (c l:Nat) (I:Nat→Hp→Prop) (S:Hp→Prop) (h:Hp) (hJ:∀ k h,I k h→h.at c = some (.row 3 true [int set])) (h0:I 0 h) (hit:IterP E l ((mem set N).map gvN) I S):CallP E 120 [yieldVal l,ptr c 0] h (fun _ h'=>I ((mem set N).map gvN).length h'∨S h'):=by
 have hlen:((mem set N).map gvN).length = (mem set N).length:=by simp
 rw [hlen]
 have hp:=Nat.pow_le_pow_right (n:=2) (by omega) hN
 have yld:∀ (i:Nat) (h:Hp),i < N→set.testBit i = true→I (mem set i).length h→YieldP E l [int (i:Int)] h fun v h'=>(v = .bool true∧I ((mem set i).length + 1) h')∨(v = .bool false∧S h'):=by
  intro i h hi hb hI
  have hg:=mem_get hb hi
  have hg2:=List.getElem?_eq_some_iff.1 hg
  obtain ⟨hk,e⟩:=hg2
  have:=hit (mem set i).length (by rw [hlen]; exact hk) h hI
  rw [List.getElem_map,e] at this
  exact this
 refine enter120 (by simp) ?_
 conv=>whnf
 refine SeqP.go ?_
 conv=>whnf
 refine loop_inv (α:=Nat×Hp) (fun s=>[(3,int s.1),(0,yieldVal l),(1,ptr c 0)]) (fun s=>s.2) (fun s=>s.1≤N∧I (mem set s.1).length s.2) (fun s=>N - s.1) (0,h) ⟨Nat.zero_le _,h0⟩ ⟨rfl,rfl,rfl,trivial⟩ (Hp.Le.refl _) ?_
 rintro ⟨i,h1⟩ φ ⟨hi,hI⟩
 dsimp only at hi hI ⊢
 have esh:=shr_nat (a:=set) (k:=i) (by omega)
 have hle:set >>> i≤set:=by rw [Nat.shiftRight_eq_div_pow]; exact Nat.div_le_self _ _
 conv=>whnf
 repeat (refine SeqP.go ?_; conv=>whnf)
 refine ⟨int set,cellAt_row (hJ _ h1 hI) rfl,?_⟩
 conv=>whnf
 refine ⟨by omega,?_⟩
 conv=>whnf
 refine cmpB (fun hb1=>?_) (fun hb1=>?_)
 rotate_left
 ·have hb1:¬ 0 < (set:Int).fdiv (2 ^ (min (i:Int).toNat 64)):=hb1
  rw [esh] at hb1
  have hz:set >>> i = 0:=Nat.eq_zero_of_not_pos fun h=>hb1 (Int.natCast_pos.2 h)
  have hm:=mem_stop hz (N - i)
  rw [show i + (N - i) = N by omega] at hm
  conv=>whnf
  repeat (refine SeqP.go ?_; conv=>whnf)
  exact .inl (by rw [hm]; exact hI)
 have hb1:0 < (set:Int).fdiv (2 ^ (min (i:Int).toNat 64)):=hb1
 rw [esh] at hb1
 have hb1:0 < set >>> i:=Int.natCast_pos.1 hb1
 have hiN:i < N:=by
  rcases Nat.lt_or_ge i N with h1 | h1
  ·exact h1
  ·have:set >>> i = 0:=by rw [Nat.shiftRight_eq_div_pow]; exact Nat.div_eq_of_lt (Nat.lt_of_lt_of_le hs (Nat.pow_le_pow_right (by omega) h1))
   rw [this] at hb1
   exact absurd hb1 (Nat.lt_irrefl _)
 have em:=mem_succ set i
 conv=>whnf
 repeat (refine SeqP.go ?_; conv=>whnf)
 refine ⟨int set,cellAt_row (hJ _ h1 hI) rfl,?_⟩
 conv=>whnf
 refine CallP.mono (has_spec set i (by omega) (by omega) h1) ?_
 rintro r h2 ⟨rfl,rfl⟩
 cases hbit:set.testBit i with
 | false =>
  rw [hbit,if_neg (by simp)] at em
  conv=>whnf
  refine ⟨_,wid (by omega),?_⟩
  conv=>whnf
  exact Rnd.mk (i + 1,h2) ⟨by show i + 1≤N; omega,by rw [em]; exact hI⟩ (by show N - (i + 1) < N - i; omega) ⟨rfl,rfl,rfl,trivial⟩ (Hp.Le.refl _) rfl
 | true =>
  rw [hbit,if_pos rfl] at em
  have hl1:(mem set (i + 1)).length = (mem set i).length + 1:=by rw [em]; simp
  conv=>whnf
  refine YieldP.mono (yld i h2 hiN hbit hI) ?_
  rintro v h3 (⟨rfl,hI2⟩ | ⟨rfl,hS⟩)
  ·conv=>whnf
   refine ⟨_,wid (by omega),?_⟩
   conv=>whnf
   exact Rnd.mk (i + 1,h3) ⟨by show i + 1≤N; omega,by rw [hl1]; exact hI2⟩ (by show N - (i + 1) < N - i; omega) ⟨rfl,rfl,rfl,trivial⟩ (Hp.Le.refl _) rfl
  ·conv=>whnf
   repeat (refine SeqP.go ?_; conv=>whnf)
   exact .inr hS
end
end Go.Proofs.Ythgjnkdealdmoaa
namespace Go.Proofs.Ythgjnkdealdmoaa
open Go.Rx Go.RowKit
attribute [local irreducible] E idxN cellAt cellsAt storeAt callable helems hmoved lookIn findKey keyOk hentries Hp.at Hp.set Hp.lay arBits hupdated setAt CallP YieldP BoolOf IsWrap Rnd LoopP AppP CutP Int.tmod Int.tdiv Int.fdiv
section
variable [Unknowns]
attribute [local irreducible] ResP sameAt flat
theorem edges_spec (x y:Int×Int) (h:Hp):CallP E 100 [.agg ⟨[int x.1,int x.2]⟩,.agg ⟨[int y.1,int y.2]⟩] h (fun r h'=>(∃ c:Int,r = int c∧(c < 0↔PLess x y)∧(c = 0↔x = y))∧Grows h h'):=by
 refine enter100 (by simp) ?_
 conv=>whnf
 repeat (refine SeqP.go ?_; conv=>whnf)
 have a1:((h.lay (.row 79 true [int x.1,int x.2])).lay (.row 79 true [int y.1,int y.2])).at h.next = some (.row 79 true ([x.1,x.2].map int)):=Hp.at_lay_old _ (Hp.at_lay_self _ _)
 have a2:((h.lay (.row 79 true [int x.1,int x.2])).lay (.row 79 true [int y.1,int y.2])).at (h.lay (.row 79 true [int x.1,int x.2])).next = some (.row 79 true ([y.1,y.2].map int)):=Hp.at_lay_self _ _
 refine resP_cutA ?_ (by omega)
 conv=>whnf
 refine resP_cutA ?_ (by omega)
 conv=>whnf
 refine CallP.mono (compare_spec _ _ x y _ ?_ ?_) ?_
 ·exact ints_spot (l:=[x.1,x.2]) a1 (fun j hj=>by
   have hj2:j = 0∨j = 1:=by simp at hj; omega
   rcases hj2 with rfl | rfl <;> rfl)
 ·exact ints_spot (l:=[y.1,y.2]) a2 (fun j hj=>by
   have hj2:j = 0∨j = 1:=by simp at hj; omega
   rcases hj2 with rfl | rfl <;> rfl)
 rintro r h2 ⟨⟨c,rfl,hc⟩,rfl⟩
 conv=>whnf
 exact ⟨⟨c,rfl,hc⟩,(Grows.lay _ _).then_lay _⟩
theorem le_not {x y:Int×Int} (h:leP x y):¬ PLess y x:=by unfold leP at h; unfold PLess; omega
theorem Check_spec (n:Nat) (P:List (Int×Int)) (hP:NetOk n P) (hl:P.length≤9) (v:Value) (h:Hp) (hv:PairsV h v P):CallP E 60 [int n,v] h (fun r h'=>r = int 0∧Grows h h'):=by
 obtain ⟨av,cap,rfl,hcv⟩:=id hv
 have hn:=hP.n1
 refine enter60 (by simp) ?_
 conv=>whnf
 repeat (refine SeqP.go ?_; conv=>whnf)
 refine cmpF (by omega) ?_
 conv=>whnf
 refine cmpF (by omega) ?_
 conv=>whnf
 repeat (refine SeqP.go ?_; conv=>whnf)
 refine cmpF (by omega) ?_
 conv=>whnf
 repeat (refine SeqP.go ?_; conv=>whnf)
 refine loop_inv (α:=Nat×Hp) (fun s=>[(18,int s.1),(17,int P.length),(16,.slice av P.length cap),(0,int n),(1,.slice av P.length cap)]) (fun s=>s.2) (fun s=>s.1≤P.length∧Grows h s.2) (fun s=>P.length - s.1) (0,h) ⟨Nat.zero_le _,.refl _⟩ ⟨rfl,rfl,rfl,rfl,rfl,trivial⟩ (Hp.Le.refl _) ?_
 rintro ⟨k,H⟩ φ ⟨hk,hg⟩
 dsimp only at hk hg ⊢
 conv=>whnf
 repeat (refine SeqP.go ?_; conv=>whnf)
 refine cmpB (fun c1=>?_) (fun c1=>?_)
 rotate_left
 ·conv=>whnf
  repeat (refine SeqP.go ?_; conv=>whnf)
  exact ⟨rfl,hg⟩
 have hk':k < P.length:=by omega
 obtain ⟨r,o,rfl,hc0,hc1⟩:=hcv k hk'
 have hok:=hP.ok _ (List.getElem_mem hk')
 conv=>whnf
 repeat (refine SeqP.go ?_; conv=>whnf)
 refine ⟨rfl,⟨by omega,by omega⟩,?_⟩
 conv=>whnf
 refine ⟨[int (P[k]).1,int (P[k]).2],cellsAt_two (hg.cell hc0) (hg.cell hc1),?_⟩
 conv=>whnf
 refine ⟨rfl,_,store2,?_⟩
 have aD:(H.lay (.row 79 true [int (P[k]).1,int (P[k]).2])).at H.next = some (.row 79 true [int (P[k]).1,int (P[k]).2]):=Hp.at_lay_self _ _
 have q0:cellAt (H.lay (.row 79 true [int (P[k]).1,int (P[k]).2])) H.next (0 + 0) = some (int (P[k]).1):=cellAt_row aD rfl
 have q1:cellAt (H.lay (.row 79 true [int (P[k]).1,int (P[k]).2])) H.next (1 + 0) = some (int (P[k]).2):=cellAt_row aD rfl
 have hg':Grows h (H.lay (.row 79 true [int (P[k]).1,int (P[k]).2])):=hg.then_lay _
 conv=>whnf
 repeat (refine SeqP.go ?_; conv=>whnf)
 refine ⟨⟨by omega,by omega⟩,?_⟩
 conv=>whnf
 refine ⟨_,q0,?_⟩
 conv=>whnf
 refine cmpF (by omega) ?_
 conv=>whnf
 refine ⟨⟨by omega,by omega⟩,?_⟩
 conv=>whnf
 refine ⟨_,q0,?_⟩
 conv=>whnf
 refine ⟨⟨by omega,by omega⟩,?_⟩
 conv=>whnf
 refine ⟨_,q1,?_⟩
 conv=>whnf
 refine cmpF (by omega) ?_
 conv=>whnf
 refine ⟨⟨by omega,by omega⟩,?_⟩
 conv=>whnf
 refine ⟨_,q1,?_⟩
 conv=>whnf
 refine cmpF (by omega) ?_
 conv=>whnf
 repeat (refine SeqP.go ?_; conv=>whnf)
 refine cmpB (fun c2=>?_) (fun c2=>?_)
 rotate_left
 ·conv=>whnf
  repeat (refine SeqP.go ?_; conv=>whnf)
  refine ⟨_,wid (by omega),?_⟩
  conv=>whnf
  exact Rnd.mk (k + 1,_) ⟨by show k + 1≤P.length; omega,hg'⟩ (by show P.length - (k + 1) < P.length - k; omega) ⟨rfl,rfl,rfl,rfl,rfl,trivial⟩ (Hp.Le.refl _) rfl
 have hk1:k - 1 < P.length:=by omega
 have hcc:=hcv (k - 1) hk1
 obtain ⟨r',o',e',hd0,hd1⟩:=hcc
 obtain ⟨rfl,rfl⟩:r' = r∧o' = o:=by cases e'; exact ⟨rfl,rfl⟩
 have hsr:leP P[k - 1] P[k]:=(List.pairwise_iff_getElem.1 hP.srt) (k - 1) k hk1 hk' (by omega)
 conv=>whnf
 refine ⟨_,cellsAt_row aD (by simp),?_⟩
 conv=>whnf
 refine ⟨((k - 1:Nat):Int),wie (by omega) (by omega),?_⟩
 conv=>whnf
 refine ⟨rfl,⟨by omega,by omega⟩,?_⟩
 conv=>whnf
 refine ⟨[int (P[k - 1]).1,int (P[k - 1]).2],cellsAt_two (hg'.cell hd0) (hg'.cell hd1),?_⟩
 conv=>whnf
 refine CallP.mono (edges_spec P[k] P[k - 1] _) ?_
 rintro rr h2 ⟨⟨c,rfl,hcl,-⟩,hg2⟩
 conv=>whnf
 refine cmpF (fun h=>le_not hsr (hcl.1 h)) ?_
 conv=>whnf
 repeat (refine SeqP.go ?_; conv=>whnf)
 refine ⟨_,wid (by omega),?_⟩
 conv=>whnf
 exact Rnd.mk (k + 1,h2) ⟨by show k + 1≤P.length; omega,hg'.trans hg2⟩ (by show P.length - (k + 1) < P.length - k; omega) ⟨rfl,rfl,rfl,rfl,rfl,trivial⟩ (Hp.Le.refl _) rfl
end
end Go.Proofs.Ythgjnkdealdmoaa
namespace Go.Proofs.Ythgjnkdealdmoaa
open Go.Rx Go.RowKit
theorem at_nx {h:Hp} {r r':Nat} {o:Rx.Obj} (e:r = r') (k:h.at r = some o):h.at r' = some o:=e ▸ k
structure RK (h0 H:Hp) (G C:Nat) (s:List Int×Nat):Prop where
 next:h0.next≤H.next
 at_:∀ r o,r≠G→r≠C→h0.at r = some o→H.at r = some o
 grp:H.at G = some (.row 116 true (s.1.map int))
 cnt:H.at C = some (.row 3 true [int (s.2:Int)])
theorem RK.keep {h0 H H2:Hp} {G C l:Nat} {s:List Int×Nat} (k:RK h0 H G C s) (hG:G < l) (hC:C < l) (hl:h0.next≤l) (kp:Keeps l H H2):RK h0 H2 G C s :=
 ⟨by rw [kp.next]; exact k.next,fun r o h1 h2 e=>kp.at_ _ _ (by have:=Hp.lt_of_at e; omega) (k.at_ r o h1 h2 e),kp.at_ _ _ (by omega) k.grp,kp.at_ _ _ (by omega) k.cnt⟩
theorem RK.ext {h0 H H2:Hp} {G C:Nat} {s:List Int×Nat} (k:RK h0 H G C s) (g:Grows H H2):RK h0 H2 G C s :=
 ⟨Nat.le_trans k.next g.next,fun r o h1 h2 e=>g.at_ _ _ (k.at_ r o h1 h2 e),g.at_ _ _ k.grp,g.at_ _ _ k.cnt⟩
theorem RK.join {h0 H H2:Hp} {G C:Nat} {s:List Int×Nat} {p:List Int} (k:RK h0 H G C s) (hne:C≠G) (g:GR H H2 G p):RK h0 H2 G C (p,s.2) :=
 ⟨Nat.le_trans k.next g.next,fun r o h1 h2 e=>g.at_ _ _ h1 (k.at_ r o h1 h2 e),g.grp,g.at_ _ _ hne k.cnt⟩
theorem RK.inc {h0 H:Hp} {G C:Nat} {s:List Int×Nat} {c:Nat} (k:RK h0 H G C s) (hne:C≠G):RK h0 (H.set C (.row 3 true [int (c:Int)])) G C (s.1,c):=by
 refine ⟨by rw [Hp.next_set]; exact k.next,fun r o h1 h2 e=>?_,?_,?_⟩
 ·rw [Hp.at_set_ne _ h2]; exact k.at_ r o h1 h2 e
 ·rw [Hp.at_set_ne _ (fun e=>hne e.symm)]; exact k.grp
 ·exact Hp.at_set_self _ (Hp.lt_of_at k.cnt)
theorem RK.grows {h h0 H:Hp} {G C:Nat} {s:List Int×Nat} (k:RK h0 H G C s) (g:Grows h h0) (hG:h.next≤G) (hC:h.next≤C):Grows h H :=
 ⟨Nat.le_trans g.next k.next,fun r o e=>k.at_ r o (by have:=Hp.lt_of_at e; omega) (by have:=Hp.lt_of_at e; omega) (g.at_ _ _ e)⟩
theorem rkF_len (N:Nat) (P:List (Int×Int)) (l:List Nat):(rkF N P l).1.length = N:=by
 have:∀ (l:List Nat) (s:List Int×Nat),s.1.length = N→(l.foldl (fun s e=>rkStep true (edg P e) s) s).1.length = N:=by
  intro l
  induction l with
  | nil=>intro s h; exact h
  | cons e l ih=>intro s h; exact ih _ (by rw [rkStep_len]; exact h)
 exact this l _ (idK_len N N)
theorem rkF_le (N:Nat) (P:List (Int×Int)) (l:List Nat):(rkF N P l).2≤l.length:=by
 have:∀ (l:List Nat) (s:List Int×Nat),(l.foldl (fun s e=>rkStep true (edg P e) s) s).2≤s.2 + l.length:=by
  intro l
  induction l with
  | nil=>intro s; simp
  | cons e l ih =>
   intro s
   have h1:=ih (rkStep true (edg P e) s)
   have h2:(rkStep true (edg P e) s).2≤s.2 + 1:=by unfold rkStep; split <;> simp
   rw [List.foldl_cons,List.length_cons]
   omega
 have:=this l (idK N N,0)
 rw [Nat.zero_add] at this
 exact this
theorem mem_len (set:Nat):∀ i,(mem set i).length≤i
 | 0=>Nat.le_refl _
 | i + 1=>by
  have:=mem_len set i
  rw [mem_succ]
  split
  ·rw [List.length_append,List.length_singleton]; omega
  ·omega
theorem mem_lt {set i e:Nat} (h:e ∈ mem set i):e < i:=by
 unfold mem at h
 have:=(List.mem_filter.1 h).1
 simpa using this
attribute [local irreducible] E idxN cellAt cellsAt storeAt callable helems hmoved lookIn findKey keyOk hentries Hp.at Hp.set Hp.lay arBits hupdated setAt CallP YieldP BoolOf IsWrap Rnd LoopP AppP CutP Int.tmod Int.tdiv Int.fdiv
section
variable [Unknowns]
attribute [local irreducible] ResP sameAt flat finP
theorem members_spec (set:Nat) (h:Hp):CallP E 98 [int set] h (fun r h'=>r = .func (.func 120) ⟨[]⟩ ⟨[ptr h.next 0]⟩∧h' = h.lay (.row 3 true [int set])):=by
 refine enter98 (by simp) ?_
 conv=>whnf
 repeat (refine SeqP.go ?_; conv=>whnf)
 exact finP_one rfl rfl ⟨rfl,rfl⟩
theorem rank_spec (n:Nat) (P:List (Int×Int)) (hP:NetOk n P) (hl:P.length≤9) (set:Nat) (hs:set < 2 ^ P.length) (v:Value) (h:Hp) (hv:PairsV h v P) :
  CallP E 59 [gval n v,int set] h (fun r h'=>r = int (rk 6 P set P.length).2∧Grows h h'):=by
 obtain ⟨av,cap,rfl,hcv⟩:=id hv
 have hn:=hP.n1
 refine enter59 (by simp) ?_
 conv=>whnf
 refine SeqP.go ?_
 conv=>whnf
 generalize hH1:h.lay (.row 83 true [int n,.slice av P.length cap]) = H1
 have aD:H1.at h.next = some (.row 83 true [int n,.slice av P.length cap]):=by rw [← hH1]; exact Hp.at_lay_self _ _
 have gD:Grows h H1:=by rw [← hH1]; exact Grows.lay _ _
 generalize hDe:h.next = D at aD
 refine SeqP.cut (α:=Nat×Hp) (fun s=>[(5,ptr s.1 0),(2,ptr D 0),(1,int set)]) (fun s H=>H = s.2∧s.2.at s.1 = some (.row 116 true ((idK 6 6).map int))∧H1.next≤s.1∧Grows H1 s.2) ?_ ?_
 ·conv=>whnf
  refine CallP.mono (separate_spec H1) ?_
  rintro r H2 ⟨rfl,g2⟩
  conv=>whnf
  refine ⟨rfl,_,storeAt_full (vs:=(idK 6 6).map int) (Hp.at_lay_self _ _) rfl rfl rfl,?_⟩
  conv=>whnf
  exact ⟨(H2.next,_),⟨rfl,rfl,rfl,trivial⟩,⟨rfl,Hp.at_set_self _ (Hp.lt_of_at (Hp.at_lay_self _ _)),g2.next,(g2.then_lay _).then_set _ g2.next⟩,rfl⟩
 rintro ⟨G,_⟩ φ H2 ⟨rfl,aG,nG,g2⟩
 dsimp only at aG nG g2 ⊢
 conv=>whnf
 refine SeqP.cut (α:=Nat×Hp) (fun s=>[(6,ptr s.1 0),(5,ptr G 0),(2,ptr D 0),(1,int set)]) (fun s H=>H = s.2∧s.2.at s.1 = some (.row 3 true [int 0])∧H2.next≤s.1∧Grows H2 s.2) ?_ ?_
 ·conv=>whnf
  refine ⟨rfl,_,storeAt_lay (by simp) rfl,?_⟩
  conv=>whnf
  exact ⟨(H2.next,_),⟨rfl,rfl,rfl,rfl,trivial⟩,⟨rfl,Hp.at_lay_self _ _,Nat.le_refl _,Grows.lay _ _⟩,rfl⟩
 rintro ⟨C,_⟩ φ H3 ⟨rfl,aC,nC,g3⟩
 dsimp only at aC nC g3 ⊢
 have hGlt:=Hp.lt_of_at aG
 have hClt:=Hp.lt_of_at aC
 have hDlt:=Hp.lt_of_at aD
 have hne:C≠G:=by omega
 have aG3:=g3.at_ _ _ aG
 have aD3:=g3.at_ _ _ (g2.at_ _ _ aD)
 have g03:=(gD.trans g2).trans g3
 conv=>whnf
 refine SeqP.cutM (α:=Unit) (fun _=>[(6,ptr C 0)]) (fun _=>[H3.next + 1]) (fun _ H=>RK ((H3.lay (.row 3 true [int set])).lay .noDefers) H G C (rk 6 P set P.length)) ?_ ?_
 ·conv=>whnf
  refine SeqP.go ?_
  conv=>whnf
  refine CallP.mono (members_spec set H3) ?_
  rintro r _ ⟨rfl,rfl⟩
  conv=>whnf
  generalize hH4:H3.lay (.row 3 true [int set]) = H4
  have aM:H4.at H3.next = some (.row 3 true [int set]):=by rw [← hH4]; exact Hp.at_lay_self _ _
  have n4:H4.next = H3.next + 1:=by rw [← hH4]; exact Hp.next_lay _ _
  have g4:Grows H3 H4:=by rw [← hH4]; exact Grows.lay _ _
  refine range_goJ (fun hh=>hh.at H3.next = some (.row 3 true [int set])) ((mem set P.length).map gvN) (fun k hh=>RK (H4.lay .noDefers) hh G C (rkF 6 P ((mem set P.length).take k))) (fun _=>False) can120 ?_ rfl (fun I S hJ h0 hit=>members_iter set P.length hl hs H3.next _ I S _ hJ h0 hit) ?_ ?_ ?_ ?_ ?_
  ·intro k hk
   simp [gvN]
  ·intro k hh hk
   exact hk.at_ _ _ (by omega) (by omega) (Hp.at_lay_old _ aM)
  ·exact RK.ext ⟨Nat.le_refl _,fun _ _ _ _ e=>e,Hp.at_lay_old _ (g4.at_ _ _ aG3),Hp.at_lay_old _ (g4.at_ _ _ aC)⟩ (Grows.lay _ _)
  ·intro k xs hget H5 hl5 hk
   have hget2:=List.getElem?_eq_some_iff.1 hget
   obtain ⟨hkl,exs⟩:=hget2
   rw [List.length_map] at hkl
   rw [List.getElem_map] at exs
   subst exs
   obtain ⟨e,he⟩:∃ e,(mem set P.length)[k] = e:=⟨_,rfl⟩
   have heP:e < P.length:=mem_lt (by rw [← he]; exact List.getElem_mem hkl)
   have htk:(mem set P.length).take (k + 1) = (mem set P.length).take k ++ [e]:=by rw [List.take_succ_eq_append_getElem hkl,he]
   have hstep:=rkF_app 6 P ((mem set P.length).take k) e
   rw [← htk,edg_get heP] at hstep
   have hsl:=rkF_len 6 P ((mem set P.length).take k)
   have hsc:=rkF_le 6 P ((mem set P.length).take k)
   have hmN:=mem_len set P.length
   have htl:((mem set P.length).take k).length≤P.length:=by rw [List.length_take]; omega
   rw [he]
   generalize rkF 6 P ((mem set P.length).take k) = s at hk hstep hsl hsc
   have hlx:(H4.lay .noDefers).next = H3.next + 2:=by rw [Hp.next_lay,n4]
   conv=>whnf
   refine bodyQ_go hl5 ?_
   intro BO hb2 eBO hbl hbk
   have hk2:=hk.keep (by omega) (by omega) (Nat.le_refl _) hbk
   clear hget hk
   have aD5:=hk2.at_ D _ (by omega) (by omega) (Hp.at_lay_old _ (g4.at_ _ _ aD3))
   have gh5:=hk2.grows ((g03.trans g4).then_lay _) (by have:=gD.next; omega) (by have:=gD.next; have:=g2.next; omega)
   have hgt:=PairsV.get hv heP
   obtain ⟨r,o,c',eP,p0,p1⟩:=hgt
   injection eP with eP1 _ eP2
   subst eP1; subst eP2
   have q0:=gh5.cell p0
   have q1:=gh5.cell p1
   have hok:=hP.ok _ (List.getElem_mem heP)
   conv=>whnf
   refine ⟨_,cellAt_row aD5 rfl,?_⟩
   conv=>whnf
   refine ⟨rfl,⟨by omega,by omega⟩,?_⟩
   conv=>whnf
   refine ⟨⟨by omega,by omega⟩,?_⟩
   conv=>whnf
   refine ⟨_,q0,?_⟩
   conv=>whnf
   refine ⟨_,cellAt_row aD5 rfl,?_⟩
   conv=>whnf
   refine ⟨rfl,⟨by omega,by omega⟩,?_⟩
   conv=>whnf
   refine ⟨⟨by omega,by omega⟩,?_⟩
   conv=>whnf
   refine ⟨_,q1,?_⟩
   conv=>whnf
   refine CallP.mono (join_spec G s.1 hsl (P[e]).1 (P[e]).2 (by omega) (by omega) hb2 hk2.grp) ?_
   rintro b h3 (⟨ceq,rfl,gr⟩ | ⟨cne,rfl,gr⟩)
   ·have k3:=hk2.join hne gr
    have bl3:=gr.at_ _ _ (by omega) hbl
    rw [rkStep,if_neg (fun x=>x.2 ceq)] at hstep
    conv=>whnf
    refine ⟨by rw [← eBO]; exact bl3,?_⟩
    exact .inl ⟨rfl,Hp.at_set_self _ (Hp.lt_of_at bl3),by rw [hstep]; exact k3.keep (by omega) (by omega) (Nat.le_refl _) (Keeps.set _ _ _)⟩
   ·have k3:=hk2.join hne gr
    have bl3:=gr.at_ _ _ (by omega) hbl
    rw [rkStep,if_pos ⟨rfl,cne⟩] at hstep
    have k4:=k3.inc (c:=s.2 + 1) hne
    have bl4:(h3.set C (.row 3 true [int ((s.2 + 1:Nat):Int)])).at (H4.lay .noDefers).next = some BO:=by rw [Hp.at_set_ne _ (by omega)]; exact bl3
    conv=>whnf
    refine ⟨_,cellAt_row k3.cnt rfl,?_⟩
    conv=>whnf
    refine ⟨((s.2 + 1:Nat):Int),wie (by show (s.2:Int) + 1 = _; omega) (by omega),?_⟩
    conv=>whnf
    refine ⟨rfl,_,storeAt_row k3.cnt (by simp) rfl,?_⟩
    conv=>whnf
    refine ⟨by rw [← eBO]; exact bl4,?_⟩
    exact .inl ⟨rfl,Hp.at_set_self _ (Hp.lt_of_at bl4),by rw [hstep]; exact k4.keep (by omega) (by omega) (Nat.le_refl _) (Keeps.set _ _ _)⟩
  ·intro h2 h3 hk hkp
   rw [List.length_map,List.take_length,← rk_mem] at hk
   have hk3:=hk.keep (by rw [Hp.next_lay]; omega) (by rw [Hp.next_lay]; omega) (Nat.le_refl _) hkp
   exact ⟨(),⟨rfl,trivial⟩,hk3,by rw [n4]; rfl⟩
  ·intro h2 hF
   exact hF.elim
 rintro _ φ H hk
 have hms:Marks (H3.next + 1) [H3.next + 1] H:=⟨by simp,fun d hd=>by
  have:d = H3.next + 1:=by simpa using hd
  subst this
  exact ⟨Nat.le_refl _,hk.at_ _ _ (by omega) (by omega) (at_nx (r:=(H3.lay (.row 3 true [int set])).next) (by rw [Hp.next_lay]) (Hp.at_lay_self _ _))⟩⟩
 conv=>whnf
 repeat (refine SeqP.go ?_; conv=>whnf)
 refine ⟨_,cellAt_row hk.cnt rfl,?_⟩
 conv=>whnf
 refine finP_marks hms ?_
 intro h3 n3 k3 _
 have gh:=hk.grows ((g03.then_lay _).then_lay _) (by have:=gD.next; omega) (by have:=gD.next; have:=g2.next; omega)
 exact finP_one rfl rfl ⟨rfl,⟨by rw [n3]; exact gh.next,fun r o e=>k3 r o (by have:=Hp.lt_of_at e; have:=g03.next; omega) (gh.at_ r o e)⟩⟩
end
end Go.Proofs.Ythgjnkdealdmoaa
namespace Go.Proofs.Ythgjnkdealdmoaa
open Go.Rx Go.RowKit
theorem ty83:(tiOf Try.prog 83).isSome = true:=by kernel_rfl
theorem sz83:((tiOf Try.prog 83).get ty83).size = 2:=by kernel_rfl
theorem ag83:((tiOf Try.prog 83).get ty83).agg = true:=by kernel_rfl
theorem te83:E.ty 83 = some ((tiOf Try.prog 83).get ty83):=ty_get (by kernel_rfl) (Option.some_get ty83).symm
end Go.Proofs.Ythgjnkdealdmoaa
namespace Go.Proofs.Ythgjnkdealdmoaa
open Go.Rx Go.RowKit
def lessP (P:List (Int×Int)) (k:Nat):List (Int×Int):=P.take k ++ P.drop (k + 1)
theorem lessP_len {P:List (Int×Int)} {k:Nat} (hk:k < P.length):(lessP P k).length = P.length - 1:=by unfold lessP; simp; omega
theorem flat_part (P:List (Int×Int)) (i j:Nat):(((flat P).map int).drop (i * 2)).take ((j - i) * 2) = (flat ((P.drop i).take (j - i))).map int:=by
 rw [flat_take,flat_drop,List.map_take,List.map_drop]
end Go.Proofs.Ythgjnkdealdmoaa
namespace Go.Proofs.Ythgjnkdealdmoaa
open Go.Rx Go.RowKit
attribute [local irreducible] E idxN cellAt cellsAt storeAt callable helems hmoved lookIn findKey keyOk hentries Hp.at Hp.set Hp.lay arBits hupdated setAt CallP YieldP BoolOf IsWrap Rnd LoopP AppP CutP Int.tmod Int.tdiv Int.fdiv
section
variable [Unknowns]
attribute [local irreducible] ResP sameAt flat finP
theorem withEdge_spec (n:Nat) (P:List (Int×Int)) (hP:NetOk n P) (hl:P.length≤9) (k:Nat) (hk:k < P.length) (v:Value) (h:Hp) (hv:PairsV h v P) :
  CallP E 91 [int n,v,int k] h (fun r h'=>r = .tuple ⟨[gval n v,int 0]⟩∧Grows h h'):=by
 obtain ⟨av,cap,rfl,-⟩:=id hv
 refine enter91 (by simp) ?_
 conv=>whnf
 refine SeqP.go ?_
 conv=>whnf
 generalize hH1:h.lay (.row 83 true [int 0,.slice none 0 0]) = H1
 have a1:H1.at h.next = some (.row 83 true [int 0,.slice none 0 0]):=by rw [← hH1]; exact Hp.at_lay_self _ _
 have g1:Grows h H1:=by rw [← hH1]; exact Grows.lay _ _
 repeat (refine SeqP.go ?_; conv=>whnf)
 refine CallP.mono (Check_spec n P hP hl _ H1 (hv.ext g1)) ?_
 rintro r H3 ⟨rfl,g3⟩
 conv=>whnf
 repeat (refine SeqP.go ?_; conv=>whnf)
 refine cmpF (by omega) ?_
 conv=>whnf
 repeat (refine SeqP.go ?_; conv=>whnf)
 refine cmpF (by omega) ?_
 conv=>whnf
 refine cmpF (by omega) ?_
 conv=>whnf
 repeat (refine SeqP.go ?_; conv=>whnf)
 have a14:=g3.at_ _ _ a1
 refine ⟨rfl,_,storeAt_full (vs:=[int n,.slice av P.length cap]) a14 rfl rfl rfl,?_⟩
 conv=>whnf
 repeat (refine SeqP.go ?_; conv=>whnf)
 refine leave_cell2 (r:=h.next) (o:=0) (cs:=[int n,.slice av P.length cap]) (w:=int 0) rfl rfl rfl te83 ag83 ?_ ?_
 ·rw [sz83,cellsAt_row (Hp.at_set_self _ (Hp.lt_of_at a14)) (Nat.le_refl _)]
  rfl
 ·exact ⟨rfl,(g1.trans g3).then_set _ (Nat.le_refl _)⟩
theorem isLoop_spec (n:Nat) (P:List (Int×Int)) (hl:P.length≤9) (k:Nat) (hk:k < P.length) (v:Value) (h:Hp) (hv:PairsV h v P) :
  CallP E 117 [gval n v,int k] h (fun r h'=>(∃ b,r = .bool b∧(b = true↔(P[k]).1 = (P[k]).2))∧Grows h h'):=by
 obtain ⟨av,cap,rfl,hcv⟩:=id hv
 have hgt:=PairsV.get hv hk
 obtain ⟨r,o,c',eP,p0,p1⟩:=hgt
 injection eP with eP1 _ eP2
 subst eP1; subst eP2
 have q0:=(Grows.lay h (.row 83 true [int n,.slice (some ⟨r,o,none⟩) P.length cap])).cell p0
 have q1:=(Grows.lay h (.row 83 true [int n,.slice (some ⟨r,o,none⟩) P.length cap])).cell p1
 refine enter117 (by simp) ?_
 conv=>whnf
 repeat (refine SeqP.go ?_; conv=>whnf)
 refine ⟨_,cellAt_row (Hp.at_lay_self _ _) rfl,?_⟩
 conv=>whnf
 refine ⟨rfl,⟨by omega,by omega⟩,?_⟩
 conv=>whnf
 refine ⟨⟨by omega,by omega⟩,?_⟩
 conv=>whnf
 refine ⟨_,q0,?_⟩
 conv=>whnf
 refine ⟨_,cellAt_row (Hp.at_lay_self _ _) rfl,?_⟩
 conv=>whnf
 refine ⟨rfl,⟨by omega,by omega⟩,?_⟩
 conv=>whnf
 refine ⟨⟨by omega,by omega⟩,?_⟩
 conv=>whnf
 refine ⟨_,q1,?_⟩
 conv=>whnf
 refine cmpB (fun c=>?_) (fun c=>?_)
 ·conv=>whnf
  repeat (refine SeqP.go ?_; conv=>whnf)
  exact finP_one rfl rfl ⟨⟨true,rfl,fun _=>c,fun _=>rfl⟩,Grows.lay _ _⟩
 ·conv=>whnf
  repeat (refine SeqP.go ?_; conv=>whnf)
  exact finP_one rfl rfl ⟨⟨false,rfl,fun e=>(by cases e),fun e=>absurd e c⟩,Grows.lay _ _⟩
end
end Go.Proofs.Ythgjnkdealdmoaa
namespace Go.Proofs.Ythgjnkdealdmoaa
open Go.Rx Go.RowKit
theorem arr2_eq (a b a' b':Int):pureRun Try.prog (Op.equal 79 (.agg ⟨[int a,int b]⟩) (.agg ⟨[int a',int b']⟩)) = some ((a == a') && (b == b')):=by
 have st:∀ (k:Program→Sem Bool),pureRun Try.prog (.program k) = pureRun Try.prog (k Try.prog):=fun k=>rfl
 conv=>lhs; whnf
 conv=>lhs; arg 2; whnf
 conv=>lhs; arg 2; arg 1; rw [Std.Legacy.Range.forIn_eq_forIn_range']
 conv=>lhs; arg 2; whnf
 repeat (rw [st]; conv=>lhs; arg 2; whnf)
 conv=>lhs; arg 2; arg 1; whnf
 conv=>lhs; arg 2; arg 1; arg 1; whnf
 dsimp only
 cases h0:(a == a')
 ·rfl
 conv=>lhs; arg 2; whnf
 repeat (rw [st]; conv=>lhs; arg 2; whnf)
 conv=>lhs; arg 2; arg 1; whnf
 conv=>lhs; arg 2; arg 1; arg 1; whnf
 dsimp only
 cases h1:(b == b')
 ·rfl
 ·rfl
theorem pr_bind {α β:Type} {P:Program}:∀ (x:Sem α) (f:α→Sem β),pureRun P (x >>= f) = match pureRun P x with | some v=>pureRun P (f v) | none=>none:=by
 intro x f
 show pureRun P (x.bind f) = _
 induction x with
 | pure a=>rfl
 | program k ih=>exact ih P
 | _=>rfl
theorem arr2_neq (x y:Operand) (a b:Int):aBin E .neq 79 x y (.agg ⟨[int a,int b]⟩) (.agg ⟨[int a,int b]⟩) = some (.bool false):=by
 show binData E .neq 79 x y (.agg ⟨[int a,int b]⟩) (.agg ⟨[int a,int b]⟩) = _
 unfold binData
 have hg:pureRun E.prog (eqGuard .neq 79 x y (.agg ⟨[int a,int b]⟩) (.agg ⟨[int a,int b]⟩)) = some ():=by kernel_rfl
 rw [pr_bind,hg]
 dsimp only
 have he:pureRun E.prog (Op.equal 79 (.agg ⟨[int a,int b]⟩) (.agg ⟨[int a,int b]⟩)) = some true:=by
  have h4:=arr2_eq a b a b
  simp only [beq_self_eq_true,Bool.and_self] at h4
  exact h4
 have hb:Go.binOp .neq 79 (.agg ⟨[int a,int b]⟩) (.agg ⟨[int a,int b]⟩) = (do let r ← Op.equal 79 (.agg ⟨[int a,int b]⟩) (.agg ⟨[int a,int b]⟩); pure (.bool !r)):=rfl
 rw [hb,pr_bind,he]
 rfl
attribute [local irreducible] E idxN cellAt cellsAt storeAt callable helems hmoved lookIn findKey keyOk hentries Hp.at Hp.set Hp.lay arBits hupdated setAt CallP YieldP BoolOf IsWrap Rnd LoopP AppP CutP Int.tmod Int.tdiv Int.fdiv
section
variable [Unknowns]
attribute [local irreducible] ResP sameAt flat
theorem pairs_spec (v w:Value) (P:List (Int×Int)) (hl:P.length≤100) (h:Hp) (hv:PairsV h v P) (hw:PairsV h w P):CallP E 53 [v,w] h (fun r h'=>r = .bool true∧h' = h):=by
 obtain ⟨av,cv,rfl,hcv⟩:=id hv
 obtain ⟨aw,cw,rfl,hcw⟩:=id hw
 refine enter53 (by simp) ?_
 conv=>whnf
 repeat (refine SeqP.go ?_; conv=>whnf)
 refine cmpF (by omega) ?_
 conv=>whnf
 repeat (refine SeqP.go ?_; conv=>whnf)
 refine loop_inv (α:=Nat) (fun k=>[(5,int k),(0,.slice av P.length cv),(1,.slice aw P.length cw)]) (fun _=>h) (fun k=>k≤P.length) (fun k=>P.length - k) 0 (Nat.zero_le _) ⟨rfl,rfl,rfl,trivial⟩ (Hp.Le.refl _) ?_
 rintro k φ hk
 have hk:k≤P.length:=hk
 conv=>whnf
 repeat (refine SeqP.go ?_; conv=>whnf)
 refine cmpB (fun c1=>?_) (fun c1=>?_)
 rotate_left
 ·conv=>whnf
  repeat (refine SeqP.go ?_; conv=>whnf)
  exact ⟨rfl,rfl⟩
 have hk':k < P.length:=by omega
 obtain ⟨r,o,rfl,p0,p1⟩:=hcv k hk'
 obtain ⟨r',o',rfl,q0,q1⟩:=hcw k hk'
 conv=>whnf
 repeat (refine SeqP.go ?_; conv=>whnf)
 refine ⟨rfl,⟨by omega,by omega⟩,?_⟩
 conv=>whnf
 refine ⟨[int (P[k]).1,int (P[k]).2],cellsAt_two p0 p1,?_⟩
 conv=>whnf
 refine ⟨rfl,⟨by omega,by omega⟩,?_⟩
 conv=>whnf
 refine ⟨[int (P[k]).1,int (P[k]).2],cellsAt_two q0 q1,?_⟩
 conv=>whnf
 refine resP_val (v:=.bool false) (h:=h) ?_ ?_
 ·show hval _ (aBin E .neq 79 _ _ (.agg ⟨[int (P[k]).1,int (P[k]).2]⟩) (.agg ⟨[int (P[k]).1,int (P[k]).2]⟩)) = _
  rw [arr2_neq]
  rfl
 conv=>whnf
 repeat (refine SeqP.go ?_; conv=>whnf)
 refine ⟨_,wid (by omega),?_⟩
 conv=>whnf
 exact Rnd.mk (k + 1) (show k + 1≤P.length by omega) (by show P.length - (k + 1) < P.length - k; omega) ⟨rfl,rfl,rfl,trivial⟩ (Hp.Le.refl _) rfl
end
end Go.Proofs.Ythgjnkdealdmoaa
namespace Go.Proofs.Ythgjnkdealdmoaa
open Go.Rx Go.RowKit
def mvd (i k v:Int):Int:=if v = k then i else if k < v then v - 1 else v
attribute [local irreducible] E idxN cellAt cellsAt storeAt callable helems hmoved lookIn findKey keyOk hentries Hp.at Hp.set Hp.lay arBits hupdated setAt CallP YieldP BoolOf IsWrap Rnd LoopP AppP CutP Int.tmod Int.tdiv Int.fdiv
section
variable [Unknowns]
attribute [local irreducible] ResP sameAt flat
theorem renamed_spec (v i k:Int) (hv:-1000≤v∧v≤1000) (h:Hp):CallP E 118 [int v,int i,int k] h (fun r h'=>r = int (mvd i k v)∧h' = h):=by
 refine enter118 (by simp) ?_
 conv=>whnf
 repeat (refine SeqP.go ?_; conv=>whnf)
 refine cmpB (fun c1=>?_) (fun c1=>?_)
 ·conv=>whnf
  repeat (refine SeqP.go ?_; conv=>whnf)
  exact ⟨by unfold mvd; rw [if_pos c1]; rfl,rfl⟩
 conv=>whnf
 repeat (refine SeqP.go ?_; conv=>whnf)
 refine cmpB (fun c2=>?_) (fun c2=>?_)
 ·conv=>whnf
  repeat (refine SeqP.go ?_; conv=>whnf)
  refine ⟨v - 1,wid (by omega),?_⟩
  conv=>whnf
  exact ⟨by unfold mvd; rw [if_neg c1,if_pos c2]; rfl,rfl⟩
 ·conv=>whnf
  repeat (refine SeqP.go ?_; conv=>whnf)
  exact ⟨by unfold mvd; rw [if_neg c1,if_neg c2]; rfl,rfl⟩
end
end Go.Proofs.Ythgjnkdealdmoaa
namespace Go.Proofs.Ythgjnkdealdmoaa
/-! Nodes that are reached along directed edges. -/
def cntX (n:Nat) (X:Nat→Bool):Nat:=((List.range n).filter X).length
theorem cntX_le (n:Nat) (X:Nat→Bool):cntX n X≤n:=by
 unfold cntX
 have:=List.length_filter_le X (List.range n)
 rwa [List.length_range] at this
theorem cntX_succ (n:Nat) (X:Nat→Bool):cntX (n + 1) X = cntX n X + if X n = true then 1 else 0:=by
 unfold cntX
 rw [List.range_succ,List.filter_append,List.length_append]
 cases h:X n <;> simp [h]
theorem cntX_mono {X Y:Nat→Bool} (h:∀ w,X w = true→Y w = true):∀ n,cntX n X≤cntX n Y
 | 0=>Nat.le_refl _
 | n + 1=>by
  rw [cntX_succ,cntX_succ]
  have:=cntX_mono h n
  by_cases hx:X n = true
  ·rw [if_pos hx,if_pos (h n hx)]; omega
  ·rw [if_neg hx]; omega
theorem cntX_lt {X Y:Nat→Bool} (h:∀ w,X w = true→Y w = true) {v:Nat} (hx:X v = false) (hy:Y v = true):∀ n,v < n→cntX n X < cntX n Y
 | 0,hv=>by omega
 | n + 1,hv=>by
  rw [cntX_succ,cntX_succ]
  by_cases e:v = n
  ·subst e
   rw [hx,hy,if_pos rfl,if_neg (by simp)]
   have:=cntX_mono h v
   omega
  ·have:=cntX_lt h hx hy n (by omega)
   by_cases hx:X n = true
   ·rw [if_pos hx,if_pos (h n hx)]; omega
   ·rw [if_neg hx]; omega
end Go.Proofs.Ythgjnkdealdmoaa
namespace Go.Proofs.Ythgjnkdealdmoaa
open Go.Rx Go.RowKit
def O64 (O:Nat→Nat):Prop:=∀ w,w < 6→O w < 64
theorem O64.one:O64 (fun w=>2 ^ w):=fun w hw=>Nat.lt_of_lt_of_le (Nat.pow_lt_pow_right (by omega) hw) (by decide)
def rowO (O:Nat→Nat):List Value:=rowF 6 fun w=>((O w:Nat):Int)
theorem rowO_len (O:Nat→Nat):(rowO O).length = 6:=rowF_length _ _
theorem rowO_get {O:Nat→Nat} {w:Nat} (h:w < 6):(rowO O)[w]? = some (int ((O w:Nat):Int)):=rowF_get h
theorem rowO_set {O:Nat→Nat} {w v:Nat}:(rowO O).set w (int ((v:Nat):Int)) = rowO (fun j=>if j = w then v else O j):=by
 unfold rowO
 rw [rowF_set]
 refine rowF_congr fun k _=>?_
 dsimp only
 split <;> rfl
structure GO (h H:Hp) (G:Nat) (O:Nat→Nat):Prop where
 next:h.next≤H.next
 at_:∀ r o,r≠G→h.at r = some o→H.at r = some o
 grp:H.at G = some (.row 115 true (rowO O))
theorem GO.start {h:Hp} {G:Nat} {O:Nat→Nat} (k:h.at G = some (.row 115 true (rowO O))):GO h h G O:=⟨Nat.le_refl _,fun _ _ _ e=>e,k⟩
theorem GO.ext {h H H2:Hp} {G:Nat} {O:Nat→Nat} (k:GO h H G O) (g:Grows H H2):GO h H2 G O:=⟨Nat.le_trans k.next g.next,fun r o hr e=>g.at_ _ _ (k.at_ r o hr e),g.at_ _ _ k.grp⟩
theorem GO.cell {h H:Hp} {G:Nat} {O:Nat→Nat} (k:GO h H G O) {j:Nat} (hj:j < 6):cellAt H G (offAt 0 (j:Int).toNat 1) = some (int ((O j:Nat):Int)):=by
 rw [offAt_eq,show 0 + (j:Int).toNat * 1 = j by omega]
 exact cellAt_row k.grp (rowO_get hj)
theorem GO.set {h H:Hp} {G:Nat} {O:Nat→Nat} (k:GO h H G O) {j v:Nat} (hj:j < 6):∃ H',storeAt H G (offAt 0 (j:Int).toNat 1) [int ((v:Nat):Int)] = some H'∧GO h H' G (fun w=>if w = j then v else O w):=by
 rw [offAt_eq,show 0 + (j:Int).toNat * 1 = j by omega,storeAt_row k.grp (by rw [rowO_len]; exact hj) rfl]
 refine ⟨_,rfl,⟨by rw [Hp.next_set]; exact k.next,fun r o hr e=>by rw [Hp.at_set_ne _ hr]; exact k.at_ r o hr e,?_⟩⟩
 rw [Hp.at_set_self _ (Hp.lt_of_at k.grp),rowO_set]
theorem GO.grows {h0 h H:Hp} {G:Nat} {O:Nat→Nat} (k:GO h H G O) (g:Grows h0 h) (hG:h0.next≤G):Grows h0 H:=⟨Nat.le_trans g.next k.next,fun r o e=>k.at_ r o (by have:=Hp.lt_of_at e; omega) (g.at_ _ _ e)⟩
theorem sameV_gval (n:Nat) (a:Option Addr) (l c:Nat):sameV 4 (gval n (.slice a l c)) (gval n (.slice a l c)) = true:=by
 cases a with
 | none=>simp [sameV,sameL,gval,eqI_iff]
 | some a =>
  obtain ⟨b,o,s⟩:=a
  cases s <;> simp [sameV,sameL,gval,eqI_iff]
end Go.Proofs.Ythgjnkdealdmoaa
namespace Go.Proofs.Ythgjnkdealdmoaa
open Go.Rx Go.RowKit
structure One (h0 H:Hp) (r:Nat) (o:Rx.Obj):Prop where
 next:h0.next≤H.next
 at_:∀ k x,k≠r→h0.at k = some x→H.at k = some x
 obj:H.at r = some o
theorem One.start {h:Hp} {r:Nat} {o:Rx.Obj} (k:h.at r = some o):One h h r o:=⟨Nat.le_refl _,fun _ _ _ e=>e,k⟩
theorem One.ext {h0 H H2:Hp} {r:Nat} {o:Rx.Obj} (k:One h0 H r o) (g:Grows H H2):One h0 H2 r o:=⟨Nat.le_trans k.next g.next,fun i x hr e=>g.at_ _ _ (k.at_ i x hr e),g.at_ _ _ k.obj⟩
theorem One.set {h0 H:Hp} {r:Nat} {o o':Rx.Obj} (k:One h0 H r o):One h0 (H.set r o') r o':=⟨by rw [Hp.next_set]; exact k.next,fun i x hr e=>by rw [Hp.at_set_ne _ hr]; exact k.at_ i x hr e,Hp.at_set_self _ (Hp.lt_of_at k.obj)⟩
theorem One.keep {h0 H H2:Hp} {r l:Nat} {o:Rx.Obj} (k:One h0 H r o) (hr:r < l) (hl:h0.next≤l) (kp:Keeps l H H2):One h0 H2 r o :=
 ⟨by rw [kp.next]; exact k.next,fun i x h1 e=>kp.at_ _ _ (by have:=Hp.lt_of_at e; omega) (k.at_ i x h1 e),kp.at_ _ _ (by omega) k.obj⟩
theorem One.grows {h h0 H:Hp} {r:Nat} {o:Rx.Obj} (k:One h0 H r o) (g:Grows h h0) (hr:h.next≤r):Grows h H :=
 ⟨Nat.le_trans g.next k.next,fun i x e=>k.at_ i x (by have:=Hp.lt_of_at e; omega) (g.at_ _ _ e)⟩
def cntB (p:Nat→Bool):Nat→Nat
 | 0=>0
 | k + 1=>cntB p k + if p k = true then 1 else 0
theorem cntB_le (p:Nat→Bool):∀ k,cntB p k≤k
 | 0=>Nat.le_refl _
 | k + 1=>by
  have:=cntB_le p k
  unfold cntB
  split <;> omega
theorem cntB_t {p:Nat→Bool} {k:Nat} (h:p k = true):cntB p (k + 1) = cntB p k + 1:=by show cntB p k + _ = _; rw [if_pos h]
theorem cntB_f {p:Nat→Bool} {k:Nat} (h:p k = false):cntB p (k + 1) = cntB p k:=by show cntB p k + _ = _; rw [if_neg (by rw [h]; simp)]; rfl
attribute [local irreducible] E idxN cellAt cellsAt storeAt callable helems hmoved lookIn findKey keyOk hentries Hp.at Hp.set Hp.lay arBits hupdated setAt CallP YieldP BoolOf IsWrap Rnd LoopP AppP CutP Int.tmod Int.tdiv Int.fdiv
section
variable [Unknowns]
attribute [local irreducible] ResP sameAt flat
theorem sets_iter (N:Nat) (hN:N≤9) (c l:Nat) (I:Nat→Hp→Prop) (S:Hp→Prop) (h:Hp) (hJ:∀ k h,I k h→h.at c = some (.row 3 true [int (N:Int)])) (h0:I 0 h) (hit:IterP E l ((List.range (2 ^ N)).map gvN) I S):CallP E 115 [yieldVal l,ptr c 0] h (fun _ h'=>I ((List.range (2 ^ N)).map gvN).length h'∨S h'):=by
 have hlen:((List.range (2 ^ N)).map gvN).length = 2 ^ N:=by simp
 rw [hlen]
 have hp:=Nat.pow_le_pow_right (n:=2) (by omega) hN
 have yld:∀ (i:Nat) (h:Hp),i < 2 ^ N→I i h→YieldP E l [int (i:Int)] h fun v h'=>(v = .bool true∧I (i + 1) h')∨(v = .bool false∧S h'):=by
  intro i h hi hI
  have:=hit i (by rw [hlen]; exact hi) h hI
  rw [List.getElem_map,List.getElem_range] at this
  exact this
 refine enter115 (by simp) ?_
 conv=>whnf
 refine SeqP.go ?_
 conv=>whnf
 refine ⟨int (N:Int),cellAt_row (hJ _ h h0) rfl,?_⟩
 conv=>whnf
 refine ⟨by omega,((2 ^ N:Nat):Int),shl_one (by omega),?_⟩
 conv=>whnf
 refine loop_inv (α:=Nat×Hp) (fun s=>[(6,int s.1),(5,int ((2 ^ N:Nat):Int)),(0,yieldVal l)]) (fun s=>s.2) (fun s=>s.1≤2 ^ N∧I s.1 s.2) (fun s=>2 ^ N - s.1) (0,h) ⟨Nat.zero_le _,h0⟩ ⟨rfl,rfl,rfl,trivial⟩ (Hp.Le.refl _) ?_
 rintro ⟨i,h1⟩ φ ⟨hi,hI⟩
 dsimp only at hi hI ⊢
 conv=>whnf
 refine SeqP.go ?_
 conv=>whnf
 refine cmpB (fun hb1=>?_) (fun hb1=>?_)
 rotate_left
 ·have:i = 2 ^ N:=by omega
  rw [this] at hI
  conv=>whnf
  repeat (refine SeqP.go ?_; conv=>whnf)
  exact .inl hI
 have hi':i < 2 ^ N:=by omega
 conv=>whnf
 refine SeqP.go ?_
 conv=>whnf
 refine SeqP.go ?_
 conv=>whnf
 repeat (refine SeqP.go ?_; conv=>whnf)
 refine YieldP.mono (yld i h1 hi' hI) ?_
 rintro v h3 (⟨rfl,hI2⟩ | ⟨rfl,hS⟩)
 ·conv=>whnf
  refine ⟨_,wid (by omega),?_⟩
  conv=>whnf
  exact Rnd.mk (i + 1,h3) ⟨by show i + 1≤2 ^ N; omega,hI2⟩ (by show 2 ^ N - (i + 1) < 2 ^ N - i; omega) ⟨rfl,rfl,rfl,trivial⟩ (Hp.Le.refl _) rfl
 ·conv=>whnf
  repeat (refine SeqP.go ?_; conv=>whnf)
  exact .inr hS
end
section
variable [Unknowns]
attribute [local irreducible] ResP sameAt flat finP
theorem sets_spec (N:Nat) (h:Hp):CallP E 87 [int (N:Int)] h (fun r h'=>r = .func (.func 115) ⟨[]⟩ ⟨[ptr h.next 0]⟩∧h' = h.lay (.row 3 true [int (N:Int)])):=by
 refine enter87 (by simp) ?_
 conv=>whnf
 repeat (refine SeqP.go ?_; conv=>whnf)
 exact finP_one rfl rfl ⟨rfl,rfl⟩
end
end Go.Proofs.Ythgjnkdealdmoaa
namespace Go.Proofs.Ythgjnkdealdmoaa
open Go.Rx Go.RowKit
theorem sub_val {x y r:Int} {h:Hp} (e:x - y = r) (b:-9223372036854775808≤r∧r < 9223372036854775808):hval h (arK .i64 .sub x y) = .val (int r) h:=by
 unfold arK
 dsimp only
 rw [e,wrapI_id b]
 rfl
end Go.Proofs.Ythgjnkdealdmoaa
namespace Go.Proofs.Ythgjnkdealdmoaa
open Go.Rx Go.RowKit
attribute [local irreducible] E idxN cellAt cellsAt storeAt callable helems hmoved lookIn findKey keyOk hentries Hp.at Hp.set Hp.lay arBits hupdated setAt CallP YieldP BoolOf IsWrap Rnd LoopP AppP CutP Int.tmod Int.tdiv Int.fdiv
section
variable [Unknowns]
attribute [local irreducible] ResP sameAt flat
theorem Rall_spec (P:List (Int×Int)) (hl:P.length≤9) (v:Value) (h:Hp) (hv:PairsV h v P):CallP E 69 [v] h (fun r h'=>r = int ((2 ^ P.length - 1:Nat):Int)∧h' = h):=by
 obtain ⟨av,cap,rfl,-⟩:=id hv
 have hp:=Nat.pow_le_pow_right (n:=2) (by omega) hl
 have hp1:=Nat.one_le_two_pow (n:=P.length)
 refine enter69 (by simp) ?_
 conv=>whnf
 repeat (refine SeqP.go ?_; conv=>whnf)
 refine ⟨by omega,((2 ^ P.length:Nat):Int),shl_one (by omega),?_⟩
 conv=>whnf
 refine ⟨((2 ^ P.length - 1:Nat):Int),wie (by omega) (by omega),?_⟩
 conv=>whnf
 repeat (refine SeqP.go ?_; conv=>whnf)
 exact ⟨rfl,rfl⟩
end
end Go.Proofs.Ythgjnkdealdmoaa
namespace Go.Proofs.Ythgjnkdealdmoaa
open Go.Rx Go.RowKit
theorem bits_and64 {a b:Nat} (ha:a < 18446744073709551616) (hb:b < 18446744073709551616):arBits .u64 .and a b = ((a &&& b:Nat):Int):=by
 have hlt:a &&& b < 2 ^ 64:=Nat.and_lt_two_pow _ (by omega)
 show IntKind.wrap .u64 (BitVec.toNat (BitVec.ofInt 64 (a:Int) &&& BitVec.ofInt 64 (b:Int))) = _
 rw [ofInt_nat,ofInt_nat,BitVec.toNat_and,BitVec.toNat_ofNat,BitVec.toNat_ofNat,Nat.mod_eq_of_lt (by omega),Nat.mod_eq_of_lt (by omega)]
 have:IsWrap .u64 ((a &&& b:Nat):Int) ((a &&& b:Nat):Int):=u64_id ⟨Int.natCast_nonneg _,by omega⟩
 have h2:IntKind.wrap .u64 ((a &&& b:Nat):Int) = wrapI .u64 ((a &&& b:Nat):Int):=by
  unfold wrapI
  first | rfl | (simp only []; rfl)
 exact h2.trans this.symm
def oc1 (x:Nat):Nat:=((x >>> 1) &&& 6148914691236517205) + (x &&& 6148914691236517205)
def oc2 (x:Nat):Nat:=((x >>> 2) &&& 3689348814741910323) + (x &&& 3689348814741910323)
def oc3 (x:Nat):Nat:=((x >>> 4) + x) &&& 1085102592571150095
def oc4 (x:Nat):Nat:=x + (x >>> 8)
def oc5 (x:Nat):Nat:=x + (x >>> 16)
def oc6 (x:Nat):Nat:=x + (x >>> 32)
def sz (s:Nat):Nat:=cntB s.testBit 9
def ocOk (s:Nat):Bool:=decide (oc1 s < 4294967296) && decide (oc2 (oc1 s) < 4294967296) && decide (oc3 (oc2 (oc1 s)) < 4294967296) && decide (oc4 (oc3 (oc2 (oc1 s))) < 4294967296) && decide (oc5 (oc4 (oc3 (oc2 (oc1 s)))) < 4294967296) && decide (oc6 (oc5 (oc4 (oc3 (oc2 (oc1 s))))) < 4294967296) && decide (oc6 (oc5 (oc4 (oc3 (oc2 (oc1 s))))) &&& 127 = sz s)
theorem oc_all:(List.range 512).all ocOk = true:=by kernel_rfl
theorem oc_ok {s:Nat} (h:s < 512):oc1 s < 4294967296∧oc2 (oc1 s) < 4294967296∧oc3 (oc2 (oc1 s)) < 4294967296∧oc4 (oc3 (oc2 (oc1 s))) < 4294967296∧oc5 (oc4 (oc3 (oc2 (oc1 s)))) < 4294967296∧oc6 (oc5 (oc4 (oc3 (oc2 (oc1 s))))) < 4294967296∧oc6 (oc5 (oc4 (oc3 (oc2 (oc1 s))))) &&& 127 = sz s:=by
 have:=List.all_eq_true.1 oc_all s (List.mem_range.2 h)
 unfold ocOk at this
 simp only [Bool.and_eq_true,decide_eq_true_eq] at this
 obtain ⟨⟨⟨⟨⟨⟨h1,h2⟩,h3⟩,h4⟩,h5⟩,h6⟩,h7⟩:=this
 exact ⟨h1,h2,h3,h4,h5,h6,h7⟩
theorem shr_le (a k:Nat):a >>> k≤a:=by rw [Nat.shiftRight_eq_div_pow]; exact Nat.div_le_self _ _
theorem u64_nat {z:Nat} (h:z < 18446744073709551616):IsWrap .u64 (z:Int) (z:Int):=u64_id (by omega)
theorem oc_step {x k m:Nat} (hk:k < 64) (hx:x < 18446744073709551616) (hm:m < 18446744073709551616) (hr:((x >>> k) &&& m) + (x &&& m) < 18446744073709551616):IsWrap .u64 (arBits .u64 .and ((x:Int).fdiv (2 ^ (min (k:Int).toNat 64))) (m:Int) + arBits .u64 .and (x:Int) (m:Int)) ((((x >>> k) &&& m) + (x &&& m):Nat):Int):=by
 have:=shr_le x k
 rw [shr_nat hk,bits_and64 (by omega) hm,bits_and64 hx hm,← Int.natCast_add]
 exact u64_nat hr
theorem oc_add {x k:Nat} (hk:k < 64) (hr:x + (x >>> k) < 18446744073709551616):IsWrap .u64 ((x:Int) + ((x:Int).fdiv (2 ^ (min (k:Int).toNat 64)))) ((x + (x >>> k):Nat):Int):=by
 rw [shr_nat hk,← Int.natCast_add]
 exact u64_nat (by omega)
theorem oc_add' {x k:Nat} (hk:k < 64) (hr:(x >>> k) + x < 18446744073709551616):IsWrap .u64 (((x:Int).fdiv (2 ^ (min (k:Int).toNat 64))) + (x:Int)) (((x >>> k) + x:Nat):Int):=by
 rw [shr_nat hk,← Int.natCast_add]
 exact u64_nat (by omega)
def u64 (n:Nat):Value:=.int .u64 (n:Int)
theorem cnt_stop {s i:Nat} (h:s >>> i = 0):∀ d,cntB s.testBit (i + d) = cntB s.testBit i
 | 0=>rfl
 | d + 1=>by
  have e:s.testBit (i + d) = false:=by
   have:s.testBit (i + d) = (s >>> i).testBit d:=by rw [Nat.testBit_shiftRight]
   rw [this,h]; simp
  exact (cntB_f e).trans (cnt_stop h d)
attribute [local irreducible] E idxN cellAt cellsAt storeAt callable helems hmoved lookIn findKey keyOk hentries Hp.at Hp.set Hp.lay arBits hupdated setAt CallP YieldP BoolOf IsWrap Rnd LoopP AppP CutP Int.tmod Int.tdiv Int.fdiv
section
variable [Unknowns]
attribute [local irreducible] ResP sameAt flat
theorem ones64_spec (s:Nat) (hs:s < 512) (h:Hp):CallP E 123 [u64 s] h (fun r h'=>r = int (sz s:Nat)∧h' = h):=by
 have hok:=oc_ok hs
 have hex1:∃ x,oc1 s = x:=⟨_,rfl⟩
 obtain ⟨x1,e1⟩:=hex1
 rw [e1] at hok
 have hex2:∃ x,oc2 x1 = x:=⟨_,rfl⟩
 obtain ⟨x2,e2⟩:=hex2
 rw [e2] at hok
 have hex3:∃ x,oc3 x2 = x:=⟨_,rfl⟩
 obtain ⟨x3,e3⟩:=hex3
 rw [e3] at hok
 have hex4:∃ x,oc4 x3 = x:=⟨_,rfl⟩
 obtain ⟨x4,e4⟩:=hex4
 rw [e4] at hok
 have hex5:∃ x,oc5 x4 = x:=⟨_,rfl⟩
 obtain ⟨x5,e5⟩:=hex5
 rw [e5] at hok
 have hex6:∃ x,oc6 x5 = x:=⟨_,rfl⟩
 obtain ⟨x6,e6⟩:=hex6
 rw [e6] at hok
 obtain ⟨h1,h2,h3,h4,h5,h6,h7⟩:=hok
 have ea:=bits_and (a:=x6) (b:=127) (by omega) (by omega)
 refine enter123 (by simp) ?_
 conv=>whnf
 refine SeqP.go ?_
 conv=>whnf
 refine SeqP.cut (α:=Unit) (fun _=>[(0,u64 x1)]) (fun _ H=>H = h) ?_ ?_
 ·conv=>whnf
  refine ⟨by omega,?_⟩
  conv=>whnf
  refine ⟨(x1:Int),by rw [← e1]; exact oc_step (k:=1) (m:=6148914691236517205) (by decide) (by omega) (by decide) (by show oc1 s < _; omega),?_⟩
  conv=>whnf
  exact ⟨(),⟨rfl,trivial⟩,rfl,rfl⟩
 rintro _ φ h rfl
 conv=>whnf
 refine SeqP.cut (α:=Unit) (fun _=>[(0,u64 x2)]) (fun _ H=>H = h) ?_ ?_
 ·conv=>whnf
  refine ⟨by omega,?_⟩
  conv=>whnf
  refine ⟨(x2:Int),by rw [← e2]; exact oc_step (k:=2) (m:=3689348814741910323) (by decide) (by omega) (by decide) (by show oc2 x1 < _; omega),?_⟩
  conv=>whnf
  exact ⟨(),⟨rfl,trivial⟩,rfl,rfl⟩
 rintro _ φ h rfl
 conv=>whnf
 refine SeqP.cut (α:=Unit) (fun _=>[(0,u64 x3)]) (fun _ H=>H = h) ?_ ?_
 ·conv=>whnf
  refine ⟨by omega,?_⟩
  conv=>whnf
  refine ⟨((x2 >>> 4 + x2:Nat):Int),oc_add' (k:=4) (by decide) (by have:=shr_le x2 4; omega),?_⟩
  conv=>whnf
  refine ⟨(),⟨?_,trivial⟩,rfl,rfl⟩
  have:=shr_le x2 4
  rw [← e3]
  exact congrArg (Value.int .u64) (bits_and64 (a:=x2 >>> 4 + x2) (b:=1085102592571150095) (by omega) (by decide))
 rintro _ φ h rfl
 conv=>whnf
 refine SeqP.cut (α:=Unit) (fun _=>[(0,u64 x4)]) (fun _ H=>H = h) ?_ ?_
 ·conv=>whnf
  refine ⟨by omega,?_⟩
  conv=>whnf
  refine ⟨(x4:Int),by rw [← e4]; exact oc_add (k:=8) (by decide) (by show oc4 x3 < _; omega),?_⟩
  conv=>whnf
  exact ⟨(),⟨rfl,trivial⟩,rfl,rfl⟩
 rintro _ φ h rfl
 conv=>whnf
 refine SeqP.cut (α:=Unit) (fun _=>[(0,u64 x5)]) (fun _ H=>H = h) ?_ ?_
 ·conv=>whnf
  refine ⟨by omega,?_⟩
  conv=>whnf
  refine ⟨(x5:Int),by rw [← e5]; exact oc_add (k:=16) (by decide) (by show oc5 x4 < _; omega),?_⟩
  conv=>whnf
  exact ⟨(),⟨rfl,trivial⟩,rfl,rfl⟩
 rintro _ φ h rfl
 conv=>whnf
 refine SeqP.cut (α:=Unit) (fun _=>[(0,u64 x6)]) (fun _ H=>H = h) ?_ ?_
 ·conv=>whnf
  refine ⟨by omega,?_⟩
  conv=>whnf
  refine ⟨(x6:Int),by rw [← e6]; exact oc_add (k:=32) (by decide) (by show oc6 x5 < _; omega),?_⟩
  conv=>whnf
  exact ⟨(),⟨rfl,trivial⟩,rfl,rfl⟩
 rintro _ φ h rfl
 conv=>whnf
 refine SeqP.go ?_
 conv=>whnf
 refine ⟨(x6:Int),wid (by omega),?_⟩
 conv=>whnf
 repeat (refine SeqP.go ?_; conv=>whnf)
 exact ⟨by rw [← h7]; exact congrArg (Value.int .i64) ea,rfl⟩
theorem ones_spec (s:Nat) (hs:s < 512) (h:Hp):CallP E 101 [u64 s] h (fun r h'=>r = int (sz s:Nat)∧h' = h):=by
 refine enter101 (by simp) ?_
 conv=>whnf
 repeat (refine SeqP.go ?_; conv=>whnf)
 refine CallP.mono (ones64_spec s hs h) ?_
 rintro r h ⟨rfl,rfl⟩
 conv=>whnf
 repeat (refine SeqP.go ?_; conv=>whnf)
 exact ⟨rfl,rfl⟩
theorem size_spec (s:Nat) (hs:s < 512) (h:Hp):CallP E 63 [int s] h (fun r h'=>r = int (sz s:Nat)∧h' = h):=by
 refine enter63 (by simp) ?_
 conv=>whnf
 repeat (refine SeqP.go ?_; conv=>whnf)
 refine ⟨(s:Int),u64_id (by omega),?_⟩
 conv=>whnf
 refine CallP.mono (ones_spec s hs h) ?_
 rintro r h ⟨rfl,rfl⟩
 conv=>whnf
 repeat (refine SeqP.go ?_; conv=>whnf)
 exact ⟨rfl,rfl⟩
theorem Size_spec (s:Nat) (hs:s < 512) (h:Hp):CallP E 71 [int s] h (fun r h'=>r = int (sz s:Nat)∧h' = h):=by
 refine enter71 (by simp) ?_
 conv=>whnf
 refine SeqP.go ?_
 conv=>whnf
 refine SeqP.go ?_
 conv=>whnf
 refine SeqP.cut (α:=Unit) (fun _=>[(3,int (sz s:Nat))]) (fun _ H=>H = h) ?_ ?_
 ·conv=>whnf
  refine SeqP.go ?_
  conv=>whnf
  refine loop_inv (α:=Nat) (fun k=>[(4,int k),(3,int (cntB s.testBit k:Nat)),(0,int s)]) (fun _=>h) (fun k=>k≤9) (fun k=>9 - k) 0 (Nat.zero_le _) ⟨rfl,rfl,rfl,trivial⟩ (Hp.Le.refl _) ?_
  rintro k φ hk
  have hk:k≤9:=hk
  have esh:=shr_nat (a:=s) (k:=k) (by omega)
  have hle:=shr_le s k
  have hcl:=cntB_le s.testBit k
  conv=>whnf
  refine SeqP.go ?_
  conv=>whnf
  refine SeqP.go ?_
  conv=>whnf
  refine ⟨by omega,?_⟩
  conv=>whnf
  refine cmpB (fun c2=>?_) (fun c2=>?_)
  rotate_left
  ·have c2:¬ (s:Int).fdiv (2 ^ (min (k:Int).toNat 64)) > 0:=c2
   rw [esh] at c2
   have hz:s >>> k = 0:=Nat.eq_zero_of_not_pos fun h=>c2 (Int.natCast_pos.2 h)
   have e:=cnt_stop hz (9 - k)
   rw [show k + (9 - k) = 9 by omega] at e
   conv=>whnf
   exact ⟨(),⟨by rw [show sz s = cntB s.testBit k from e]; rfl,trivial⟩,rfl,rfl⟩
  have c2:(s:Int).fdiv (2 ^ (min (k:Int).toNat 64)) > 0:=c2
  rw [esh] at c2
  have hk9:k < 9:=by
   rcases Nat.lt_or_ge k 9 with h1 | h1
   ·exact h1
   ·have:s >>> k = 0:=by rw [Nat.shiftRight_eq_div_pow]; exact Nat.div_eq_of_lt (Nat.lt_of_lt_of_le hs (Nat.pow_le_pow_right (n:=2) (by omega) h1))
    rw [this] at c2
    exact absurd c2 (by decide)
  have e1:((s:Int).fdiv (2 ^ (min (k:Int).toNat 64))).tmod 2 = ((s >>> k % 2:Nat):Int):=by rw [esh,show (2:Int) = ((2:Nat):Int) from rfl,tmod_nat]
  have e2:cntB s.testBit (k + 1) = cntB s.testBit k + s >>> k % 2:=by
   cases hb:s.testBit k with
   | true=>rw [cntB_t hb,(bit_mod s k).2 hb]
   | false =>
    have:¬ s >>> k % 2 = 1:=fun x=>by rw [(bit_mod s k).1 x] at hb; cases hb
    rw [cntB_f hb]; omega
  conv=>whnf
  refine SeqP.go ?_
  conv=>whnf
  refine ⟨by omega,?_⟩
  conv=>whnf
  refine ⟨by omega,?_⟩
  conv=>whnf
  refine ⟨((cntB s.testBit (k + 1):Nat):Int),by rw [e2]; exact wie (by show (cntB s.testBit k:Int) + ((s:Int).fdiv (2 ^ (min (k:Int).toNat 64))).tmod 2 = _; rw [e1,Int.natCast_add]) (by omega),?_⟩
  conv=>whnf
  refine ⟨_,wid (by omega),?_⟩
  conv=>whnf
  exact Rnd.mk (k + 1) (show k + 1≤9 by omega) (by show 9 - (k + 1) < 9 - k; omega) ⟨rfl,rfl,rfl,trivial⟩ (Hp.Le.refl _) rfl
 rintro _ φ h rfl
 conv=>whnf
 repeat (refine SeqP.go ?_; conv=>whnf)
 exact ⟨rfl,rfl⟩
end
end Go.Proofs.Ythgjnkdealdmoaa
namespace Go.Proofs.Ythgjnkdealdmoaa
open Go.Rx Go.RowKit
def rkN (P:List (Int×Int)) (s:Nat):Nat:=(rk 6 P s P.length).2
def trB (P:List (Int×Int)) (s:Nat):Bool:=sz s == rkN P (2 ^ P.length - 1) && rkN P s == rkN P (2 ^ P.length - 1)
theorem rkN_le (P:List (Int×Int)) (s:Nat):rkN P s≤P.length:=rk_le 6 P s P.length
theorem sz_le (s:Nat):sz s≤9:=cntB_le _ _
theorem lt512 {L s:Nat} (hl:L≤9) (hs:s < 2 ^ L):s < 512:=Nat.lt_of_lt_of_le hs (Nat.pow_le_pow_right (n:=2) (by omega) hl)
attribute [local irreducible] E idxN cellAt cellsAt storeAt callable helems hmoved lookIn findKey keyOk hentries Hp.at Hp.set Hp.lay arBits hupdated setAt CallP YieldP BoolOf IsWrap Rnd LoopP AppP CutP Int.tmod Int.tdiv Int.fdiv
section
variable [Unknowns]
attribute [local irreducible] ResP sameAt flat
theorem rankN_spec (n:Nat) (P:List (Int×Int)) (hP:NetOk n P) (hl:P.length≤9) (set:Nat) (hs:set < 2 ^ P.length) (v:Value) (h:Hp) (hv:PairsV h v P) :
  CallP E 59 [gval n v,int set] h (fun r h'=>r = int (rkN P set:Nat)∧Grows h h'):=rank_spec n P hP hl set hs v h hv
theorem RRankN_spec (n:Nat) (P:List (Int×Int)) (hP:NetOk n P) (hl:P.length≤9) (set:Nat) (hs:set < 2 ^ P.length) (v:Value) (h:Hp) (hv:PairsV h v P) :
  CallP E 19 [int n,v,int set] h (fun r h'=>r = int (rkN P set:Nat)∧Grows h h'):=by
 have e:rkN P set = (rk n P set P.length).2:=(rk_same hP set P.length (Nat.le_refl _)).2.symm
 rw [e]
 exact RRank_spec n P hP hl set (Nat.lt_of_lt_of_le (lt512 hl hs) (by decide)) v h hv
theorem isTree_spec (n:Nat) (P:List (Int×Int)) (hP:NetOk n P) (hl:P.length≤9) (set:Nat) (hs:set < 2 ^ P.length) (v:Value) (h:Hp) (hv:PairsV h v P) :
  CallP E 88 [gval n v,int set] h (fun r h'=>r = .bool (trB P set)∧Grows h h'):=by
 obtain ⟨av,cap,rfl,hcv⟩:=id hv
 have hp1:=Nat.one_le_two_pow (n:=P.length)
 have hs9:=lt512 hl hs
 have hrl:=rkN_le P (2 ^ P.length - 1)
 have hrs:=rkN_le P set
 have hsz:=sz_le set
 have hsg:=sameV_gval n av P.length cap
 have hex1:∃ H1,h.lay (.row 83 true [int n,.slice av P.length cap]) = H1:=⟨_,rfl⟩
 obtain ⟨H0,hH0⟩:=hex1
 have a83:H0.at h.next = some (.row 83 true [int n,.slice av P.length cap]):=by rw [← hH0]; exact Hp.at_lay_self _ _
 have g0:Grows h H0:=by rw [← hH0]; exact Grows.lay _ _
 have c0:cellsAt H0 h.next 0 2 = some [int n,.slice av P.length cap]:=cellsAt_row a83 (by simp)
 refine enter88 (by simp) ?_
 conv=>whnf
 refine SeqP.cut (α:=Unit) (fun _=>[(2,ptr h.next 0),(1,int set)]) (fun _ H=>H = H0) ?_ ?_
 ·conv=>whnf
  exact ⟨(),⟨rfl,rfl,trivial⟩,hH0,rfl⟩
 rintro _ φ H0 rfl
 conv=>whnf
 refine SeqP.cut (α:=Hp) (fun s=>[(5,int (rkN P (2 ^ P.length - 1):Nat)),(2,ptr h.next 0),(1,int set)]) (fun s H=>H = s∧Grows H0 s) ?_ ?_
 ·conv=>whnf
  refine ⟨_,c0,?_⟩
  conv=>whnf
  refine ⟨_,c0,?_⟩
  conv=>whnf
  refine CallP.mono (all_spec n P hl _ _ (hv.ext g0)) ?_
  rintro r H1 ⟨rfl,g1⟩
  conv=>whnf
  refine CallP.mono (rankN_spec n P hP hl (2 ^ P.length - 1) (by omega) _ H1 ((hv.ext g0).ext g1)) ?_
  rintro r H2 ⟨rfl,g2⟩
  conv=>whnf
  refine ⟨?_,?_⟩
  rotate_left
  ·conv=>whnf
   exact ⟨H2,⟨rfl,rfl,rfl,trivial⟩,⟨rfl,g1.trans g2⟩,rfl⟩
  repeat' (first | exact True.intro | (refine And.intro ?_ ?_ <;> (conv=>whnf)))
  all_goals first
   | exact sameAt_val (h2:=_) rfl (sameV_int _)
   | exact sameAt_val (h2:=_) (congrArg (fun x=>hval _ (aggOf x)) c0) hsg
   | exact sameAt_val (h2:=_) (congrArg (fun x=>hval _ (aggOf x)) (g1.cells c0)) hsg
   | exact sameAt_val (h2:=_) (congrArg (fun x=>hval _ (aggOf x)) ((g1.trans g2).cells c0)) hsg
 rintro _ φ H1 ⟨rfl,g1⟩
 have hv1:=(hv.ext g0).ext g1
 have c1:=g1.cells c0
 have e0:trB P set = (sz set == rkN P (2 ^ P.length - 1) && rkN P set == rkN P (2 ^ P.length - 1)):=rfl
 rw [e0]
 generalize rkN P (2 ^ P.length - 1) = R at hrl
 conv=>whnf
 refine SeqP.go ?_
 conv=>whnf
 refine CallP.mono (size_spec set hs9 H1) ?_
 rintro r H1 ⟨rfl,rfl⟩
 conv=>whnf
 refine cmpB (fun hb=>?_) (fun hb=>?_)
 ·have e1:(sz set == R) = true:=by rw [beq_iff_eq]; omega
  rw [e1,Bool.true_and]
  conv=>whnf
  refine ⟨_,c1,?_⟩
  conv=>whnf
  refine CallP.mono (rankN_spec n P hP hl set hs _ H1 hv1) ?_
  rintro r H2 ⟨rfl,g2⟩
  conv=>whnf
  refine cmpB (fun hb2=>?_) (fun hb2=>?_)
  ·have e2:(rkN P set == R) = true:=by rw [beq_iff_eq]; omega
   conv=>whnf
   repeat (refine SeqP.go ?_; conv=>whnf)
   exact ⟨by rw [e2]; rfl,(g0.trans g1).trans g2⟩
  ·have e2:(rkN P set == R) = false:=by rw [beq_eq_false_iff_ne]; omega
   conv=>whnf
   repeat (refine SeqP.go ?_; conv=>whnf)
   exact ⟨by rw [e2]; rfl,(g0.trans g1).trans g2⟩
 ·have e1:(sz set == R) = false:=by rw [beq_eq_false_iff_ne]; omega
  rw [e1,Bool.false_and]
  conv=>whnf
  repeat (refine SeqP.go ?_; conv=>whnf)
  exact ⟨rfl,g0.trans g1⟩
theorem IsTree_spec (n:Nat) (P:List (Int×Int)) (hP:NetOk n P) (hl:P.length≤9) (set:Nat) (hs:set < 2 ^ P.length) (v:Value) (h:Hp) (hv:PairsV h v P) :
  CallP E 48 [int n,v,int set] h (fun r h'=>r = .bool (trB P set)∧Grows h h'):=by
 obtain ⟨av,cap,rfl,hcv⟩:=id hv
 have hp1:=Nat.one_le_two_pow (n:=P.length)
 have hs9:=lt512 hl hs
 have hrl:=rkN_le P (2 ^ P.length - 1)
 have hrs:=rkN_le P set
 have hsz:=sz_le set
 have e0:trB P set = (sz set == rkN P (2 ^ P.length - 1) && rkN P set == rkN P (2 ^ P.length - 1)):=rfl
 rw [e0]
 refine enter48 (by simp) ?_
 conv=>whnf
 refine SeqP.go ?_
 conv=>whnf
 refine SeqP.go ?_
 conv=>whnf
 refine CallP.mono (Rall_spec P hl _ h hv) ?_
 rintro r h ⟨rfl,rfl⟩
 conv=>whnf
 refine CallP.mono (RRankN_spec n P hP hl (2 ^ P.length - 1) (by omega) _ h hv) ?_
 rintro r H1 ⟨rfl,g1⟩
 generalize rkN P (2 ^ P.length - 1) = R at hrl
 conv=>whnf
 refine SeqP.go ?_
 conv=>whnf
 refine CallP.mono (Size_spec set hs9 H1) ?_
 rintro r H1 ⟨rfl,rfl⟩
 conv=>whnf
 refine cmpB (fun hb=>?_) (fun hb=>?_)
 ·have e1:(sz set == R) = true:=by rw [beq_iff_eq]; omega
  rw [e1,Bool.true_and]
  conv=>whnf
  refine CallP.mono (RRankN_spec n P hP hl set hs _ H1 (hv.ext g1)) ?_
  rintro r H2 ⟨rfl,g2⟩
  conv=>whnf
  refine cmpB (fun hb2=>?_) (fun hb2=>?_)
  ·have e2:(rkN P set == R) = true:=by rw [beq_iff_eq]; omega
   conv=>whnf
   repeat (refine SeqP.go ?_; conv=>whnf)
   exact ⟨by rw [e2]; rfl,g1.trans g2⟩
  ·have e2:(rkN P set == R) = false:=by rw [beq_eq_false_iff_ne]; omega
   conv=>whnf
   repeat (refine SeqP.go ?_; conv=>whnf)
   exact ⟨by rw [e2]; rfl,g1.trans g2⟩
 ·have e1:(sz set == R) = false:=by rw [beq_eq_false_iff_ne]; omega
  rw [e1,Bool.false_and]
  conv=>whnf
  repeat (refine SeqP.go ?_; conv=>whnf)
  exact ⟨rfl,g1⟩
end
end Go.Proofs.Ythgjnkdealdmoaa
