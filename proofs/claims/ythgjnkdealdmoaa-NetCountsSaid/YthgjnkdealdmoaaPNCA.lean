/- Contracts of the functions that PNCB comes to. -/
import Derived.Test.YthgjnkdealdmoaaCodePNCB
import Derived.Test.YthgjnkdealdmoaaWx23
import Derived.Test.YthgjnkdealdmoaaWx29
import Derived.Test.YthgjnkdealdmoaaWx17
import Derived.Test.YthgjnkdealdmoaaWx16
import Derived.Test.YthgjnkdealdmoaaWx24
import Derived.Test.YthgjnkdealdmoaaWx18
import Derived.Test.YthgjnkdealdmoaaWx26
set_option maxRecDepth 100000
set_option maxHeartbeats 2000000
set_option linter.unusedVariables false
set_option linter.unusedSectionVars false
set_option linter.unusedSimpArgs false
namespace Go.Proofs.Ythgjnkdealdmoaa
open Go.Rx Go.RowKit
def leP (a b:Int×Int):Prop:=a.1 < b.1∨a.1 = b.1∧a.2≤b.2
theorem leP.trans {a b c:Int×Int} (h:leP a b) (k:leP b c):leP a c:=by unfold leP at *; omega
theorem leP.of_not {a b:Int×Int} (h:¬ leP a b):leP b a:=by unfold leP at *; omega
structure NetOk (n:Nat) (P:List (Int×Int)):Prop where
 n1:1≤n∧n≤6
 ok:∀ p ∈ P,0≤p.1∧p.1≤p.2∧p.2 < n
 srt:P.Pairwise leP
theorem ins_srt {P:List (Int×Int)} {x:Int×Int} {k:Nat} (hs:P.Pairwise leP) (hk:k≤P.length) (lo:∀ i,(hi:i < P.length)→i < k→leP P[i] x) (hi:∀ h:k < P.length,¬ leP P[k] x):(P.take k ++ x :: P.drop k).Pairwise leP:=by
 have hs':=hs
 rw [← List.take_append_drop k P,List.pairwise_append] at hs'
 obtain ⟨s1,s2,s3⟩:=hs'
 have hx:∀ y ∈ P.drop k,leP x y:=by
  intro y hy
  by_cases h:k < P.length
  ·have hkx:=(hi h)
   have hky:P[k] = y∨leP P[k] y:=by
    rw [List.drop_eq_getElem_cons h] at hy s2
    rcases List.mem_cons.1 hy with rfl | hy
    ·exact .inl rfl
    ·exact .inr ((List.pairwise_cons.1 s2).1 y hy)
   rcases hky with e | e
   ·rw [e] at hkx; exact leP.of_not hkx
   ·exact (leP.of_not hkx).trans e
  ·rw [List.drop_eq_nil_of_le (by omega)] at hy; cases hy
 rw [List.pairwise_append]
 refine ⟨s1,List.pairwise_cons.2 ⟨hx,s2⟩,fun a ha b hb=>?_⟩
 have hax:leP a x:=by
  obtain ⟨i,hi',rfl⟩:=List.getElem_of_mem ha
  rw [List.length_take] at hi'
  rw [List.getElem_take]
  exact lo i (by omega) (by omega)
 rcases List.mem_cons.1 hb with rfl | hb
 ·exact hax
 ·exact hax.trans (hx b hb)
theorem NetOk.ins {n:Nat} {P:List (Int×Int)} (h:NetOk n P) {x:Int×Int} {k:Nat} (hx:0≤x.1∧x.1≤x.2∧x.2 < n) (hk:k≤P.length) (lo:∀ i,(hi:i < P.length)→i < k→leP P[i] x) (hi:∀ h:k < P.length,¬ leP P[k] x):NetOk n (P.take k ++ x :: P.drop k):=by
 refine ⟨h.n1,fun p hp=>?_,ins_srt h.srt hk lo hi⟩
 rcases List.mem_append.1 hp with hp | hp
 ·exact h.ok p (List.mem_of_mem_take hp)
 ·rcases List.mem_cons.1 hp with rfl | hp
  ·exact hx
  ·exact h.ok p (List.mem_of_mem_drop hp)
theorem flat_app:∀ a b:List (Int×Int),flat (a ++ b) = flat a ++ flat b
 | [],_=>rfl
 | x :: a,b=>by show x.1 :: x.2 :: flat (a ++ b) = _; rw [flat_app a b]; rfl
theorem flat_sing (p:Int×Int):(flat [p]).map int = [int p.1,int p.2]:=rfl
theorem flat_drop:∀ (E:List (Int×Int)) (k:Nat),flat (E.drop k) = (flat E).drop (k * 2)
 | [],k=>by simp [flat]
 | x :: E,0=>by simp [flat]
 | x :: E,k + 1=>by
  have:=flat_drop E k
  rw [show (k + 1) * 2 = k * 2 + 1 + 1 by omega]
  simpa [flat] using this
theorem flat_one (P:List (Int×Int)):((flat P).map int).all oneCell = true:=by
 rw [List.all_eq_true]
 intro v hv
 obtain ⟨n,_,rfl⟩:=List.mem_map.1 hv
 rfl
def GB (h0 h:Hp) (v:Value) (P:List (Int×Int)):Prop:=BuiltC h0 h 79 2 v P.length ((flat P).map int)
theorem GB.ext {h0 h h':Hp} {v:Value} {P:List (Int×Int)} (k:GB h0 h v P) (g:Grows h h'):GB h0 h' v P:=BuiltC.ext g k
theorem GB.nil {h:Hp}:GB h h (.slice none 0 0) []:=BuiltC.nil
theorem GB.pairs {h0 h:Hp} {v:Value} {P:List (Int×Int)} (k:GB h0 h v P):PairsV h v P:=BuiltC.pairs k
theorem PairsV.get {h:Hp} {v:Value} {P:List (Int×Int)} (k:PairsV h v P) {i:Nat} (hi:i < P.length):∃ r o c,v = .slice (some ⟨r,o,none⟩) P.length c∧cellAt h r (0 + (i * 2 + o)) = some (int (P[i]).1)∧cellAt h r (1 + (i * 2 + o)) = some (int (P[i]).2):=by
 obtain ⟨a,c,rfl,hc⟩:=k
 obtain ⟨r,o,rfl,h1,h2⟩:=hc i hi
 exact ⟨r,o,c,rfl,by rw [Nat.zero_add]; exact h1,by rw [Nat.add_comm]; exact h2⟩
theorem store2 {H:Hp} {e:Nat} {a b:Value} {c d:Int}:storeAt (H.lay (.row e true [a,b])) H.next 0 [int c,int d] = some (H.lay (.row e true [int c,int d])):=by
 unfold storeAt
 rw [Hp.at_lay_self]
 dsimp only
 rw [if_pos ⟨by simp,rfl⟩,Hp.set_lay_self]
 rfl
theorem take_getP {P:List (Int×Int)} {k:Nat} (hk:k≤P.length):(P.take k).length = k:=by rw [List.length_take]; omega
attribute [local irreducible] E idxN cellAt cellsAt storeAt callable helems hmoved lookIn findKey keyOk hentries Hp.at Hp.set Hp.lay arBits hupdated setAt CallP YieldP BoolOf IsWrap Rnd LoopP AppP CutP Int.tmod Int.tdiv Int.fdiv
section
variable [Unknowns]
attribute [local irreducible] ResP sameAt GB flat
theorem tame_spec (n0:Int) (v:Value) (L:List (Int×Int)) (most:Nat) (hm:most≤9) (h:Hp) (hv:PairsV h v L) (hl:L.length < 9223372036854775808) :
  CallP E 17 [int n0,v,int most] h (fun r h'=>∃ (n:Nat) (v':Value) (P:List (Int×Int)),r = .tuple ⟨[int n,v']⟩∧NetOk n P∧P.length≤most∧GB h h' v' P∧Grows h h'):=by
 obtain ⟨av,cap,rfl,hcv⟩:=id hv
 refine enter17 (by simp) ?_
 have hux:=u64_of n0
 obtain ⟨u,u0,u1,hu⟩:=hux
 have b1:=tmod_bd u0 (show (0:Int) < 6 by omega)
 obtain ⟨n,hn⟩:∃ n:Nat,1 + u.tmod 6 = (n:Int):=⟨(1 + u.tmod 6).toNat,by omega⟩
 conv=>whnf
 refine SeqP.go ?_
 conv=>whnf
 refine SeqP.go ?_
 conv=>whnf
 refine ⟨u,hu,?_⟩
 conv=>whnf
 refine ⟨by omega,?_⟩
 conv=>whnf
 refine ⟨u.tmod 6,wid (by omega),?_⟩
 conv=>whnf
 refine ⟨(n:Int),wie hn (by omega),?_⟩
 conv=>whnf
 refine SeqP.cut (α:=Unit) (fun _=>[(8,.slice none 0 0),(0,int n),(1,.slice av L.length cap),(2,int most)]) (fun _ h'=>h' = h) ?_ ?_
 ·conv=>whnf
  exact ⟨(),⟨rfl,rfl,rfl,rfl,trivial⟩,rfl,rfl⟩
 rintro _ φ h rfl
 conv=>whnf
 refine SeqP.cut (α:=List (Int×Int)×Value×Hp) (fun s=>[(8,s.2.1),(0,int n)]) (fun s h'=>h' = s.2.2∧NetOk n s.1∧s.1.length≤most∧GB h s.2.2 s.2.1 s.1∧Grows h s.2.2) ?_ ?_
 ·conv=>whnf
  refine SeqP.go ?_
  conv=>whnf
  refine loop_inv (α:=Nat×List (Int×Int)×Value×Hp) (fun s=>[(9,int s.1),(8,s.2.2.1),(0,int n),(1,.slice av L.length cap),(2,int most)]) (fun s=>s.2.2.2) (fun s=>s.1≤L.length∧s.1≤most∧NetOk n s.2.1∧s.2.1.length≤s.1∧GB h s.2.2.2 s.2.2.1 s.2.1∧Grows h s.2.2.2) (fun s=>L.length - s.1) (0,[],.slice none 0 0,h) ⟨Nat.zero_le _,Nat.zero_le _,⟨by omega,fun _ hp=>(by cases hp),List.Pairwise.nil⟩,Nat.le_refl _,GB.nil,.refl _⟩ ⟨rfl,rfl,rfl,rfl,rfl,trivial⟩ (Hp.Le.refl _) ?_
  rintro ⟨i,P,vP,H⟩ φ ⟨hi,him,hP,hPl,hb,hg⟩
  dsimp only at hi him hP hPl hb hg ⊢
  have hn0:=hP.n1
  conv=>whnf
  refine SeqP.go ?_
  conv=>whnf
  refine SeqP.go ?_
  conv=>whnf
  refine cmpB (fun c1=>?_) (fun c1=>?_)
  rotate_left
  ·conv=>whnf
   repeat (refine SeqP.go ?_; conv=>whnf)
   exact ⟨(P,vP,H),⟨rfl,rfl,trivial⟩,⟨rfl,hP,(by show P.length≤most; omega),hb,hg⟩,rfl⟩
  conv=>whnf
  refine cmpB (fun c2=>?_) (fun c2=>?_)
  rotate_left
  ·conv=>whnf
   repeat (refine SeqP.go ?_; conv=>whnf)
   exact ⟨(P,vP,H),⟨rfl,rfl,trivial⟩,⟨rfl,hP,(by show P.length≤most; omega),hb,hg⟩,rfl⟩
  conv=>whnf
  refine SeqP.go ?_
  conv=>whnf
  have hi':i < L.length:=by omega
  obtain ⟨r,o,rfl,hc0,hc1⟩:=hcv i hi'
  have hc0':cellAt H r (0 + (i * 2 + o)) = some (int (L[i]).1):=by rw [Nat.zero_add]; exact hg.cell hc0
  have hc1':cellAt H r (1 + (i * 2 + o)) = some (int (L[i]).2):=by rw [Nat.add_comm]; exact hg.cell hc1
  have hux:=u64_of (L[i]).1
  obtain ⟨u,u0,u1,hu⟩:=hux
  have hux':=u64_of (L[i]).2
  obtain ⟨u',u0',u1',hu'⟩:=hux'
  have e1:=tmod_bd u0 (show (0:Int) < (n:Int) by omega)
  have e2:=tmod_bd u0' (show (0:Int) < (n:Int) by omega)
  obtain ⟨x,hx⟩:∃ x:Nat,u.tmod n = (x:Int):=⟨(u.tmod n).toNat,by omega⟩
  obtain ⟨y,hy⟩:∃ y:Nat,u'.tmod n = (y:Int):=⟨(u'.tmod n).toNat,by omega⟩
  refine SeqP.cut (α:=Unit) (fun _=>[(10,int x),(11,int y),(9,int i),(8,vP),(0,int n),(1,.slice (some ⟨r,o,none⟩) L.length cap),(2,int most)]) (fun _ h'=>h' = H) ?_ ?_
  ·conv=>whnf
   refine ⟨rfl,⟨by omega,by omega⟩,?_⟩
   conv=>whnf
   refine ⟨⟨by omega,by omega⟩,?_⟩
   conv=>whnf
   refine ⟨_,hc0',?_⟩
   conv=>whnf
   refine ⟨u,hu,?_⟩
   conv=>whnf
   refine ⟨(n:Int),u64_id (by omega),?_⟩
   conv=>whnf
   refine ⟨by omega,?_⟩
   conv=>whnf
   refine ⟨(x:Int),wie hx (by omega),?_⟩
   conv=>whnf
   refine ⟨rfl,⟨by omega,by omega⟩,?_⟩
   conv=>whnf
   refine ⟨⟨by omega,by omega⟩,?_⟩
   conv=>whnf
   refine ⟨_,hc1',?_⟩
   conv=>whnf
   refine ⟨u',hu',?_⟩
   conv=>whnf
   refine ⟨(n:Int),u64_id (by omega),?_⟩
   conv=>whnf
   refine ⟨by omega,?_⟩
   conv=>whnf
   refine ⟨(y:Int),wie hy (by omega),?_⟩
   conv=>whnf
   exact ⟨(),⟨rfl,rfl,rfl,rfl,rfl,rfl,rfl,trivial⟩,rfl,rfl⟩
  rintro _ φ H rfl
  conv=>whnf
  refine SeqP.cut (α:=Hp) (fun s=>[(12,ptr H.next 0),(9,int i),(8,vP),(0,int n),(1,.slice (some ⟨r,o,none⟩) L.length cap),(2,int most)]) (fun s h'=>h' = s∧s = H.lay (.row 79 true [int (min x y:Nat),int (max x y:Nat)])) ?_ ?_
  ·conv=>whnf
   refine resP_val (v:=int ((min x y:Nat):Int)) (h:=H) ?_ ?_
   ·conv=>lhs; whnf
    refine congrArg (fun n=>HRes.val (Value.int .i64 n) H) ?_
    split <;> omega
   conv=>whnf
   refine resP_val (v:=int ((max x y:Nat):Int)) (h:=H) ?_ ?_
   ·conv=>lhs; whnf
    refine congrArg (fun n=>HRes.val (Value.int .i64 n) H) ?_
    split <;> omega
   conv=>whnf
   refine ⟨rfl,_,store2,?_⟩
   conv=>whnf
   exact ⟨_,⟨rfl,rfl,rfl,rfl,rfl,rfl,trivial⟩,⟨rfl,rfl⟩,rfl⟩
  rintro H1 φ _ ⟨rfl,rfl⟩
  have aD:(H.lay (.row 79 true [int (min x y:Nat),int (max x y:Nat)])).at H.next = some (.row 79 true [int (min x y:Nat),int (max x y:Nat)]):=Hp.at_lay_self _ _
  have gD:Grows H (H.lay (.row 79 true [int (min x y:Nat),int (max x y:Nat)])):=Grows.lay _ _
  generalize hHe:H.lay (.row 79 true [int (min x y:Nat),int (max x y:Nat)]) = H1 at aD gD
  have hb1:=hb.ext gD
  have hg1:=hg.trans gD
  have hpx:(0:Int)≤(min x y:Nat)∧((min x y:Nat):Int)≤(max x y:Nat)∧((max x y:Nat):Int) < n:=by omega
  have cd0:cellAt H1 H.next (0 + 0) = some (int (min x y:Nat)):=cellAt_row aD rfl
  have cd1:cellAt H1 H.next (1 + 0) = some (int (max x y:Nat)):=cellAt_row aD rfl
  generalize hDe:H.next = D at aD cd0 cd1
  conv=>whnf
  refine SeqP.go ?_
  conv=>whnf
  refine SeqP.cut (α:=Nat) (fun k=>[(13,int k),(12,ptr D 0),(9,int i),(8,vP),(0,int n),(1,.slice (some ⟨r,o,none⟩) L.length cap),(2,int most)]) (fun k h'=>h' = H1∧k≤P.length∧(∀ j,(hj:j < P.length)→j < k→leP P[j] (((min x y:Nat):Int),((max x y:Nat):Int)))∧(∀ h:k < P.length,¬ leP P[k] (((min x y:Nat):Int),((max x y:Nat):Int)))) ?_ ?_
  ·conv=>whnf
   obtain ⟨av,cP,rfl,hcP⟩:=id hb1.pairs
   refine loop_inv (α:=Nat) (fun k=>[(13,int k),(12,ptr D 0),(9,int i),(8,.slice av P.length cP),(0,int n),(1,.slice (some ⟨r,o,none⟩) L.length cap),(2,int most)]) (fun _=>H1) (fun k=>k≤P.length∧∀ j,(hj:j < P.length)→j < k→leP P[j] (((min x y:Nat):Int),((max x y:Nat):Int))) (fun k=>P.length - k) 0 ⟨Nat.zero_le _,fun j _ hj=>absurd hj (Nat.not_lt_zero _)⟩ ⟨rfl,rfl,rfl,rfl,rfl,rfl,rfl,trivial⟩ (Hp.Le.refl _) ?_
   rintro k φ ⟨hk,hlo⟩
   dsimp only at hk hlo ⊢
   conv=>whnf
   refine SeqP.go ?_
   conv=>whnf
   refine SeqP.go ?_
   conv=>whnf
   refine cmpB (fun d1=>?_) (fun d1=>?_)
   rotate_left
   ·conv=>whnf
    exact ⟨k,⟨rfl,rfl,rfl,rfl,rfl,rfl,rfl,trivial⟩,⟨rfl,hk,hlo,fun h=>by omega⟩,rfl⟩
   have hk':k < P.length:=by omega
   have hPk:=hb1.pairs
   have hgt:=PairsV.get hPk hk'
   obtain ⟨rP,oP,cP2,eP,p0,p1⟩:=hgt
   injection eP with eP1 _ eP2
   subst eP1; subst eP2
   have succ:leP P[k] (((min x y:Nat):Int),((max x y:Nat):Int))→∀ j,(hj:j < P.length)→j < k + 1→leP P[j] (((min x y:Nat):Int),((max x y:Nat):Int)):=by
    intro hle j hj hj1
    by_cases hjk:j = k
    ·subst hjk; exact hle
    ·exact hlo j hj (by omega)
   conv=>whnf
   refine ⟨rfl,⟨by omega,by omega⟩,?_⟩
   conv=>whnf
   refine ⟨⟨by omega,by omega⟩,?_⟩
   conv=>whnf
   refine ⟨_,p0,?_⟩
   conv=>whnf
   refine ⟨⟨by omega,by omega⟩,?_⟩
   conv=>whnf
   refine ⟨_,cd0,?_⟩
   conv=>whnf
   refine cmpB (fun d2=>?_) (fun d2=>?_)
   ·conv=>whnf
    refine ⟨_,wid (by omega),?_⟩
    conv=>whnf
    exact Rnd.mk (k + 1) ⟨by omega,succ (.inl d2)⟩ (by omega) ⟨rfl,rfl,rfl,rfl,rfl,rfl,rfl,trivial⟩ (Hp.Le.refl _) rfl
   conv=>whnf
   refine ⟨rfl,⟨by omega,by omega⟩,?_⟩
   conv=>whnf
   refine ⟨⟨by omega,by omega⟩,?_⟩
   conv=>whnf
   refine ⟨_,p0,?_⟩
   conv=>whnf
   refine ⟨⟨by omega,by omega⟩,?_⟩
   conv=>whnf
   refine ⟨_,cd0,?_⟩
   conv=>whnf
   refine cmpB (fun d3=>?_) (fun d3=>?_)
   rotate_left
   ·conv=>whnf
    refine ⟨k,⟨rfl,rfl,rfl,rfl,rfl,rfl,rfl,trivial⟩,⟨rfl,hk,hlo,fun h=>?_⟩,rfl⟩
    unfold leP
    dsimp only
    omega
   conv=>whnf
   refine ⟨rfl,⟨by omega,by omega⟩,?_⟩
   conv=>whnf
   refine ⟨⟨by omega,by omega⟩,?_⟩
   conv=>whnf
   refine ⟨_,p1,?_⟩
   conv=>whnf
   refine ⟨⟨by omega,by omega⟩,?_⟩
   conv=>whnf
   refine ⟨_,cd1,?_⟩
   conv=>whnf
   refine cmpB (fun d4=>?_) (fun d4=>?_)
   ·conv=>whnf
    refine ⟨_,wid (by omega),?_⟩
    conv=>whnf
    exact Rnd.mk (k + 1) ⟨by omega,succ (.inr ⟨d3,d4⟩)⟩ (by omega) ⟨rfl,rfl,rfl,rfl,rfl,rfl,rfl,trivial⟩ (Hp.Le.refl _) rfl
   ·conv=>whnf
    refine ⟨k,⟨rfl,rfl,rfl,rfl,rfl,rfl,rfl,trivial⟩,⟨rfl,hk,hlo,fun h=>?_⟩,rfl⟩
    unfold leP
    dsimp only
    omega
  rintro k φ H1 ⟨rfl,hk,hlo,hhi⟩
  have hlk:(P.take k).length = k:=take_getP hk
  have hbC:BuiltC h H1 79 2 vP P.length ((flat P).map int):=by unfold GB at hb1; exact hb1
  conv=>whnf
  refine SeqP.go ?_
  conv=>whnf
  refine SeqP.cut (α:=Value×Hp) (fun s=>[(14,s.1),(13,int k),(12,ptr D 0),(9,int i),(8,vP),(0,int n),(1,.slice (some ⟨r,o,none⟩) L.length cap),(2,int most)]) (fun s h'=>h' = s.2∧GB H1 s.2 s.1 (P.take k)∧Grows H1 s.2) ?_ ?_
  ·conv=>whnf
   refine CutP.built (i:=0) (j:=k) hbC (flat_one _) ⟨.inl ⟨rfl,rfl⟩,.inr rfl⟩ (Nat.zero_le _) hk ?_
   intro v1 hv1
   conv=>whnf
   refine AppP.cells (h0:=H1) BuiltC.nil (.refl _) hv1 (by omega) (by omega) ?_
   intro v2 h3 b3 g3 _
   have e3:[] ++ ((flat P).map int |>.drop (0 * 2)).take ((k - 0) * 2) = (flat (P.take k)).map int:=by
    rw [flat_take,List.map_take]; simp
   rw [e3,show 0 + (k - 0) = (P.take k).length by omega] at b3
   conv=>whnf
   exact ⟨(v2,h3),⟨rfl,rfl,rfl,rfl,rfl,rfl,rfl,rfl,trivial⟩,⟨rfl,by unfold GB; exact b3,g3⟩,rfl⟩
  rintro ⟨v2,_⟩ φ h3 ⟨rfl,b3,g3⟩
  dsimp only at b3 g3 ⊢
  have aD3:=g3.at_ _ _ aD
  conv=>whnf
  refine SeqP.cut (α:=Value×Hp) (fun s=>[(14,s.1),(13,int k),(9,int i),(8,vP),(0,int n),(1,.slice (some ⟨r,o,none⟩) L.length cap),(2,int most)]) (fun s h'=>h' = s.2∧GB H1 s.2 s.1 (P.take k ++ [(((min x y:Nat):Int),((max x y:Nat):Int))])∧Grows H1 s.2) ?_ ?_
  ·conv=>whnf
   refine ⟨_,cellsAt_row aD3 (by simp),?_⟩
   conv=>whnf
   have b3':BuiltC H1 h3 79 2 v2 (P.take k).length ((flat (P.take k)).map int):=by unfold GB at b3; exact b3
   refine AppP.cells (h0:=H1) (b3'.ext (Grows.lay _ _)) (g3.then_lay _) (elems_part (s:=2) (o:=0) (m:=1) (cs:=[int (min x y:Nat),int (max x y:Nat)]) (Hp.at_lay_self _ _) (by simp) rfl 1) (by omega) (by omega) ?_
   intro v3 h4 b4 g4 _
   have e4:(flat (P.take k)).map int ++ ([int (min x y:Nat),int (max x y:Nat)].drop 0).take (1 * 2) = (flat (P.take k ++ [(((min x y:Nat):Int),((max x y:Nat):Int))])).map int:=by
    rw [flat_app,List.map_append,flat_sing]
    rfl
   have e5:(P.take k).length + 1 = (P.take k ++ [(((min x y:Nat):Int),((max x y:Nat):Int))]).length:=by simp
   rw [e4,e5] at b4
   conv=>whnf
   exact ⟨(v3,h4),⟨rfl,rfl,rfl,rfl,rfl,rfl,rfl,trivial⟩,⟨rfl,by unfold GB; exact b4,g4⟩,rfl⟩
  rintro ⟨v3,_⟩ φ h4 ⟨rfl,b4,g4⟩
  dsimp only at b4 g4 ⊢
  have hbD:BuiltC h h4 79 2 vP P.length ((flat P).map int):=hbC.ext g4
  conv=>whnf
  refine CutP.built (i:=k) (j:=P.length) hbD (flat_one _) ⟨.inr rfl,.inl ⟨rfl,rfl⟩⟩ hk (Nat.le_refl _) ?_
  intro v4 hv4
  conv=>whnf
  have b4':BuiltC H1 h4 79 2 v3 (P.take k ++ [(((min x y:Nat):Int),((max x y:Nat):Int))]).length ((flat (P.take k ++ [(((min x y:Nat):Int),((max x y:Nat):Int))])).map int):=by unfold GB at b4; exact b4
  refine AppP.cells (h0:=H1) b4' g4 hv4 (by simp; omega) (by simp; omega) ?_
  intro v5 h5 b5 g5 _
  conv=>whnf
  have e6:(flat (P.take k ++ [(((min x y:Nat):Int),((max x y:Nat):Int))])).map int ++ (((flat P).map int).drop (k * 2)).take ((P.length - k) * 2) = (flat (P.take k ++ (((min x y:Nat):Int),((max x y:Nat):Int)) :: P.drop k)).map int:=by
   have hz:(((flat P).map int).drop (k * 2)).take ((P.length - k) * 2) = ((flat P).map int).drop (k * 2):=List.take_of_length_le (by rw [List.length_drop,List.length_map,flat_length]; omega)
   rw [hz,show P.take k ++ (((min x y:Nat):Int),((max x y:Nat):Int)) :: P.drop k = (P.take k ++ [(((min x y:Nat):Int),((max x y:Nat):Int))]) ++ P.drop k by simp,flat_app _ (P.drop k),List.map_append,flat_drop,List.map_drop]
  have e7:(P.take k ++ [(((min x y:Nat):Int),((max x y:Nat):Int))]).length + (P.length - k) = (P.take k ++ (((min x y:Nat):Int),((max x y:Nat):Int)) :: P.drop k).length:=by simp; omega
  rw [e6,e7] at b5
  have hl7:(P.take k ++ (((min x y:Nat):Int),((max x y:Nat):Int)) :: P.drop k).length = P.length + 1:=by simp; omega
  refine ⟨_,wid (by omega),?_⟩
  conv=>whnf
  exact Rnd.mk (i + 1,P.take k ++ (((min x y:Nat):Int),((max x y:Nat):Int)) :: P.drop k,v5,h5) ⟨by show i + 1≤L.length; omega,by show i + 1≤most; omega,hP.ins hpx hk hlo hhi,by rw [hl7]; show P.length + 1≤i + 1; omega,by unfold GB; exact BuiltC.back hg1.next b5,hg1.trans g5⟩ (by show L.length - (i + 1) < L.length - i; omega) ⟨rfl,rfl,rfl,rfl,rfl,trivial⟩ (Hp.Le.refl _) rfl
 rintro ⟨P,vP,_⟩ φ H ⟨rfl,hP,hPl,hb,hg⟩
 dsimp only at hP hPl hb hg ⊢
 have hsl:∃ a c,vP = .slice a P.length c:=by
  obtain ⟨a,c,e,_⟩:=hb.pairs
  exact ⟨a,c,e⟩
 obtain ⟨a,c,rfl⟩:=hsl
 conv=>whnf
 exact ⟨n,_,P,rfl,hP,hPl,hb,hg⟩
end
end Go.Proofs.Ythgjnkdealdmoaa
namespace Go.Proofs.Ythgjnkdealdmoaa
open Go.Rx Go.RowKit
def edg (P:List (Int×Int)) (k:Nat):Int×Int:=P.getD k (0,0)
end Go.Proofs.Ythgjnkdealdmoaa
namespace Go.Proofs.Ythgjnkdealdmoaa
open Go.Rx Go.RowKit
theorem edg_get {P:List (Int×Int)} {k:Nat} (hk:k < P.length):edg P k = P[k]:=by unfold edg; simp [List.getD,hk]
theorem times_one (v:Value):∀ n,times [v] n = List.replicate n v
 | 0=>rfl
 | n + 1=>by show v :: times [v] n = _; rw [times_one v n,List.replicate_succ]
end Go.Proofs.Ythgjnkdealdmoaa
namespace Go.Proofs.Ythgjnkdealdmoaa
open Go.Rx Go.RowKit
attribute [local irreducible] E idxN cellAt cellsAt storeAt callable helems hmoved lookIn findKey keyOk hentries Hp.at Hp.set Hp.lay arBits hupdated setAt CallP YieldP BoolOf IsWrap Rnd LoopP AppP CutP Int.tmod Int.tdiv Int.fdiv
section
variable [Unknowns]
attribute [local irreducible] ResP sameAt flat
theorem has_spec (s v:Nat) (hs:s < 1048576) (hv:v < 60) (h:Hp):CallP E 90 [int s,int v] h (fun r h'=>r = .bool (s.testBit v)∧h' = h):=by
 have esh:=shr_nat (a:=s) (k:=v) (by omega)
 have hle:s >>> v≤s:=by rw [Nat.shiftRight_eq_div_pow]; exact Nat.div_le_self _ _
 have ea:=bits_and (a:=s >>> v) (b:=1) (by omega) (by omega)
 refine enter90 (by simp) ?_
 conv=>whnf
 repeat (refine SeqP.go ?_; conv=>whnf)
 refine ⟨by omega,?_⟩
 conv=>whnf
 refine cmpB (fun hb=>?_) (fun hb=>?_)
 ·have hb:arBits .i64 .and ((s:Int).fdiv (2 ^ (min (v:Int).toNat 64))) ((1:Nat):Int) = 1:=hb
  rw [esh,ea] at hb
  have e:s.testBit v = true:=(bit_has s v).1 (by omega)
  conv=>whnf
  repeat (refine SeqP.go ?_; conv=>whnf)
  exact ⟨by rw [e]; rfl,rfl⟩
 ·have hb:¬ arBits .i64 .and ((s:Int).fdiv (2 ^ (min (v:Int).toNat 64))) ((1:Nat):Int) = 1:=hb
  rw [esh,ea] at hb
  have e:s.testBit v = false:=by
   cases e:s.testBit v with
   | false=>rfl
   | true=>have:=(bit_has s v).2 e; omega
  conv=>whnf
  repeat (refine SeqP.go ?_; conv=>whnf)
  exact ⟨by rw [e]; rfl,rfl⟩
def gval (n:Nat) (v:Value):Value:=.agg ⟨[int n,v]⟩
theorem all_spec (n:Nat) (P:List (Int×Int)) (hl:P.length≤9) (v:Value) (h:Hp) (hv:PairsV h v P):CallP E 113 [gval n v] h (fun r h'=>r = int ((2 ^ P.length - 1:Nat):Int)∧Grows h h'):=by
 obtain ⟨av,cap,rfl,-⟩:=id hv
 have hp:=Nat.pow_le_pow_right (n:=2) (by omega) hl
 have hp1:=Nat.one_le_two_pow (n:=P.length)
 refine enter113 (by simp) ?_
 conv=>whnf
 refine SeqP.go ?_
 conv=>whnf
 refine ⟨.slice av P.length cap,cellAt_row (Hp.at_lay_self _ _) rfl,?_⟩
 conv=>whnf
 refine ⟨by omega,((2 ^ P.length:Nat):Int),shl_one (by omega),?_⟩
 conv=>whnf
 refine ⟨((2 ^ P.length - 1:Nat):Int),wie (by omega) (by omega),?_⟩
 conv=>whnf
 exact ⟨rfl,Grows.lay _ _⟩
structure GR (h H:Hp) (G:Nat) (p:List Int):Prop where
 next:h.next≤H.next
 at_:∀ r o,r≠G→h.at r = some o→H.at r = some o
 grp:H.at G = some (.row 116 true (p.map int))
theorem GR.start {h:Hp} {G:Nat} {p:List Int} (k:h.at G = some (.row 116 true (p.map int))):GR h h G p:=⟨Nat.le_refl _,fun _ _ _ e=>e,k⟩
theorem GR.cell {h H:Hp} {G:Nat} {p:List Int} (k:GR h H G p) {i:Nat} {j x:Int} (hj:j.toNat = i) (hx:p[i]? = some x):cellAt H G (offAt 0 j.toNat 1) = some (int x):=by
 rw [offAt_eq,hj,show 0 + i * 1 = i by omega]
 exact cellAt_row k.grp (by rw [List.getElem?_map,hx]; rfl)
theorem GR.set {h H:Hp} {G:Nat} {p:List Int} (k:GR h H G p) {i:Nat} {j x:Int} (hj:j.toNat = i) (hi:i < p.length):∃ H',storeAt H G (offAt 0 j.toNat 1) [int x] = some H'∧GR h H' G (p.set i x):=by
 rw [offAt_eq,hj,show 0 + i * 1 = i by omega,storeAt_row k.grp (by rw [List.length_map]; exact hi) rfl]
 refine ⟨_,rfl,⟨by rw [Hp.next_set]; exact k.next,fun r o hr e=>by rw [Hp.at_set_ne _ hr]; exact k.at_ r o hr e,?_⟩⟩
 rw [Hp.at_set_self _ (Hp.lt_of_at k.grp),List.map_set]
end
end Go.Proofs.Ythgjnkdealdmoaa
namespace Go.Proofs.Ythgjnkdealdmoaa
open Go.Rx Go.RowKit
attribute [local irreducible] E idxN cellAt cellsAt storeAt callable helems hmoved lookIn findKey keyOk hentries Hp.at Hp.set Hp.lay arBits hupdated setAt CallP YieldP BoolOf IsWrap Rnd LoopP AppP CutP Int.tmod Int.tdiv Int.fdiv
section
variable [Unknowns]
theorem isnan_spec (a:Int) (h:Hp):CallP E 145 [int a] h (fun r h'=>r = .bool false∧h' = h):=by
 refine enter145 (by simp) ?_
 ((conv=>whnf); repeat (refine SeqP.go ?_; conv=>whnf))
 refine cmpF (by omega) ?_
 ((conv=>whnf); repeat (refine SeqP.go ?_; conv=>whnf))
 exact ⟨rfl,rfl⟩
def cmpI (a b:Int):Int:=if a < b then -1 else if b < a then 1 else 0
theorem cmp_spec (a b:Int) (h:Hp):CallP E 133 [int a,int b] h (fun r h'=>r = int (cmpI a b)∧h' = h):=by
 refine enter133 (by simp) ?_
 ((conv=>whnf); repeat (refine SeqP.go ?_; conv=>whnf))
 refine CallP.mono (isnan_spec a h) ?_
 rintro r h1 ⟨rfl,rfl⟩
 ((conv=>whnf); repeat (refine SeqP.go ?_; conv=>whnf))
 refine CallP.mono (isnan_spec b h1) ?_
 rintro r h2 ⟨rfl,rfl⟩
 ((conv=>whnf); repeat (refine SeqP.go ?_; conv=>whnf))
 by_cases h3:a < b
 ·refine cmpT h3 ?_
  ((conv=>whnf); repeat (refine SeqP.go ?_; conv=>whnf))
  exact ⟨by unfold cmpI; rw [if_pos h3]; rfl,rfl⟩
 refine cmpF h3 ?_
 ((conv=>whnf); repeat (refine SeqP.go ?_; conv=>whnf))
 by_cases h4:b < a
 ·refine cmpT h4 ?_
  ((conv=>whnf); repeat (refine SeqP.go ?_; conv=>whnf))
  exact ⟨by unfold cmpI; rw [if_neg h3,if_pos h4]; rfl,rfl⟩
 refine cmpF h4 ?_
 ((conv=>whnf); repeat (refine SeqP.go ?_; conv=>whnf))
 exact ⟨by unfold cmpI; rw [if_neg h3,if_neg h4]; rfl,rfl⟩
def PLess (x y:Int×Int):Prop:=x.1 < y.1∨x.1 = y.1∧x.2 < y.2
theorem compare_spec (v w:Value) (x y:Int×Int) (h:Hp) (hv:Ints h v [x.1,x.2]) (hw:Ints h w [y.1,y.2]):CallP E 121 [v,w] h (fun r h'=>(∃ c:Int,r = int c∧(c < 0↔PLess x y)∧(c = 0↔x = y))∧h' = h):=by
 obtain ⟨a,b⟩:=x
 obtain ⟨c,d⟩:=y
 obtain ⟨av,cap,rfl,hc⟩:=id hv
 obtain ⟨aw,cap',rfl,hd⟩:=id hw
 obtain ⟨r,o,sp,e,hsp,hc0⟩:=hc 0 (by simp)
 subst e
 obtain ⟨r',o',sp',e,hsp',hd0⟩:=hd 0 (by simp)
 subst e
 have hc1:cellAt h r (1 + o) = some (int b):=by
  obtain ⟨_,_,_,e,_,h1⟩:=hc 1 (by simp)
  cases e
  exact h1
 have hd1:cellAt h r' (1 + o') = some (int d):=by
  obtain ⟨_,_,_,e,_,h1⟩:=hd 1 (by simp)
  cases e
  exact h1
 refine enter121 (by simp) ?_
 ((conv=>whnf); repeat (refine SeqP.go ?_; conv=>whnf))
 refine loop_inv (α:=Nat) (fun k=>[(11,int k),(10,int 2),(9,.slice (some ⟨r,o,sp⟩) 2 cap),(0,.slice (some ⟨r,o,sp⟩) 2 cap),(1,.slice (some ⟨r',o',sp'⟩) 2 cap')]) (fun _=>h) (fun k=>k≤2∧(1≤k→a = c)∧(2≤k→b = d)) (fun k=>2 - k) 0 ⟨by omega,by omega,by omega⟩ ⟨rfl,rfl,rfl,rfl,rfl,trivial⟩ (Hp.Le.refl _) ?_
 rintro k φ ⟨hk,h1,h2⟩
 have hk3:k = 0∨k = 1∨k = 2:=by omega
 ((conv=>whnf); repeat (refine SeqP.go ?_; conv=>whnf))
 refine cmpB (fun hb=>?_) (fun hb=>?_)
 rotate_left
 ·have:k = 2:=by omega
  subst this
  ((conv=>whnf); repeat (refine SeqP.go ?_; conv=>whnf))
  refine cmpF (by omega) ?_
  ((conv=>whnf); repeat (refine SeqP.go ?_; conv=>whnf))
  refine ⟨⟨0,rfl,?_,?_⟩,rfl⟩
  ·unfold PLess; dsimp only; omega
  ·rw [Prod.mk.injEq]; omega
 have hx:∃ x:Int,cellAt h r (k + o) = some (int x)∧(k = 0∧x = a∨k = 1∧x = b):=by
  rcases hk3 with rfl | rfl | rfl
  ·exact ⟨a,hc0,.inl ⟨rfl,rfl⟩⟩
  ·exact ⟨b,hc1,.inr ⟨rfl,rfl⟩⟩
  ·omega
 have hy:∃ y:Int,cellAt h r' (k + o') = some (int y)∧(k = 0∧y = c∨k = 1∧y = d):=by
  rcases hk3 with rfl | rfl | rfl
  ·exact ⟨c,hd0,.inl ⟨rfl,rfl⟩⟩
  ·exact ⟨d,hd1,.inr ⟨rfl,rfl⟩⟩
  ·omega
 obtain ⟨x,hx1,hx2⟩:=hx
 obtain ⟨y,hy1,hy2⟩:=hy
 ((conv=>whnf); repeat (refine SeqP.go ?_; conv=>whnf))
 refine ⟨hsp,⟨by omega,by omega⟩,?_⟩
 ((conv=>whnf); repeat (refine SeqP.go ?_; conv=>whnf))
 refine ⟨_,hx1,?_⟩
 ((conv=>whnf); repeat (refine SeqP.go ?_; conv=>whnf))
 refine cmpF (by omega) ?_
 ((conv=>whnf); repeat (refine SeqP.go ?_; conv=>whnf))
 refine ⟨hsp',⟨by omega,by omega⟩,?_⟩
 ((conv=>whnf); repeat (refine SeqP.go ?_; conv=>whnf))
 refine ⟨_,hy1,?_⟩
 ((conv=>whnf); repeat (refine SeqP.go ?_; conv=>whnf))
 refine CallP.mono (cmp_spec x y h) ?_
 rintro rr h3 ⟨rfl,rfl⟩
 ((conv=>whnf); repeat (refine SeqP.go ?_; conv=>whnf))
 by_cases hxy:x = y
 ·refine cmpF (fun hn=>hn (by unfold cmpI; rw [if_neg (by omega),if_neg (by omega)])) ?_
  ((conv=>whnf); repeat (refine SeqP.go ?_; conv=>whnf))
  refine ⟨_,wid (by omega),?_⟩
  ((conv=>whnf); repeat (refine SeqP.go ?_; conv=>whnf))
  exact Rnd.mk (k + 1) ⟨by omega,by omega,by omega⟩ (by omega) ⟨rfl,rfl,rfl,rfl,rfl,trivial⟩ (Hp.Le.refl _) rfl
 ·refine cmpT (fun hn=>by
   unfold cmpI at hn
   split at hn
   ·omega
   ·split at hn <;> omega) ?_
  ((conv=>whnf); repeat (refine SeqP.go ?_; conv=>whnf))
  refine ⟨⟨cmpI x y,rfl,?_,?_⟩,rfl⟩
  ·unfold PLess cmpI; dsimp only
   constructor
   ·intro h
    split at h
    ·omega
    ·split at h <;> omega
   ·intro h
    rw [if_pos (by omega)]
    omega
  ·rw [Prod.mk.injEq]
   constructor
   ·intro h
    unfold cmpI at h
    split at h
    ·omega
    ·split at h <;> omega
   ·intro h; exfalso; omega
end
end Go.Proofs.Ythgjnkdealdmoaa
namespace Go.Proofs.Ythgjnkdealdmoaa
open Go.Rx Go.RowKit
attribute [local irreducible] E idxN cellAt cellsAt storeAt callable helems hmoved lookIn findKey keyOk hentries Hp.at Hp.set Hp.lay arBits hupdated setAt CallP YieldP BoolOf IsWrap Rnd LoopP AppP CutP Int.tmod Int.tdiv Int.fdiv
section
variable [Unknowns]
attribute [local irreducible] ResP sameAt flat
def gvN (i:Nat):List Value:=[int (i:Int)]
end
end Go.Proofs.Ythgjnkdealdmoaa
namespace Go.Proofs.Ythgjnkdealdmoaa
open Go.Rx Go.RowKit
attribute [local irreducible] E idxN cellAt cellsAt storeAt callable helems hmoved lookIn findKey keyOk hentries Hp.at Hp.set Hp.lay arBits hupdated setAt CallP YieldP BoolOf IsWrap Rnd LoopP AppP CutP Int.tmod Int.tdiv Int.fdiv
section
variable [Unknowns]
attribute [local irreducible] ResP sameAt flat
theorem edges_spec (x y:Int×Int) (h:Hp):CallP E 100 [.agg ⟨[int x.1,int x.2]⟩,.agg ⟨[int y.1,int y.2]⟩] h (fun r h'=>(∃ c:Int,r = int c∧(c < 0↔PLess x y)∧(c = 0↔x = y))∧Grows h h'):=by
 refine enter100 (by simp) ?_
 conv=>whnf
 repeat (refine SeqP.go ?_; conv=>whnf)
 have a1:((h.lay (.row 79 true [int x.1,int x.2])).lay (.row 79 true [int y.1,int y.2])).at h.next = some (.row 79 true ([x.1,x.2].map int)):=Hp.at_lay_old _ (Hp.at_lay_self _ _)
 have a2:((h.lay (.row 79 true [int x.1,int x.2])).lay (.row 79 true [int y.1,int y.2])).at (h.lay (.row 79 true [int x.1,int x.2])).next = some (.row 79 true ([y.1,y.2].map int)):=Hp.at_lay_self _ _
 refine resP_cutA ?_ (by omega)
 conv=>whnf
 refine resP_cutA ?_ (by omega)
 conv=>whnf
 refine CallP.mono (compare_spec _ _ x y _ ?_ ?_) ?_
 ·exact ints_spot (l:=[x.1,x.2]) a1 (fun j hj=>by
   have hj2:j = 0∨j = 1:=by simp at hj; omega
   rcases hj2 with rfl | rfl <;> rfl)
 ·exact ints_spot (l:=[y.1,y.2]) a2 (fun j hj=>by
   have hj2:j = 0∨j = 1:=by simp at hj; omega
   rcases hj2 with rfl | rfl <;> rfl)
 rintro r h2 ⟨⟨c,rfl,hc⟩,rfl⟩
 conv=>whnf
 exact ⟨⟨c,rfl,hc⟩,(Grows.lay _ _).then_lay _⟩
theorem le_not {x y:Int×Int} (h:leP x y):¬ PLess y x:=by unfold leP at h; unfold PLess; omega
theorem Check_spec (n:Nat) (P:List (Int×Int)) (hP:NetOk n P) (hl:P.length≤9) (v:Value) (h:Hp) (hv:PairsV h v P):CallP E 60 [int n,v] h (fun r h'=>r = int 0∧Grows h h'):=by
 obtain ⟨av,cap,rfl,hcv⟩:=id hv
 have hn:=hP.n1
 refine enter60 (by simp) ?_
 conv=>whnf
 repeat (refine SeqP.go ?_; conv=>whnf)
 refine cmpF (by omega) ?_
 conv=>whnf
 refine cmpF (by omega) ?_
 conv=>whnf
 repeat (refine SeqP.go ?_; conv=>whnf)
 refine cmpF (by omega) ?_
 conv=>whnf
 repeat (refine SeqP.go ?_; conv=>whnf)
 refine loop_inv (α:=Nat×Hp) (fun s=>[(18,int s.1),(17,int P.length),(16,.slice av P.length cap),(0,int n),(1,.slice av P.length cap)]) (fun s=>s.2) (fun s=>s.1≤P.length∧Grows h s.2) (fun s=>P.length - s.1) (0,h) ⟨Nat.zero_le _,.refl _⟩ ⟨rfl,rfl,rfl,rfl,rfl,trivial⟩ (Hp.Le.refl _) ?_
 rintro ⟨k,H⟩ φ ⟨hk,hg⟩
 dsimp only at hk hg ⊢
 conv=>whnf
 repeat (refine SeqP.go ?_; conv=>whnf)
 refine cmpB (fun c1=>?_) (fun c1=>?_)
 rotate_left
 ·conv=>whnf
  repeat (refine SeqP.go ?_; conv=>whnf)
  exact ⟨rfl,hg⟩
 have hk':k < P.length:=by omega
 obtain ⟨r,o,rfl,hc0,hc1⟩:=hcv k hk'
 have hok:=hP.ok _ (List.getElem_mem hk')
 conv=>whnf
 repeat (refine SeqP.go ?_; conv=>whnf)
 refine ⟨rfl,⟨by omega,by omega⟩,?_⟩
 conv=>whnf
 refine ⟨[int (P[k]).1,int (P[k]).2],cellsAt_two (hg.cell hc0) (hg.cell hc1),?_⟩
 conv=>whnf
 refine ⟨rfl,_,store2,?_⟩
 have aD:(H.lay (.row 79 true [int (P[k]).1,int (P[k]).2])).at H.next = some (.row 79 true [int (P[k]).1,int (P[k]).2]):=Hp.at_lay_self _ _
 have q0:cellAt (H.lay (.row 79 true [int (P[k]).1,int (P[k]).2])) H.next (0 + 0) = some (int (P[k]).1):=cellAt_row aD rfl
 have q1:cellAt (H.lay (.row 79 true [int (P[k]).1,int (P[k]).2])) H.next (1 + 0) = some (int (P[k]).2):=cellAt_row aD rfl
 have hg':Grows h (H.lay (.row 79 true [int (P[k]).1,int (P[k]).2])):=hg.then_lay _
 conv=>whnf
 repeat (refine SeqP.go ?_; conv=>whnf)
 refine ⟨⟨by omega,by omega⟩,?_⟩
 conv=>whnf
 refine ⟨_,q0,?_⟩
 conv=>whnf
 refine cmpF (by omega) ?_
 conv=>whnf
 refine ⟨⟨by omega,by omega⟩,?_⟩
 conv=>whnf
 refine ⟨_,q0,?_⟩
 conv=>whnf
 refine ⟨⟨by omega,by omega⟩,?_⟩
 conv=>whnf
 refine ⟨_,q1,?_⟩
 conv=>whnf
 refine cmpF (by omega) ?_
 conv=>whnf
 refine ⟨⟨by omega,by omega⟩,?_⟩
 conv=>whnf
 refine ⟨_,q1,?_⟩
 conv=>whnf
 refine cmpF (by omega) ?_
 conv=>whnf
 repeat (refine SeqP.go ?_; conv=>whnf)
 refine cmpB (fun c2=>?_) (fun c2=>?_)
 rotate_left
 ·conv=>whnf
  repeat (refine SeqP.go ?_; conv=>whnf)
  refine ⟨_,wid (by omega),?_⟩
  conv=>whnf
  exact Rnd.mk (k + 1,_) ⟨by show k + 1≤P.length; omega,hg'⟩ (by show P.length - (k + 1) < P.length - k; omega) ⟨rfl,rfl,rfl,rfl,rfl,trivial⟩ (Hp.Le.refl _) rfl
 have hk1:k - 1 < P.length:=by omega
 have hcc:=hcv (k - 1) hk1
 obtain ⟨r',o',e',hd0,hd1⟩:=hcc
 obtain ⟨rfl,rfl⟩:r' = r∧o' = o:=by cases e'; exact ⟨rfl,rfl⟩
 have hsr:leP P[k - 1] P[k]:=(List.pairwise_iff_getElem.1 hP.srt) (k - 1) k hk1 hk' (by omega)
 conv=>whnf
 refine ⟨_,cellsAt_row aD (by simp),?_⟩
 conv=>whnf
 refine ⟨((k - 1:Nat):Int),wie (by omega) (by omega),?_⟩
 conv=>whnf
 refine ⟨rfl,⟨by omega,by omega⟩,?_⟩
 conv=>whnf
 refine ⟨[int (P[k - 1]).1,int (P[k - 1]).2],cellsAt_two (hg'.cell hd0) (hg'.cell hd1),?_⟩
 conv=>whnf
 refine CallP.mono (edges_spec P[k] P[k - 1] _) ?_
 rintro rr h2 ⟨⟨c,rfl,hcl,-⟩,hg2⟩
 conv=>whnf
 refine cmpF (fun h=>le_not hsr (hcl.1 h)) ?_
 conv=>whnf
 repeat (refine SeqP.go ?_; conv=>whnf)
 refine ⟨_,wid (by omega),?_⟩
 conv=>whnf
 exact Rnd.mk (k + 1,h2) ⟨by show k + 1≤P.length; omega,hg'.trans hg2⟩ (by show P.length - (k + 1) < P.length - k; omega) ⟨rfl,rfl,rfl,rfl,rfl,trivial⟩ (Hp.Le.refl _) rfl
end
end Go.Proofs.Ythgjnkdealdmoaa
namespace Go.Proofs.Ythgjnkdealdmoaa
open Go.Rx Go.RowKit
theorem at_nx {h:Hp} {r r':Nat} {o:Rx.Obj} (e:r = r') (k:h.at r = some o):h.at r' = some o:=e ▸ k
structure RK (h0 H:Hp) (G C:Nat) (s:List Int×Nat):Prop where
 next:h0.next≤H.next
 at_:∀ r o,r≠G→r≠C→h0.at r = some o→H.at r = some o
 grp:H.at G = some (.row 116 true (s.1.map int))
 cnt:H.at C = some (.row 3 true [int (s.2:Int)])
theorem RK.keep {h0 H H2:Hp} {G C l:Nat} {s:List Int×Nat} (k:RK h0 H G C s) (hG:G < l) (hC:C < l) (hl:h0.next≤l) (kp:Keeps l H H2):RK h0 H2 G C s :=
 ⟨by rw [kp.next]; exact k.next,fun r o h1 h2 e=>kp.at_ _ _ (by have:=Hp.lt_of_at e; omega) (k.at_ r o h1 h2 e),kp.at_ _ _ (by omega) k.grp,kp.at_ _ _ (by omega) k.cnt⟩
theorem RK.ext {h0 H H2:Hp} {G C:Nat} {s:List Int×Nat} (k:RK h0 H G C s) (g:Grows H H2):RK h0 H2 G C s :=
 ⟨Nat.le_trans k.next g.next,fun r o h1 h2 e=>g.at_ _ _ (k.at_ r o h1 h2 e),g.at_ _ _ k.grp,g.at_ _ _ k.cnt⟩
theorem RK.grows {h h0 H:Hp} {G C:Nat} {s:List Int×Nat} (k:RK h0 H G C s) (g:Grows h h0) (hG:h.next≤G) (hC:h.next≤C):Grows h H :=
 ⟨Nat.le_trans g.next k.next,fun r o e=>k.at_ r o (by have:=Hp.lt_of_at e; omega) (by have:=Hp.lt_of_at e; omega) (g.at_ _ _ e)⟩
end Go.Proofs.Ythgjnkdealdmoaa
namespace Go.Proofs.Ythgjnkdealdmoaa
/-! Nodes that are reached along directed edges. -/
def stp (X:Nat→Bool) (e:Nat×Nat):Nat→Bool:=fun w=>X w || (w == e.2 && X e.1)
def rnd (A:List (Nat×Nat)) (X:Nat→Bool):Nat→Bool:=A.foldl stp X
def rnds (A:List (Nat×Nat)):Nat→(Nat→Bool)→Nat→Bool
 | 0,X=>X
 | k + 1,X=>rnd A (rnds A k X)
inductive Rch (A:List (Nat×Nat)):Nat→Nat→Prop
 | refl (a:Nat):Rch A a a
 | tail {a b c:Nat}:Rch A a b→(b,c) ∈ A→Rch A a c
theorem stp_le {X:Nat→Bool} {e:Nat×Nat} {w:Nat} (h:X w = true):stp X e w = true:=by unfold stp; rw [h]; rfl
theorem rnd_le:∀ {A:List (Nat×Nat)} {X:Nat→Bool} {w:Nat},X w = true→rnd A X w = true
 | [],_,_,h=>h
 | e :: A,X,w,h=>rnd_le (A:=A) (X:=stp X e) (stp_le h)
theorem rnd_edge:∀ {A:List (Nat×Nat)} {X:Nat→Bool} {e:Nat×Nat},e ∈ A→X e.1 = true→rnd A X e.2 = true
 | f :: A,X,e,he,h=>by
  show rnd A (stp X f) e.2 = true
  rcases List.mem_cons.1 he with rfl | he
  ·exact rnd_le (by unfold stp; rw [h]; simp)
  ·exact rnd_edge he (stp_le h)
theorem rnd_sound (P:Nat→Prop):∀ {A:List (Nat×Nat)} {X:Nat→Bool},(∀ w,X w = true→P w)→(∀ e ∈ A,P e.1→P e.2)→∀ w,rnd A X w = true→P w
 | [],X,hX,_,w,h=>hX w h
 | e :: A,X,hX,hA,w,h=>by
  refine rnd_sound P (A:=A) (X:=stp X e) ?_ (fun f hf=>hA f (by simp [hf])) w h
  intro v hv
  unfold stp at hv
  rw [Bool.or_eq_true,Bool.and_eq_true,beq_iff_eq] at hv
  rcases hv with hv | ⟨rfl,hv⟩
  ·exact hX v hv
  ·exact hA e (by simp) (hX _ hv)
theorem rnd_in {A:List (Nat×Nat)} {n:Nat} (hA:∀ e ∈ A,e.1 < n∧e.2 < n) {X:Nat→Bool} (hX:∀ w,X w = true→w < n):∀ w,rnd A X w = true→w < n :=
 rnd_sound (fun w=>w < n) hX fun e he _=>(hA e he).2
theorem rnds_in {A:List (Nat×Nat)} {n:Nat} (hA:∀ e ∈ A,e.1 < n∧e.2 < n) {X:Nat→Bool} (hX:∀ w,X w = true→w < n):∀ k w,rnds A k X w = true→w < n
 | 0,w,h=>hX w h
 | k + 1,w,h=>rnd_in hA (rnds_in hA hX k) w h
def Closed (A:List (Nat×Nat)) (X:Nat→Bool):Prop:=∀ e ∈ A,X e.1 = true→X e.2 = true
theorem rnd_closed {A:List (Nat×Nat)} {X:Nat→Bool} (h:Closed A X) (w:Nat):rnd A X w = X w:=by
 cases hx:X w with
 | true=>exact rnd_le hx
 | false =>
  cases hr:rnd A X w with
  | false=>rfl
  | true =>
   have:=rnd_sound (fun v=>X v = true) (fun _ h=>h) h w hr
   rw [hx] at this
   cases this
def cntX (n:Nat) (X:Nat→Bool):Nat:=((List.range n).filter X).length
theorem cntX_le (n:Nat) (X:Nat→Bool):cntX n X≤n:=by
 unfold cntX
 have:=List.length_filter_le X (List.range n)
 rwa [List.length_range] at this
theorem cntX_succ (n:Nat) (X:Nat→Bool):cntX (n + 1) X = cntX n X + if X n = true then 1 else 0:=by
 unfold cntX
 rw [List.range_succ,List.filter_append,List.length_append]
 cases h:X n <;> simp [h]
theorem cntX_mono {X Y:Nat→Bool} (h:∀ w,X w = true→Y w = true):∀ n,cntX n X≤cntX n Y
 | 0=>Nat.le_refl _
 | n + 1=>by
  rw [cntX_succ,cntX_succ]
  have:=cntX_mono h n
  by_cases hx:X n = true
  ·rw [if_pos hx,if_pos (h n hx)]; omega
  ·rw [if_neg hx]; omega
theorem cntX_lt {X Y:Nat→Bool} (h:∀ w,X w = true→Y w = true) {v:Nat} (hx:X v = false) (hy:Y v = true):∀ n,v < n→cntX n X < cntX n Y
 | 0,hv=>by omega
 | n + 1,hv=>by
  rw [cntX_succ,cntX_succ]
  by_cases e:v = n
  ·subst e
   rw [hx,hy,if_pos rfl,if_neg (by simp)]
   have:=cntX_mono h v
   omega
  ·have:=cntX_lt h hx hy n (by omega)
   by_cases hx:X n = true
   ·rw [if_pos hx,if_pos (h n hx)]; omega
   ·rw [if_neg hx]; omega
theorem rnds_le {A:List (Nat×Nat)} {X:Nat→Bool} {w:Nat} (h:X w = true):∀ k,rnds A k X w = true
 | 0=>h
 | k + 1=>rnd_le (rnds_le h k)
theorem rnds_grow {A:List (Nat×Nat)} {n s:Nat} (hA:∀ e ∈ A,e.1 < n∧e.2 < n) (hs:s < n):∀ k,Closed A (rnds A k fun w=>w == s)∨k + 1≤cntX n (rnds A k fun w=>w == s)
 | 0=>by
  refine .inr ?_
  have:=cntX_lt (X:=fun _=>false) (Y:=fun w=>w == s) (by simp) (v:=s) rfl (by simp) n hs
  show 1≤cntX n (fun w=>w == s)
  omega
 | k + 1=>by
  rcases rnds_grow hA hs k with h | h
  ·refine .inl ?_
   have e:rnds A (k + 1) (fun w=>w == s) = rnds A k (fun w=>w == s):=funext fun w=>rnd_closed h w
   rw [e]; exact h
  ·generalize hX:rnds A k (fun w=>w == s) = X at h
   have hXn:∀ w,X w = true→w < n:=by rw [← hX]; exact rnds_in hA (fun w h=>by rw [beq_iff_eq] at h; omega) k
   show Closed A (rnd A (rnds A k _))∨k + 1 + 1≤cntX n (rnd A (rnds A k _))
   rw [hX]
   by_cases hc:Closed A X
   ·refine .inl ?_
    rw [show rnd A X = X from funext fun w=>rnd_closed hc w]; exact hc
   ·unfold Closed at hc
    have hc2:∃ e,e ∈ A∧X e.1 = true∧X e.2 = false:=by
     apply Classical.byContradiction
     intro hn
     refine hc fun e he h1=>?_
     cases h2:X e.2 with
     | true=>rfl
     | false=>exact absurd ⟨e,he,h1,h2⟩ hn
    obtain ⟨e,he,h1,h2⟩:=hc2
    have:=cntX_lt (X:=X) (Y:=rnd A X) (fun w h=>rnd_le h) h2 (rnd_edge he h1) n (hA e he).2
    exact .inr (by omega)
theorem reach_iff {A:List (Nat×Nat)} {n s:Nat} (hA:∀ e ∈ A,e.1 < n∧e.2 < n) (hs:s < n) (w:Nat):rnds A n (fun w=>w == s) w = true↔Rch A s w:=by
 constructor
 ·have:∀ k w,rnds A k (fun w=>w == s) w = true→Rch A s w:=by
   intro k
   induction k with
   | zero=>intro w h; have h:(w == s) = true:=h; rw [beq_iff_eq] at h; subst h; exact .refl _
   | succ k ih=>exact fun w h=>rnd_sound (Rch A s) ih (fun e he h=>.tail h he) w h
  exact this n w
 ·intro h
  have hc:Closed A (rnds A n fun w=>w == s):=by
   rcases rnds_grow hA hs n with h | h
   ·exact h
   ·have:=cntX_le n (rnds A n fun w=>w == s)
    omega
  induction h with
  | refl=>exact rnds_le (by simp) n
  | tail h he ih=>exact hc _ he ih
theorem Rch.head {A:List (Nat×Nat)} {a b c:Nat} (h:(a,b) ∈ A) (k:Rch A b c):Rch A a c:=by
 induction k with
 | refl=>exact .tail (.refl _) h
 | tail _ he ih=>exact .tail ih he
def swp (e:Nat×Nat):Nat×Nat:=(e.2,e.1)
theorem Rch.swap {A:List (Nat×Nat)} {a b:Nat} (h:Rch A a b):Rch (A.map swp) b a:=by
 induction h with
 | refl=>exact .refl _
 | @tail b c _ he ih=>exact .head (List.mem_map.2 ⟨(b,c),he,rfl⟩) ih
theorem Rch.unswap {A:List (Nat×Nat)} {a b:Nat} (h:Rch (A.map swp) b a):Rch A a b:=by
 have:=h.swap
 rw [List.map_map] at this
 have e:A.map (swp ∘ swp) = A:=by
  conv=>rhs; rw [← List.map_id A]
  apply List.map_congr_left
  intro x _; rfl
 rwa [e] at this
def stpO (O:Nat→Nat) (e:Nat×Nat):Nat→Nat:=fun w=>if w = e.1 then O e.1 ||| O e.2 else O w
def rndO (A:List (Nat×Nat)) (O:Nat→Nat):Nat→Nat:=A.foldl stpO O
def rndsO (A:List (Nat×Nat)):Nat→(Nat→Nat)→Nat→Nat
 | 0,O=>O
 | k + 1,O=>rndO A (rndsO A k O)
theorem stpO_col (O:Nat→Nat) (e:Nat×Nat) (v:Nat):(fun w=>(stpO O e w).testBit v) = stp (fun w=>(O w).testBit v) (swp e):=by
 funext w
 unfold stpO stp swp
 dsimp only
 by_cases h:w = e.1
 ·subst h
  rw [if_pos rfl,Nat.testBit_or]; simp
 ·rw [if_neg h]; simp [h]
theorem rndO_col (v:Nat):∀ (A:List (Nat×Nat)) (O:Nat→Nat),(fun w=>(rndO A O w).testBit v) = rnd (A.map swp) (fun w=>(O w).testBit v)
 | [],O=>rfl
 | e :: A,O=>by
  show (fun w=>(rndO A (stpO O e) w).testBit v) = rnd (A.map swp) (stp (fun w=>(O w).testBit v) (swp e))
  rw [rndO_col v A,stpO_col]
theorem rndsO_col (v:Nat) (A:List (Nat×Nat)) (O:Nat→Nat):∀ k,(fun w=>(rndsO A k O w).testBit v) = rnds (A.map swp) k (fun w=>(O w).testBit v)
 | 0=>rfl
 | k + 1=>by
  show (fun w=>(rndO A (rndsO A k O) w).testBit v) = rnd (A.map swp) (rnds (A.map swp) k _)
  rw [rndO_col,rndsO_col v A O k]
theorem one_col (v:Nat):(fun w=>(2 ^ w:Nat).testBit v) = fun w=>w == v:=by
 funext w
 rw [Nat.testBit_two_pow]
 by_cases h:w = v <;> simp [h]
theorem reachO {A:List (Nat×Nat)} {n:Nat} (hA:∀ e ∈ A,e.1 < n∧e.2 < n) {a b:Nat} (ha:a < n):(rndsO A n (fun w=>2 ^ w) b).testBit a = rnds A n (fun w=>w == b) a∨¬ b < n:=by
 by_cases hb:b < n
 ·refine .inl ?_
  have hA':∀ e ∈ A.map swp,e.1 < n∧e.2 < n:=by
   intro e he
   obtain ⟨f,hf,rfl⟩:=List.mem_map.1 he
   exact ⟨(hA f hf).2,(hA f hf).1⟩
  have e1:(rndsO A n (fun w=>2 ^ w) b).testBit a = rnds (A.map swp) n (fun w=>w == a) b:=by
   have:=congrFun (rndsO_col a A (fun w=>2 ^ w) n) b
   rw [one_col] at this
   exact this
  rw [e1]
  have i1:=reach_iff hA' ha b
  have i2:=reach_iff hA hb a
  have i3:Rch (A.map swp) a b↔Rch A b a:=⟨Rch.unswap,Rch.swap⟩
  cases h1:rnds (A.map swp) n (fun w=>w == a) b with
  | true=>exact (i2.2 (i3.1 (i1.1 h1))).symm
  | false =>
   cases h2:rnds A n (fun w=>w == b) a with
   | false=>rfl
   | true=>rw [i1.2 (i3.2 (i2.1 h2))] at h1; cases h1
 ·exact .inr hb
end Go.Proofs.Ythgjnkdealdmoaa
namespace Go.Proofs.Ythgjnkdealdmoaa
open Go.Rx Go.RowKit
def dir (P:List (Int×Int)) (d e:Nat):Nat×Nat:=if d.testBit e = true then ((edg P e).2.toNat,(edg P e).1.toNat) else ((edg P e).1.toNat,(edg P e).2.toNat)
theorem dir_lt {n:Nat} {P:List (Int×Int)} (hP:NetOk n P) (d:Nat) {e:Nat} (he:e < P.length):(dir P d e).1 < n∧(dir P d e).2 < n:=by
 have h:=hP.ok _ (List.getElem_mem he)
 unfold dir
 rw [edg_get he]
 split <;> dsimp only <;> omega
def dirs (P:List (Int×Int)) (d k:Nat):List (Nat×Nat):=(List.range k).map (dir P d)
theorem dirs_succ (P:List (Int×Int)) (d k:Nat):dirs P d (k + 1) = dirs P d k ++ [dir P d k]:=by unfold dirs; rw [List.range_succ,List.map_append]; rfl
theorem dirs_lt {n:Nat} {P:List (Int×Int)} (hP:NetOk n P) (d:Nat) {k:Nat} (hk:k≤P.length):∀ e ∈ dirs P d k,e.1 < n∧e.2 < n:=by
 intro e he
 obtain ⟨j,hj,rfl⟩:=List.mem_map.1 he
 exact dir_lt hP d (by have:=List.mem_range.1 hj; omega)
theorem rndO_succ (P:List (Int×Int)) (d k:Nat) (O:Nat→Nat):rndO (dirs P d (k + 1)) O = stpO (rndO (dirs P d k) O) (dir P d k):=by unfold rndO; rw [dirs_succ,List.foldl_append]; rfl
theorem rnd_succ (P:List (Int×Int)) (d k:Nat) (X:Nat→Bool):rnd (dirs P d (k + 1)) X = stp (rnd (dirs P d k) X) (dir P d k):=by unfold rnd; rw [dirs_succ,List.foldl_append]; rfl
def O64 (O:Nat→Nat):Prop:=∀ w,w < 6→O w < 64
theorem O64.stp {O:Nat→Nat} (h:O64 O) {e:Nat×Nat} (he:e.1 < 6∧e.2 < 6):O64 (stpO O e):=by
 intro w hw
 unfold stpO
 split
 ·exact Nat.or_lt_two_pow (n:=6) (h _ he.1) (h _ he.2)
 ·exact h w hw
theorem O64.rnd:∀ {A:List (Nat×Nat)} {O:Nat→Nat},O64 O→(∀ e ∈ A,e.1 < 6∧e.2 < 6)→O64 (rndO A O)
 | [],_,h,_=>h
 | e :: A,O,h,hA=>O64.rnd (A:=A) (h.stp (hA e (by simp))) fun f hf=>hA f (by simp [hf])
theorem O64.rnds {A:List (Nat×Nat)} {O:Nat→Nat} (h:O64 O) (hA:∀ e ∈ A,e.1 < 6∧e.2 < 6):∀ k,O64 (rndsO A k O)
 | 0=>h
 | k + 1=>(O64.rnds h hA k).rnd hA
theorem O64.one:O64 (fun w=>2 ^ w):=fun w hw=>Nat.lt_of_lt_of_le (Nat.pow_lt_pow_right (by omega) hw) (by decide)
def rowO (O:Nat→Nat):List Value:=rowF 6 fun w=>((O w:Nat):Int)
theorem rowO_len (O:Nat→Nat):(rowO O).length = 6:=rowF_length _ _
theorem rowO_get {O:Nat→Nat} {w:Nat} (h:w < 6):(rowO O)[w]? = some (int ((O w:Nat):Int)):=rowF_get h
theorem rowO_set {O:Nat→Nat} {w v:Nat}:(rowO O).set w (int ((v:Nat):Int)) = rowO (fun j=>if j = w then v else O j):=by
 unfold rowO
 rw [rowF_set]
 refine rowF_congr fun k _=>?_
 dsimp only
 split <;> rfl
theorem rowO_congr {O O':Nat→Nat} (h:∀ w,w < 6→O w = O' w):rowO O = rowO O':=rowF_congr fun k hk=>by rw [h k hk]
theorem rowO_one (O:Nat→Nat):(rowO O).all oneCell = true:=by
 unfold rowO rowF
 rw [List.all_eq_true]
 intro v hv
 obtain ⟨k,_,rfl⟩:=List.mem_map.1 hv
 rfl
structure GO (h H:Hp) (G:Nat) (O:Nat→Nat):Prop where
 next:h.next≤H.next
 at_:∀ r o,r≠G→h.at r = some o→H.at r = some o
 grp:H.at G = some (.row 115 true (rowO O))
theorem GO.start {h:Hp} {G:Nat} {O:Nat→Nat} (k:h.at G = some (.row 115 true (rowO O))):GO h h G O:=⟨Nat.le_refl _,fun _ _ _ e=>e,k⟩
theorem GO.ext {h H H2:Hp} {G:Nat} {O:Nat→Nat} (k:GO h H G O) (g:Grows H H2):GO h H2 G O:=⟨Nat.le_trans k.next g.next,fun r o hr e=>g.at_ _ _ (k.at_ r o hr e),g.at_ _ _ k.grp⟩
theorem GO.cell {h H:Hp} {G:Nat} {O:Nat→Nat} (k:GO h H G O) {j:Nat} (hj:j < 6):cellAt H G (offAt 0 (j:Int).toNat 1) = some (int ((O j:Nat):Int)):=by
 rw [offAt_eq,show 0 + (j:Int).toNat * 1 = j by omega]
 exact cellAt_row k.grp (rowO_get hj)
theorem GO.set {h H:Hp} {G:Nat} {O:Nat→Nat} (k:GO h H G O) {j v:Nat} (hj:j < 6):∃ H',storeAt H G (offAt 0 (j:Int).toNat 1) [int ((v:Nat):Int)] = some H'∧GO h H' G (fun w=>if w = j then v else O w):=by
 rw [offAt_eq,show 0 + (j:Int).toNat * 1 = j by omega,storeAt_row k.grp (by rw [rowO_len]; exact hj) rfl]
 refine ⟨_,rfl,⟨by rw [Hp.next_set]; exact k.next,fun r o hr e=>by rw [Hp.at_set_ne _ hr]; exact k.at_ r o hr e,?_⟩⟩
 rw [Hp.at_set_self _ (Hp.lt_of_at k.grp),rowO_set]
theorem GO.grows {h0 h H:Hp} {G:Nat} {O:Nat→Nat} (k:GO h H G O) (g:Grows h0 h) (hG:h0.next≤G):Grows h0 H:=⟨Nat.le_trans g.next k.next,fun r o e=>k.at_ r o (by have:=Hp.lt_of_at e; omega) (g.at_ _ _ e)⟩
theorem sameV_gval (n:Nat) (a:Option Addr) (l c:Nat):sameV 4 (gval n (.slice a l c)) (gval n (.slice a l c)) = true:=by
 cases a with
 | none=>simp [sameV,sameL,gval,eqI_iff]
 | some a =>
  obtain ⟨b,o,s⟩:=a
  cases s <;> simp [sameV,sameL,gval,eqI_iff]
attribute [local irreducible] E idxN cellAt cellsAt storeAt callable helems hmoved lookIn findKey keyOk hentries Hp.at Hp.set Hp.lay arBits hupdated setAt CallP YieldP BoolOf IsWrap Rnd LoopP AppP CutP Int.tmod Int.tdiv Int.fdiv
section
variable [Unknowns]
attribute [local irreducible] ResP sameAt flat
theorem ends_spec (n:Nat) (P:List (Int×Int)) (hP:NetOk n P) (hl:P.length≤9) (d:Nat) (hd:d < 2 ^ P.length) (e:Nat) (he:e < P.length) (v:Value) (h:Hp) (hv:PairsV h v P) :
  CallP E 114 [gval n v,int e,int d] h (fun r h'=>r = .tuple ⟨[int ((dir P d e).1:Nat),int ((dir P d e).2:Nat)]⟩∧Grows h h'):=by
 obtain ⟨av,cap,rfl,hcv⟩:=id hv
 have hp:=Nat.pow_le_pow_right (n:=2) (by omega) hl
 have hgt:=PairsV.get hv he
 obtain ⟨r,o,c',eP,p0,p1⟩:=hgt
 injection eP with eP1 _ eP2
 subst eP1; subst eP2
 have hok:=hP.ok _ (List.getElem_mem he)
 have g1:=Grows.lay h (.row 83 true [int n,.slice (some ⟨r,o,none⟩) P.length cap])
 have q0:=g1.cell p0
 have q1:=g1.cell p1
 refine enter114 (by simp) ?_
 conv=>whnf
 repeat (refine SeqP.go ?_; conv=>whnf)
 refine ⟨_,cellAt_row (Hp.at_lay_self _ _) rfl,?_⟩
 conv=>whnf
 refine ⟨rfl,⟨by omega,by omega⟩,?_⟩
 conv=>whnf
 refine ⟨[int (P[e]).1,int (P[e]).2],cellsAt_two (by rw [Nat.zero_add] at q0; exact q0) (by rw [Nat.add_comm] at q1; exact q1),?_⟩
 conv=>whnf
 refine ⟨rfl,_,store2,?_⟩
 generalize hH1:h.lay (.row 83 true [int n,.slice (some ⟨r,o,none⟩) P.length cap]) = H1 at g1
 have aD:(H1.lay (.row 79 true [int (P[e]).1,int (P[e]).2])).at H1.next = some (.row 79 true [int (P[e]).1,int (P[e]).2]):=Hp.at_lay_self _ _
 have g2:=g1.then_lay (.row 79 true [int (P[e]).1,int (P[e]).2])
 conv=>whnf
 repeat (refine SeqP.go ?_; conv=>whnf)
 refine CallP.mono (has_spec d e (by omega) (by omega) _) ?_
 rintro rr h2 ⟨rfl,rfl⟩
 cases hb:d.testBit e with
 | true =>
  have e1:dir P d e = ((P[e]).2.toNat,(P[e]).1.toNat):=by unfold dir; rw [if_pos hb,edg_get he]
  conv=>whnf
  repeat (refine SeqP.go ?_; conv=>whnf)
  refine ⟨⟨by omega,by omega⟩,?_⟩
  conv=>whnf
  refine ⟨_,cellAt_row aD rfl,?_⟩
  conv=>whnf
  refine ⟨⟨by omega,by omega⟩,?_⟩
  conv=>whnf
  refine ⟨_,cellAt_row aD rfl,?_⟩
  conv=>whnf
  repeat (refine SeqP.go ?_; conv=>whnf)
  refine ⟨?_,g2⟩
  rw [e1]
  dsimp only
  rw [Int.toNat_of_nonneg (by omega),Int.toNat_of_nonneg (by omega)]
  rfl
 | false =>
  have e1:dir P d e = ((P[e]).1.toNat,(P[e]).2.toNat):=by unfold dir; rw [if_neg (by rw [hb]; simp),edg_get he]
  conv=>whnf
  repeat (refine SeqP.go ?_; conv=>whnf)
  refine ⟨⟨by omega,by omega⟩,?_⟩
  conv=>whnf
  refine ⟨_,cellAt_row aD rfl,?_⟩
  conv=>whnf
  refine ⟨⟨by omega,by omega⟩,?_⟩
  conv=>whnf
  refine ⟨_,cellAt_row aD rfl,?_⟩
  conv=>whnf
  repeat (refine SeqP.go ?_; conv=>whnf)
  refine ⟨?_,g2⟩
  rw [e1]
  dsimp only
  rw [Int.toNat_of_nonneg (by omega),Int.toNat_of_nonneg (by omega)]
  rfl
end
end Go.Proofs.Ythgjnkdealdmoaa
namespace Go.Proofs.Ythgjnkdealdmoaa
open Go.Rx Go.RowKit
theorem ty115:(tiOf Try.prog 115).isSome = true:=by kernel_rfl
theorem sz115:((tiOf Try.prog 115).get ty115).size = 6:=by kernel_rfl
theorem ag115:((tiOf Try.prog 115).get ty115).agg = true:=by kernel_rfl
theorem te115:E.ty 115 = some ((tiOf Try.prog 115).get ty115):=ty_get (by kernel_rfl) (Option.some_get ty115).symm
def begO (k:Nat):Nat→Nat:=fun w=>if w < k then 2 ^ w else 0
theorem begO_set (k:Nat):(fun j=>if j = k then 2 ^ k else begO k j) = begO (k + 1):=by
 funext j
 unfold begO
 by_cases h:j = k
 ·subst h; rw [if_pos rfl,if_pos (by omega)]
 ·rw [if_neg h]
  by_cases h2:j < k
  ·rw [if_pos h2,if_pos (by omega)]
  ·rw [if_neg h2,if_neg (by omega)]
theorem over6 (l:List Value) (h:l.length = 6) (m:List Value) (hm:m.length = 6):over l 0 m = m:=by
 match l,h with
 | [_,_,_,_,_,_],_ =>
  match m,hm with
  | [_,_,_,_,_,_],_=>rfl
attribute [local irreducible] E idxN cellAt cellsAt storeAt callable helems hmoved lookIn findKey keyOk hentries Hp.at Hp.set Hp.lay arBits hupdated setAt CallP YieldP BoolOf IsWrap Rnd LoopP AppP CutP Int.tmod Int.tdiv Int.fdiv
section
variable [Unknowns]
attribute [local irreducible] ResP sameAt flat finP
def rchO (n:Nat) (P:List (Int×Int)) (d:Nat):Nat→Nat:=rndsO (dirs P d P.length) n (fun w=>2 ^ w)
theorem reached_spec (n:Nat) (P:List (Int×Int)) (hP:NetOk n P) (hl:P.length≤9) (d:Nat) (hd:d < 2 ^ P.length) (v:Value) (h:Hp) (hv:PairsV h v P) :
  CallP E 129 [gval n v,int d] h (fun r h'=>r = .agg ⟨rowO (rchO n P d)⟩∧Grows h h'):=by
 obtain ⟨av,cap,rfl,hcv⟩:=id hv
 have hn:=hP.n1
 refine enter129 (by simp) ?_
 conv=>whnf
 refine SeqP.go ?_
 conv=>whnf
 generalize hH0:h.lay (.row 83 true [int n,.slice av P.length cap]) = H0
 have a83:H0.at h.next = some (.row 83 true [int n,.slice av P.length cap]):=by rw [← hH0]; exact Hp.at_lay_self _ _
 have g0:Grows h H0:=by rw [← hH0]; exact Grows.lay _ _
 have e1:H0.next = h.next + 1:=by rw [← hH0]; exact Hp.next_lay _ _
 generalize hH1:H0.lay (.row 115 true [int 0,int 0,int 0,int 0,int 0,int 0]) = H1
 have aR:H1.at H0.next = some (.row 115 true [int 0,int 0,int 0,int 0,int 0,int 0]):=by rw [← hH1]; exact Hp.at_lay_self _ _
 have g1:Grows H0 H1:=by rw [← hH1]; exact Grows.lay _ _
 have e2:H1.next = H0.next + 1:=by rw [← hH1]; exact Hp.next_lay _ _
 refine SeqP.cut (α:=Hp) (fun _=>[(4,ptr H0.next 0),(5,ptr H1.next 0),(2,ptr h.next 0),(1,int d)]) (fun s H=>H = s∧GO H1 s H1.next (begO 0)) ?_ ?_
 ·conv=>whnf
  exact ⟨_,⟨rfl,rfl,rfl,rfl,trivial⟩,⟨rfl,(Grows.lay H1 _).next,fun r o hr e=>Hp.at_lay_old _ e,Hp.at_lay_self _ _⟩,rfl⟩
 rintro _ φ H2 ⟨rfl,k2⟩
 conv=>whnf
 refine SeqP.cut (α:=Hp) (fun _=>[(4,ptr H0.next 0),(5,ptr H1.next 0),(2,ptr h.next 0),(1,int d)]) (fun s H=>H = s∧GO H1 s H1.next (begO 6)) ?_ ?_
 ·conv=>whnf
  refine SeqP.go ?_
  conv=>whnf
  refine loop_inv (α:=Nat×Hp) (fun s=>[(10,int s.1),(4,ptr H0.next 0),(5,ptr H1.next 0),(2,ptr h.next 0),(1,int d)]) (fun s=>s.2) (fun s=>s.1≤6∧GO H1 s.2 H1.next (begO s.1)) (fun s=>6 - s.1) (0,H2) ⟨Nat.zero_le _,k2⟩ ⟨rfl,rfl,rfl,rfl,rfl,trivial⟩ (Hp.Le.refl _) ?_
  rintro ⟨k,H⟩ φ ⟨hk,kO⟩
  dsimp only at hk kO ⊢
  conv=>whnf
  refine SeqP.go ?_
  conv=>whnf
  refine cmpB (fun c1=>?_) (fun c1=>?_)
  rotate_left
  ·conv=>whnf
   have:k = 6:=by omega
   subst this
   exact ⟨H,⟨rfl,rfl,rfl,rfl,trivial⟩,⟨rfl,kO⟩,rfl⟩
  have hst:=kO.set (j:=k) (v:=2 ^ k) (by omega)
  obtain ⟨H',hs1,hs2⟩:=hst
  rw [begO_set] at hs2
  conv=>whnf
  refine SeqP.go ?_
  conv=>whnf
  refine SeqP.go ?_
  conv=>whnf
  refine SeqP.go ?_
  conv=>whnf
  refine ⟨by omega,((2 ^ k:Nat):Int),shl_one (by omega),?_⟩
  conv=>whnf
  refine ⟨⟨by omega,by omega⟩,?_⟩
  conv=>whnf
  refine ⟨rfl,H',hs1,?_⟩
  conv=>whnf
  refine ⟨_,wid (by omega),?_⟩
  conv=>whnf
  exact Rnd.mk (k + 1,H') ⟨by show k + 1≤6; omega,hs2⟩ (by show 6 - (k + 1) < 6 - k; omega) ⟨rfl,rfl,rfl,rfl,rfl,trivial⟩ (Hp.Le.refl _) rfl
 rintro _ φ H3 ⟨rfl,k3⟩
 have a83':=g1.at_ _ _ a83
 have hD6:∀ {k:Nat},k≤P.length→∀ e ∈ dirs P d k,e.1 < 6∧e.2 < 6:=fun hk e he=>by have:=dirs_lt hP d hk e he; omega
 have k3:GO H1 H3 H1.next (rndsO (dirs P d P.length) 0 (fun w=>2 ^ w)):=⟨k3.next,k3.at_,by rw [k3.grp]; exact congrArg (fun l=>some (Obj.row 115 true l)) (rowO_congr fun w hw=>by unfold begO; rw [if_pos hw]; rfl)⟩
 conv=>whnf
 refine SeqP.cut (α:=Hp) (fun _=>[(4,ptr H0.next 0),(5,ptr H1.next 0)]) (fun s H=>H = s∧GO H1 s H1.next (rchO n P d)) ?_ ?_
 ·conv=>whnf
  refine SeqP.go ?_
  conv=>whnf
  refine ⟨_,cellAt_row (k3.at_ _ _ (by omega) a83') rfl,?_⟩
  conv=>whnf
  refine loop_inv (α:=Nat×Hp) (fun s=>[(20,int s.1),(19,int n),(4,ptr H0.next 0),(5,ptr H1.next 0),(2,ptr h.next 0),(1,int d)]) (fun s=>s.2) (fun s=>s.1≤n∧GO H1 s.2 H1.next (rndsO (dirs P d P.length) s.1 (fun w=>2 ^ w))) (fun s=>n - s.1) (0,H3) ⟨Nat.zero_le _,k3⟩ ⟨rfl,rfl,rfl,rfl,rfl,rfl,trivial⟩ (Hp.Le.refl _) ?_
  rintro ⟨k,H⟩ φ ⟨hk,kO⟩
  dsimp only at hk kO ⊢
  conv=>whnf
  refine SeqP.go ?_
  conv=>whnf
  refine cmpB (fun c1=>?_) (fun c1=>?_)
  rotate_left
  ·conv=>whnf
   have:k = n:=by omega
   subst this
   exact ⟨H,⟨rfl,rfl,trivial⟩,⟨rfl,kO⟩,rfl⟩
  have hO:=O64.one.rnds (hD6 (Nat.le_refl _)) k
  generalize hOe:rndsO (dirs P d P.length) k (fun w=>2 ^ w) = O at kO hO
  have hnext:rndsO (dirs P d P.length) (k + 1) (fun w=>2 ^ w) = rndO (dirs P d P.length) O:=by rw [← hOe]; rfl
  conv=>whnf
  refine SeqP.go ?_
  conv=>whnf
  refine SeqP.go ?_
  conv=>whnf
  refine ⟨_,cellAt_row (kO.at_ _ _ (by omega) a83') rfl,?_⟩
  conv=>whnf
  refine loop_inv (α:=Nat×Hp) (fun s=>[(25,int s.1),(24,int P.length),(20,int k),(19,int n),(4,ptr H0.next 0),(5,ptr H1.next 0),(2,ptr h.next 0),(1,int d)]) (fun s=>s.2) (fun s=>s.1≤P.length∧GO H1 s.2 H1.next (rndO (dirs P d s.1) O)) (fun s=>P.length - s.1) (0,H) ⟨Nat.zero_le _,kO⟩ ⟨rfl,rfl,rfl,rfl,rfl,rfl,rfl,rfl,trivial⟩ (Hp.Le.refl _) ?_
  rintro ⟨j,H5⟩ φ ⟨hj,kj⟩
  dsimp only at hj kj ⊢
  conv=>whnf
  refine SeqP.go ?_
  conv=>whnf
  refine cmpB (fun c2=>?_) (fun c2=>?_)
  rotate_left
  ·conv=>whnf
   have:j = P.length:=by omega
   subst this
   refine ⟨_,wid (by omega),?_⟩
   conv=>whnf
   exact Rnd.mk (k + 1,H5) ⟨by show k + 1≤n; omega,by rw [hnext]; exact kj⟩ (by show n - (k + 1) < n - k; omega) ⟨rfl,rfl,rfl,rfl,rfl,rfl,trivial⟩ (Hp.Le.refl _) rfl
  have hj':j < P.length:=by omega
  have hlt:=dir_lt hP d hj'
  have hOj:=hO.rnd (hD6 hj)
  have hsuc:=rndO_succ P d j O
  generalize rndO (dirs P d j) O = Oj at kj hOj hsuc
  conv=>whnf
  refine SeqP.go ?_
  conv=>whnf
  refine SeqP.go ?_
  conv=>whnf
  refine SeqP.go ?_
  conv=>whnf
  refine ⟨_,cellsAt_row (kj.at_ _ _ (by omega) a83') (by simp),?_⟩
  conv=>whnf
  refine CallP.mono (ends_spec n P hP hl d hd j hj' _ H5 (hv.ext ((kj.grows (g0.trans g1) (by omega))))) ?_
  rintro r H6 ⟨rfl,g6⟩
  generalize hee:dir P d j = ee at hlt hsuc
  have k6:=kj.ext g6
  have b1:=hOj ee.1 (by omega)
  have b2:=hOj ee.2 (by omega)
  have hor:=bits_or (a:=Oj ee.1) (b:=Oj ee.2) (by omega) (by omega)
  have hst:=k6.set (j:=ee.1) (v:=Oj ee.1 ||| Oj ee.2) (by omega)
  obtain ⟨H',hs1,hs2⟩:=hst
  have hs2:GO H1 H' H1.next (rndO (dirs P d (j + 1)) O):=by rw [hsuc]; exact hs2
  have c1:=k6.cell (j:=ee.1) (by omega)
  have c2:=k6.cell (j:=ee.2) (by omega)
  conv=>whnf
  repeat (refine SeqP.go ?_; conv=>whnf)
  refine ⟨⟨by omega,by omega⟩,?_⟩
  conv=>whnf
  refine ⟨_,c1,?_⟩
  conv=>whnf
  refine ⟨⟨by omega,by omega⟩,?_⟩
  conv=>whnf
  refine ⟨_,c2,?_⟩
  conv=>whnf
  refine ⟨⟨by omega,by omega⟩,?_⟩
  conv=>whnf
  refine ⟨rfl,H',by rw [← hor] at hs1; exact hs1,?_⟩
  conv=>whnf
  refine ⟨_,wid (by omega),?_⟩
  conv=>whnf
  exact Rnd.mk (j + 1,H') ⟨by show j + 1≤P.length; omega,hs2⟩ (by show P.length - (j + 1) < P.length - j; omega) ⟨rfl,rfl,rfl,rfl,rfl,rfl,rfl,rfl,trivial⟩ (Hp.Le.refl _) rfl
 rintro _ φ H7 ⟨rfl,k7⟩
 have a7:=k7.at_ _ _ (by omega) aR
 conv=>whnf
 repeat (refine SeqP.go ?_; conv=>whnf)
 refine ⟨_,cellsAt_row k7.grp (by rw [rowO_len]; omega),?_⟩
 conv=>whnf
 have et:((rowO (rchO n P d)).drop 0).take 6 = rowO (rchO n P d):=by rw [List.drop_zero,List.take_of_length_le (by rw [rowO_len]; omega)]
 refine ⟨rfl,_,storeAt_full (vs:=rowO (rchO n P d)) a7 (by rw [rowO_len]; rfl) (rowO_one _) (over6 _ rfl _ (rowO_len _)),?_⟩
 conv=>whnf
 repeat (refine SeqP.go ?_; conv=>whnf)
 refine leave_cell (r:=H0.next) (o:=0) (cs:=rowO (rchO n P d)) rfl te115 ag115 ?_ ?_
 ·rw [sz115,cellsAt_row (Hp.at_set_self _ (Hp.lt_of_at a7)) (by rw [rowO_len]; omega)]
  exact congrArg some et
 ·exact ⟨rfl,(k7.grows (g0.trans g1) (by omega)).then_set _ (by omega)⟩
end
end Go.Proofs.Ythgjnkdealdmoaa
namespace Go.Proofs.Ythgjnkdealdmoaa
open Go.Rx Go.RowKit
def rg (n:Nat) (P:List (Int×Int)) (d e:Nat):Bool:=rnds (dirs P d P.length) n (fun w=>w == (dir P d e).2) (dir P d e).1
def rings (n:Nat) (P:List (Int×Int)) (d:Nat):Nat→Nat
 | 0=>0
 | k + 1=>if rg n P d k = true then rings n P d k ||| 2 ^ k else rings n P d k
theorem rings_lt (n:Nat) (P:List (Int×Int)) (d:Nat):∀ k,rings n P d k < 2 ^ k
 | 0=>by show 0 < 2 ^ 0; decide
 | k + 1=>by
  have h:=rings_lt n P d k
  have e:2 ^ (k + 1) = 2 ^ k + 2 ^ k:=by rw [Nat.pow_succ]; omega
  unfold rings
  split
  ·exact Nat.or_lt_two_pow (by omega) (by rw [e]; have:=Nat.one_le_two_pow (n:=k); omega)
  ·omega
theorem rg_reach {n:Nat} {P:List (Int×Int)} (hP:NetOk n P) (d:Nat) {e:Nat} (he:e < P.length):(rchO n P d (dir P d e).2).testBit (dir P d e).1 = rg n P d e:=by
 have hl:=dir_lt hP d he
 rcases reachO (dirs_lt hP d (Nat.le_refl _)) (b:=(dir P d e).2) hl.1 with h | h
 ·exact h
 ·exact absurd hl.2 h
theorem rchO_lt {n:Nat} {P:List (Int×Int)} (hP:NetOk n P) (d:Nat):O64 (rchO n P d) :=
 O64.one.rnds (fun e he=>by have:=dirs_lt hP d (Nat.le_refl _) e he; have:=hP.n1; omega) n
theorem storeO {H:Hp} {e:Nat} {O:Nat→Nat} {l:List Value} (hl:l.length = 6):storeAt (H.lay (.row e true l)) H.next 0 (rowO O) = some (H.lay (.row e true (rowO O))):=by
 rw [storeAt_full (vs:=rowO O) (Hp.at_lay_self _ _) (by rw [rowO_len,hl]) (rowO_one _) (over6 _ hl _ (rowO_len _)),Hp.set_lay_self]
theorem sameV_bool (b:Bool):sameV 4 (.bool b) (.bool b) = true:=by cases b <;> rfl
attribute [local irreducible] E idxN cellAt cellsAt storeAt callable helems hmoved lookIn findKey keyOk hentries Hp.at Hp.set Hp.lay arBits hupdated setAt CallP YieldP BoolOf IsWrap Rnd LoopP AppP CutP Int.tmod Int.tdiv Int.fdiv
section
variable [Unknowns]
attribute [local irreducible] ResP sameAt flat
theorem inRings_spec (n:Nat) (P:List (Int×Int)) (hP:NetOk n P) (hl:P.length≤9) (d:Nat) (hd:d < 2 ^ P.length) (v:Value) (h:Hp) (hv:PairsV h v P) :
  CallP E 112 [gval n v,int d] h (fun r h'=>r = int (rings n P d P.length:Nat)∧Grows h h'):=by
 obtain ⟨av,cap,rfl,hcv⟩:=id hv
 have hn:=hP.n1
 have hp:=Nat.pow_le_pow_right (n:=2) (by omega) hl
 refine enter112 (by simp) ?_
 conv=>whnf
 refine SeqP.go ?_
 conv=>whnf
 generalize hH0:h.lay (.row 83 true [int n,.slice av P.length cap]) = H0
 have a83:H0.at h.next = some (.row 83 true [int n,.slice av P.length cap]):=by rw [← hH0]; exact Hp.at_lay_self _ _
 have g0:Grows h H0:=by rw [← hH0]; exact Grows.lay _ _
 refine SeqP.cut (α:=Hp×Nat) (fun s=>[(5,ptr s.2 0),(2,ptr h.next 0),(1,int d)]) (fun s H=>H = s.1∧Grows H0 s.1∧s.1.at s.2 = some (.row 115 true (rowO (rchO n P d)))) ?_ ?_
 ·conv=>whnf
  refine ⟨_,cellsAt_row a83 (by simp),?_⟩
  conv=>whnf
  refine CallP.mono (reached_spec n P hP hl d hd _ H0 (hv.ext g0)) ?_
  rintro r H1 ⟨rfl,g1⟩
  conv=>whnf
  refine ⟨rfl,_,storeO rfl,?_⟩
  conv=>whnf
  exact ⟨(_,H1.next),⟨rfl,rfl,rfl,trivial⟩,⟨rfl,g1.then_lay _,Hp.at_lay_self _ _⟩,rfl⟩
 rintro ⟨_,G⟩ φ H1 ⟨rfl,g1,aG⟩
 dsimp only at g1 aG ⊢
 have g01:=g0.trans g1
 conv=>whnf
 refine SeqP.go ?_
 conv=>whnf
 refine SeqP.cut (α:=Hp) (fun _=>[(6,int (rings n P d P.length:Nat))]) (fun s H=>H = s∧Grows H1 s) ?_ ?_
 ·conv=>whnf
  refine SeqP.go ?_
  conv=>whnf
  refine ⟨_,cellAt_row (g1.at_ _ _ a83) rfl,?_⟩
  conv=>whnf
  refine loop_inv (α:=Nat×Hp) (fun s=>[(16,int s.1),(6,int (rings n P d s.1:Nat)),(15,int P.length),(5,ptr G 0),(2,ptr h.next 0),(1,int d)]) (fun s=>s.2) (fun s=>s.1≤P.length∧Grows H1 s.2) (fun s=>P.length - s.1) (0,H1) ⟨Nat.zero_le _,.refl _⟩ ⟨rfl,rfl,rfl,rfl,rfl,rfl,trivial⟩ (Hp.Le.refl _) ?_
  rintro ⟨k,H⟩ φ ⟨hk,gk⟩
  dsimp only at hk gk ⊢
  conv=>whnf
  refine SeqP.go ?_
  conv=>whnf
  refine cmpB (fun c1=>?_) (fun c1=>?_)
  rotate_left
  ·conv=>whnf
   have:k = P.length:=by omega
   subst this
   exact ⟨H,⟨rfl,trivial⟩,⟨rfl,gk⟩,rfl⟩
  have hk':k < P.length:=by omega
  have hlt:=dir_lt hP d hk'
  have hrl:=rings_lt n P d k
  have hpk:=Nat.pow_le_pow_right (n:=2) (by omega) hk
  have hrg:=rg_reach hP d hk'
  have h64:=rchO_lt hP d (dir P d k).2 (by omega)
  conv=>whnf
  refine SeqP.go ?_
  conv=>whnf
  refine SeqP.go ?_
  conv=>whnf
  refine SeqP.go ?_
  conv=>whnf
  refine ⟨_,cellsAt_row (gk.at_ _ _ (g1.at_ _ _ a83)) (by simp),?_⟩
  conv=>whnf
  refine CallP.mono (ends_spec n P hP hl d hd k hk' _ H (hv.ext (g01.trans gk))) ?_
  rintro r H6 ⟨rfl,g6⟩
  have k6:=gk.trans g6
  have hc:=(GO.start (k6.at_ _ _ aG)).cell (j:=(dir P d k).2) (by omega)
  conv=>whnf
  refine SeqP.go ?_
  conv=>whnf
  refine ⟨⟨by omega,by omega⟩,?_⟩
  conv=>whnf
  refine ⟨_,hc,?_⟩
  conv=>whnf
  refine CallP.mono (has_spec _ (dir P d k).1 (by omega) (by omega) _) ?_
  rintro rr h2 ⟨rfl,rfl⟩
  rw [hrg]
  have eR:rings n P d (k + 1) = if rg n P d k = true then rings n P d k ||| 2 ^ k else rings n P d k:=rfl
  cases hb:rg n P d k with
  | true =>
   rw [hb,if_pos rfl] at eR
   have hor:=bits_or (a:=rings n P d k) (b:=2 ^ k) (by omega) (by omega)
   conv=>whnf
   refine ⟨by omega,((2 ^ k:Nat):Int),shl_one (by omega),?_⟩
   conv=>whnf
   refine ⟨_,wid (by omega),?_⟩
   conv=>whnf
   exact Rnd.mk (k + 1,h2) ⟨by show k + 1≤P.length; omega,k6⟩ (by show P.length - (k + 1) < P.length - k; omega) ⟨rfl,by rw [eR]; exact congrArg (Value.int .i64) hor,rfl,rfl,rfl,rfl,trivial⟩ (Hp.Le.refl _) rfl
  | false =>
   rw [hb,if_neg (by simp)] at eR
   conv=>whnf
   refine ⟨_,wid (by omega),?_⟩
   conv=>whnf
   exact Rnd.mk (k + 1,h2) ⟨by show k + 1≤P.length; omega,k6⟩ (by show P.length - (k + 1) < P.length - k; omega) ⟨rfl,by rw [eR]; rfl,rfl,rfl,rfl,rfl,trivial⟩ (Hp.Le.refl _) rfl
 rintro _ φ H7 ⟨rfl,g7⟩
 conv=>whnf
 repeat (refine SeqP.go ?_; conv=>whnf)
 exact ⟨rfl,g01.trans g7⟩
theorem isAcyclic_spec (n:Nat) (P:List (Int×Int)) (hP:NetOk n P) (hl:P.length≤9) (d:Nat) (hd:d < 2 ^ P.length) (v:Value) (h:Hp) (hv:PairsV h v P) :
  CallP E 80 [gval n v,int d] h (fun r h'=>r = .bool (rings n P d P.length == 0)∧Grows h h'):=by
 obtain ⟨av,cap,rfl,hcv⟩:=id hv
 have g0:=Grows.lay h (.row 83 true [int n,.slice av P.length cap])
 refine enter80 (by simp) ?_
 conv=>whnf
 refine SeqP.go ?_
 conv=>whnf
 refine SeqP.go ?_
 conv=>whnf
 refine ⟨_,cellsAt_row (Hp.at_lay_self _ _) (by simp),?_⟩
 conv=>whnf
 refine CallP.mono (inRings_spec n P hP hl d hd _ _ (hv.ext g0)) ?_
 rintro r H1 ⟨rfl,g1⟩
 conv=>whnf
 refine cmpB (fun c1=>?_) (fun c1=>?_)
 ·conv=>whnf
  repeat (refine SeqP.go ?_; conv=>whnf)
  exact ⟨by rw [show rings n P d P.length = 0 by omega]; rfl,g0.trans g1⟩
 ·conv=>whnf
  repeat (refine SeqP.go ?_; conv=>whnf)
  refine ⟨?_,g0.trans g1⟩
  rw [show (rings n P d P.length == 0) = false by rw [beq_eq_false_iff_ne]; omega]
  rfl
end
end Go.Proofs.Ythgjnkdealdmoaa
namespace Go.Proofs.Ythgjnkdealdmoaa
open Go.Rx Go.RowKit
attribute [local irreducible] E idxN cellAt cellsAt storeAt callable helems hmoved lookIn findKey keyOk hentries Hp.at Hp.set Hp.lay arBits hupdated setAt CallP YieldP BoolOf IsWrap Rnd LoopP AppP CutP Int.tmod Int.tdiv Int.fdiv
section
variable [Unknowns]
attribute [local irreducible] ResP sameAt flat
theorem isRound_spec (n:Nat) (P:List (Int×Int)) (hP:NetOk n P) (hl:P.length≤9) (d:Nat) (hd:d < 2 ^ P.length) (v:Value) (h:Hp) (hv:PairsV h v P) :
  CallP E 81 [gval n v,int d] h (fun r h'=>r = .bool (rings n P d P.length == 2 ^ P.length - 1)∧Grows h h'):=by
 obtain ⟨av,cap,rfl,hcv⟩:=id hv
 have hp1:=Nat.one_le_two_pow (n:=P.length)
 refine enter81 (by simp) ?_
 conv=>whnf
 refine SeqP.go ?_
 conv=>whnf
 generalize hH0:h.lay (.row 83 true [int n,.slice av P.length cap]) = H0
 have a83:H0.at h.next = some (.row 83 true [int n,.slice av P.length cap]):=by rw [← hH0]; exact Hp.at_lay_self _ _
 have g0:Grows h H0:=by rw [← hH0]; exact Grows.lay _ _
 have c0:cellsAt H0 h.next 0 2 = some [int n,.slice av P.length cap]:=cellsAt_row a83 (by simp)
 have hsg:=sameV_gval n av P.length cap
 refine SeqP.go ?_
 conv=>whnf
 refine ⟨_,c0,?_⟩
 conv=>whnf
 refine CallP.mono (inRings_spec n P hP hl d hd _ _ (hv.ext g0)) ?_
 rintro r H1 ⟨rfl,g1⟩
 have c1:cellsAt H1 h.next 0 2 = some [int n,.slice av P.length cap]:=g1.cells c0
 conv=>whnf
 refine ⟨_,c1,?_⟩
 conv=>whnf
 refine CallP.mono (all_spec n P hl _ _ ((hv.ext g0).ext g1)) ?_
 rintro r H2 ⟨rfl,g2⟩
 have hp9:=Nat.pow_le_pow_right (n:=2) (by omega) hl
 conv=>whnf
 refine cmpB (fun hb=>?_) (fun hb=>?_)
 ·have e:(rings n P d P.length == 2 ^ P.length - 1) = true:=by rw [beq_iff_eq]; omega
  conv=>whnf
  refine ⟨?_,?_⟩
  rotate_left
  ·conv=>whnf
   repeat (refine SeqP.go ?_; conv=>whnf)
   exact ⟨by rw [e]; rfl,(g0.trans g1).trans g2⟩
  repeat' (first | exact True.intro | (refine And.intro ?_ ?_ <;> (conv=>whnf)))
  all_goals first
   | exact sameAt_val (h2:=_) rfl (sameV_int _)
   | exact sameAt_val (h2:=_) rfl (sameV_bool _)
   | exact sameAt_val (h2:=_) (congrArg (fun x=>hval _ (aggOf x)) c0) hsg
   | exact sameAt_val (h2:=_) (congrArg (fun x=>hval _ (aggOf x)) c1) hsg
   | exact sameAt_val (h2:=_) (congrArg (fun x=>hval _ (aggOf x)) (g2.cells c1)) hsg
   | exact sameAt_val (h2:=_) (congrArg (fun b=>HRes.val (Value.bool b) _) (decide_eq_true hb)) (sameV_bool _)
 ·have e:(rings n P d P.length == 2 ^ P.length - 1) = false:=by rw [beq_eq_false_iff_ne]; omega
  conv=>whnf
  refine ⟨?_,?_⟩
  rotate_left
  ·conv=>whnf
   repeat (refine SeqP.go ?_; conv=>whnf)
   exact ⟨by rw [e]; rfl,(g0.trans g1).trans g2⟩
  repeat' (first | exact True.intro | (refine And.intro ?_ ?_ <;> (conv=>whnf)))
  all_goals first
   | exact sameAt_val (h2:=_) rfl (sameV_int _)
   | exact sameAt_val (h2:=_) rfl (sameV_bool _)
   | exact sameAt_val (h2:=_) (congrArg (fun x=>hval _ (aggOf x)) c0) hsg
   | exact sameAt_val (h2:=_) (congrArg (fun x=>hval _ (aggOf x)) c1) hsg
   | exact sameAt_val (h2:=_) (congrArg (fun x=>hval _ (aggOf x)) (g2.cells c1)) hsg
   | exact sameAt_val (h2:=_) (congrArg (fun b=>HRes.val (Value.bool b) _) (decide_eq_false hb)) (sameV_bool _)
end
end Go.Proofs.Ythgjnkdealdmoaa
namespace Go.Proofs.Ythgjnkdealdmoaa
open Go.Rx Go.RowKit
def rowB (n:Nat) (X:Nat→Bool):List Value:=rowV n fun w=>.bool (X w)
theorem rowB_len (n:Nat) (X:Nat→Bool):(rowB n X).length = n:=rowV_length _ _
theorem layB_cell {H:Hp} {n j:Nat} {X:Nat→Bool} (hj:j < n):cellAt (H.lay (.row 4 true (rowB n X))) H.next (offAt 0 (j:Int).toNat 1) = some (.bool (X j)):=by
 rw [offAt_eq,show 0 + (j:Int).toNat * 1 = j by omega]
 exact cellAt_row (Hp.at_lay_self _ _) (rowV_get hj)
theorem layB_set {H:Hp} {n j:Nat} {X:Nat→Bool} (hj:j < n):storeAt (H.lay (.row 4 true (rowB n X))) H.next (offAt 0 (j:Int).toNat 1) [.bool true] = some (H.lay (.row 4 true (rowB n fun w=>X w || w == j))):=by
 rw [offAt_eq,show 0 + (j:Int).toNat * 1 = j by omega,storeAt_lay (by rw [rowB_len]; exact hj) rfl]
 unfold rowB
 rw [rowV_set]
 congr 3
 refine rowV_congr fun k _=>?_
 dsimp only
 by_cases e:k = j
 ·subst e; simp
 ·rw [if_neg e]; simp [e]
theorem stp_t {X:Nat→Bool} {e:Nat×Nat} (h:X e.1 = true):stp X e = fun w=>X w || w == e.2:=by funext w; unfold stp; rw [h]; simp
theorem stp_f {X:Nat→Bool} {e:Nat×Nat} (h:X e.1 = false):stp X e = X:=by funext w; unfold stp; rw [h]; simp
attribute [local irreducible] E idxN cellAt cellsAt storeAt callable helems hmoved lookIn findKey keyOk hentries Hp.at Hp.set Hp.lay arBits hupdated setAt CallP YieldP BoolOf IsWrap Rnd LoopP AppP CutP Int.tmod Int.tdiv Int.fdiv
section
variable [Unknowns]
attribute [local irreducible] ResP sameAt flat
theorem Reaches_spec (n:Nat) (P:List (Int×Int)) (hP:NetOk n P) (hl:P.length≤9) (d:Nat) (hd:d < 2 ^ P.length) (a b:Nat) (ha:a < n) (hb:b < n) (v:Value) (h:Hp) (hv:PairsV h v P) :
  CallP E 82 [int n,v,int d,int a,int b] h (fun r h'=>r = .bool (rnds (dirs P d P.length) n (fun w=>w == a) b)∧Grows h h'):=by
 obtain ⟨av,cap,rfl,hcv⟩:=id hv
 have hn:=hP.n1
 have hp:=Nat.pow_le_pow_right (n:=2) (by omega) hl
 refine enter82 (by simp) ?_
 conv=>whnf
 refine SeqP.go ?_
 conv=>whnf
 refine SeqP.go ?_
 conv=>whnf
 refine ⟨⟨by omega,by omega,by omega,by omega⟩,?_⟩
 conv=>whnf
 refine SeqP.go ?_
 conv=>whnf
 refine ⟨rfl,⟨by omega,by omega⟩,?_⟩
 conv=>whnf
 refine ⟨rfl,h.lay (.row 4 true (rowB n fun w=>w == a)),?_,?_⟩
 ·have e:=layB_set (H:=h) (n:=n) (X:=fun _=>false) ha
  have e2:rowB n (fun w=>false || w == a) = rowB n fun w=>w == a:=by congr 1
  rw [e2] at e
  rw [Int.toNat_natCast,Go.Rx.times_one]
  exact e
 conv=>whnf
 refine SeqP.cut (α:=Unit) (fun _=>[(11,slc h.next 0 n n),(4,int b)]) (fun _ H=>H = h.lay (.row 4 true (rowB n (rnds (dirs P d P.length) n fun w=>w == a)))) ?_ ?_
 ·conv=>whnf
  refine SeqP.go ?_
  conv=>whnf
  refine loop_inv (α:=Nat×Hp) (fun s=>[(12,int s.1),(11,slc h.next 0 n n),(0,int n),(1,.slice av P.length cap),(2,int d),(4,int b)]) (fun s=>s.2) (fun s=>s.1≤n∧s.2 = h.lay (.row 4 true (rowB n (rnds (dirs P d P.length) s.1 fun w=>w == a)))) (fun s=>n - s.1) (0,_) ⟨Nat.zero_le _,rfl⟩ ⟨rfl,rfl,rfl,rfl,rfl,rfl,trivial⟩ (Hp.Le.refl _) ?_
  rintro ⟨k,H⟩ φ ⟨hk,hH⟩
  dsimp only at hk hH ⊢
  conv=>whnf
  refine SeqP.go ?_
  conv=>whnf
  refine SeqP.go ?_
  conv=>whnf
  refine cmpB (fun c1=>?_) (fun c1=>?_)
  rotate_left
  ·conv=>whnf
   have:k = n:=by omega
   subst this
   exact ⟨(),⟨rfl,rfl,trivial⟩,hH,rfl⟩
  generalize hXe:rnds (dirs P d P.length) k (fun w=>w == a) = X at hH
  have hnext:rnds (dirs P d P.length) (k + 1) (fun w=>w == a) = rnd (dirs P d P.length) X:=by rw [← hXe]; rfl
  conv=>whnf
  refine SeqP.go ?_
  conv=>whnf
  refine SeqP.go ?_
  conv=>whnf
  refine loop_inv (α:=Nat×Hp) (fun s=>[(13,int s.1),(12,int k),(11,slc h.next 0 n n),(0,int n),(1,.slice av P.length cap),(2,int d),(4,int b)]) (fun s=>s.2) (fun s=>s.1≤P.length∧s.2 = h.lay (.row 4 true (rowB n (rnd (dirs P d s.1) X)))) (fun s=>P.length - s.1) (0,H) ⟨Nat.zero_le _,hH⟩ ⟨rfl,rfl,rfl,rfl,rfl,rfl,rfl,trivial⟩ (Hp.Le.refl _) ?_
  rintro ⟨j,H2⟩ φ ⟨hj,hH2⟩
  dsimp only at hj hH2 ⊢
  conv=>whnf
  refine SeqP.go ?_
  conv=>whnf
  refine SeqP.go ?_
  conv=>whnf
  refine cmpB (fun c2=>?_) (fun c2=>?_)
  rotate_left
  ·conv=>whnf
   have:j = P.length:=by omega
   subst this
   refine ⟨_,wid (by omega),?_⟩
   conv=>whnf
   exact Rnd.mk (k + 1,H2) ⟨by show k + 1≤n; omega,by rw [hnext]; exact hH2⟩ (by show n - (k + 1) < n - k; omega) ⟨rfl,rfl,rfl,rfl,rfl,rfl,trivial⟩ (Hp.Le.refl _) rfl
  have hj':j < P.length:=by omega
  have hlt:=dir_lt hP d hj'
  have hsuc:=rnd_succ P d j X
  generalize rnd (dirs P d j) X = Y at hH2 hsuc
  have gr:Grows h H2:=by rw [hH2]; exact Grows.lay _ _
  have hgt:=PairsV.get hv hj'
  obtain ⟨r,o,c',eP,p0,p1⟩:=hgt
  injection eP with eP1 _ eP2
  subst eP1; subst eP2
  have q0:=gr.cell p0
  have q1:=gr.cell p1
  have hok:=hP.ok _ (List.getElem_mem hj')
  have esh:=shr_nat (a:=d) (k:=j) (by omega)
  have hle:d >>> j≤d:=by rw [Nat.shiftRight_eq_div_pow]; exact Nat.div_le_self _ _
  have ca:cellAt H2 h.next (offAt 0 (((dir P d j).1:Nat):Int).toNat 1) = some (.bool (Y (dir P d j).1)):=by rw [hH2]; exact layB_cell hlt.1
  have cs:=layB_set (H:=h) (n:=n) (X:=Y) hlt.2
  rw [← hH2] at cs
  conv=>whnf
  refine SeqP.go ?_
  conv=>whnf
  refine SeqP.go ?_
  conv=>whnf
  refine ⟨rfl,⟨by omega,by omega⟩,?_⟩
  conv=>whnf
  refine ⟨⟨by omega,by omega⟩,?_⟩
  conv=>whnf
  refine ⟨_,q0,?_⟩
  conv=>whnf
  refine ⟨rfl,⟨by omega,by omega⟩,?_⟩
  conv=>whnf
  refine ⟨⟨by omega,by omega⟩,?_⟩
  conv=>whnf
  refine ⟨_,q1,?_⟩
  conv=>whnf
  refine SeqP.cut (α:=Unit) (fun _=>[(14,int ((dir P d j).1:Nat)),(15,int ((dir P d j).2:Nat)),(13,int j),(12,int k),(11,slc h.next 0 n n),(0,int n),(1,.slice (some ⟨r,o,none⟩) P.length cap),(2,int d),(4,int b)]) (fun _ h'=>h' = H2) ?_ ?_
  ·conv=>whnf
   repeat (refine SeqP.go ?_; conv=>whnf)
   refine ⟨by omega,?_⟩
   conv=>whnf
   refine ⟨by omega,?_⟩
   conv=>whnf
   refine cmpB (fun hb=>?_) (fun hb=>?_)
   ·have hb:((d:Int).fdiv (2 ^ (min (j:Int).toNat 64))).tmod 2 = 1:=hb
    rw [esh,show (2:Int) = ((2:Nat):Int) from rfl,tmod_nat] at hb
    have hbit:d.testBit j = true:=(bit_mod d j).1 (by omega)
    have e1:dir P d j = ((P[j]).2.toNat,(P[j]).1.toNat):=by unfold dir; rw [if_pos hbit,edg_get hj']
    conv=>whnf
    refine ⟨(),⟨?_,?_,rfl,rfl,rfl,rfl,rfl,rfl,rfl,trivial⟩,rfl,rfl⟩
    ·rw [e1]; dsimp only; rw [Int.toNat_of_nonneg (by omega)]; rfl
    ·rw [e1]; dsimp only; rw [Int.toNat_of_nonneg (by omega)]; rfl
   ·have hb:¬ ((d:Int).fdiv (2 ^ (min (j:Int).toNat 64))).tmod 2 = 1:=hb
    rw [esh,show (2:Int) = ((2:Nat):Int) from rfl,tmod_nat] at hb
    have hbit:¬ d.testBit j = true:=fun hx=>by have:=(bit_mod d j).2 hx; omega
    have e1:dir P d j = ((P[j]).1.toNat,(P[j]).2.toNat):=by unfold dir; rw [if_neg hbit,edg_get hj']
    conv=>whnf
    refine ⟨(),⟨?_,?_,rfl,rfl,rfl,rfl,rfl,rfl,rfl,trivial⟩,rfl,rfl⟩
    ·rw [e1]; dsimp only; rw [Int.toNat_of_nonneg (by omega)]; rfl
    ·rw [e1]; dsimp only; rw [Int.toNat_of_nonneg (by omega)]; rfl
  rintro _ φ H2 rfl
  conv=>whnf
  refine SeqP.go ?_
  conv=>whnf
  refine ⟨rfl,⟨by omega,by omega⟩,?_⟩
  conv=>whnf
  refine ⟨_,ca,?_⟩
  conv=>whnf
  cases hY:Y (dir P d j).1 with
  | true =>
   rw [stp_t hY] at hsuc
   conv=>whnf
   refine ⟨rfl,⟨by omega,by omega⟩,?_⟩
   conv=>whnf
   refine ⟨rfl,_,cs,?_⟩
   conv=>whnf
   refine ⟨_,wid (by omega),?_⟩
   conv=>whnf
   exact Rnd.mk (j + 1,_) ⟨by show j + 1≤P.length; omega,by rw [hsuc]⟩ (by show P.length - (j + 1) < P.length - j; omega) ⟨rfl,rfl,rfl,rfl,rfl,rfl,rfl,trivial⟩ (Hp.Le.refl _) rfl
  | false =>
   rw [stp_f hY] at hsuc
   conv=>whnf
   refine ⟨_,wid (by omega),?_⟩
   conv=>whnf
   exact Rnd.mk (j + 1,H2) ⟨by show j + 1≤P.length; omega,by rw [hsuc]; exact hH2⟩ (by show P.length - (j + 1) < P.length - j; omega) ⟨rfl,rfl,rfl,rfl,rfl,rfl,rfl,trivial⟩ (Hp.Le.refl _) rfl
 rintro _ φ _ rfl
 conv=>whnf
 repeat (refine SeqP.go ?_; conv=>whnf)
 refine ⟨rfl,⟨by omega,by omega⟩,?_⟩
 conv=>whnf
 refine ⟨_,layB_cell hb,?_⟩
 conv=>whnf
 repeat (refine SeqP.go ?_; conv=>whnf)
 exact ⟨rfl,Grows.lay _ _⟩
end
end Go.Proofs.Ythgjnkdealdmoaa
namespace Go.Proofs.Ythgjnkdealdmoaa
open Go.Rx Go.RowKit
attribute [local irreducible] E idxN cellAt cellsAt storeAt callable helems hmoved lookIn findKey keyOk hentries Hp.at Hp.set Hp.lay arBits hupdated setAt CallP YieldP BoolOf IsWrap Rnd LoopP AppP CutP Int.tmod Int.tdiv Int.fdiv
section
variable [Unknowns]
attribute [local irreducible] ResP sameAt flat
theorem Rings_spec (n:Nat) (P:List (Int×Int)) (hP:NetOk n P) (hl:P.length≤9) (d:Nat) (hd:d < 2 ^ P.length) (v:Value) (h:Hp) (hv:PairsV h v P) :
  CallP E 39 [int n,v,int d] h (fun r h'=>r = int (rings n P d P.length:Nat)∧Grows h h'):=by
 obtain ⟨av,cap,rfl,hcv⟩:=id hv
 have hn:=hP.n1
 have hp:=Nat.pow_le_pow_right (n:=2) (by omega) hl
 refine enter39 (by simp) ?_
 conv=>whnf
 refine SeqP.go ?_
 conv=>whnf
 refine SeqP.go ?_
 conv=>whnf
 refine SeqP.cut (α:=Hp) (fun _=>[(7,int (rings n P d P.length:Nat))]) (fun s H=>H = s∧Grows h s) ?_ ?_
 ·conv=>whnf
  refine SeqP.go ?_
  conv=>whnf
  refine loop_inv (α:=Nat×Hp) (fun s=>[(8,int s.1),(7,int (rings n P d s.1:Nat)),(0,int n),(1,.slice av P.length cap),(2,int d)]) (fun s=>s.2) (fun s=>s.1≤P.length∧Grows h s.2) (fun s=>P.length - s.1) (0,h) ⟨Nat.zero_le _,.refl _⟩ ⟨rfl,rfl,rfl,rfl,rfl,trivial⟩ (Hp.Le.refl _) ?_
  rintro ⟨j,H2⟩ φ ⟨hj,gj⟩
  dsimp only at hj gj ⊢
  conv=>whnf
  refine SeqP.go ?_
  conv=>whnf
  refine SeqP.go ?_
  conv=>whnf
  refine cmpB (fun c2=>?_) (fun c2=>?_)
  rotate_left
  ·conv=>whnf
   have:j = P.length:=by omega
   subst this
   exact ⟨H2,⟨rfl,trivial⟩,⟨rfl,gj⟩,rfl⟩
  have hj':j < P.length:=by omega
  have hlt:=dir_lt hP d hj'
  have hgt:=PairsV.get hv hj'
  obtain ⟨r,o,c',eP,p0,p1⟩:=hgt
  injection eP with eP1 _ eP2
  subst eP1; subst eP2
  have q0:=gj.cell p0
  have q1:=gj.cell p1
  have hok:=hP.ok _ (List.getElem_mem hj')
  have esh:=shr_nat (a:=d) (k:=j) (by omega)
  have hle:d >>> j≤d:=by rw [Nat.shiftRight_eq_div_pow]; exact Nat.div_le_self _ _
  have hrl:=rings_lt n P d j
  have hpk:=Nat.pow_le_pow_right (n:=2) (by omega) hj
  conv=>whnf
  refine SeqP.go ?_
  conv=>whnf
  refine SeqP.go ?_
  conv=>whnf
  refine ⟨rfl,⟨by omega,by omega⟩,?_⟩
  conv=>whnf
  refine ⟨⟨by omega,by omega⟩,?_⟩
  conv=>whnf
  refine ⟨_,q0,?_⟩
  conv=>whnf
  refine ⟨rfl,⟨by omega,by omega⟩,?_⟩
  conv=>whnf
  refine ⟨⟨by omega,by omega⟩,?_⟩
  conv=>whnf
  refine ⟨_,q1,?_⟩
  conv=>whnf
  refine SeqP.cut (α:=Unit) (fun _=>[(9,int ((dir P d j).1:Nat)),(10,int ((dir P d j).2:Nat)),(8,int j),(7,int (rings n P d j:Nat)),(0,int n),(1,.slice (some ⟨r,o,none⟩) P.length cap),(2,int d)]) (fun _ h'=>h' = H2) ?_ ?_
  ·conv=>whnf
   repeat (refine SeqP.go ?_; conv=>whnf)
   refine ⟨by omega,?_⟩
   conv=>whnf
   refine ⟨by omega,?_⟩
   conv=>whnf
   refine cmpB (fun hb=>?_) (fun hb=>?_)
   ·have hb:((d:Int).fdiv (2 ^ (min (j:Int).toNat 64))).tmod 2 = 1:=hb
    rw [esh,show (2:Int) = ((2:Nat):Int) from rfl,tmod_nat] at hb
    have hbit:d.testBit j = true:=(bit_mod d j).1 (by omega)
    have e1:dir P d j = ((P[j]).2.toNat,(P[j]).1.toNat):=by unfold dir; rw [if_pos hbit,edg_get hj']
    conv=>whnf
    refine ⟨(),⟨?_,?_,rfl,rfl,rfl,rfl,rfl,trivial⟩,rfl,rfl⟩
    ·rw [e1]; dsimp only; rw [Int.toNat_of_nonneg (by omega)]; rfl
    ·rw [e1]; dsimp only; rw [Int.toNat_of_nonneg (by omega)]; rfl
   ·have hb:¬ ((d:Int).fdiv (2 ^ (min (j:Int).toNat 64))).tmod 2 = 1:=hb
    rw [esh,show (2:Int) = ((2:Nat):Int) from rfl,tmod_nat] at hb
    have hbit:¬ d.testBit j = true:=fun hx=>by have:=(bit_mod d j).2 hx; omega
    have e1:dir P d j = ((P[j]).1.toNat,(P[j]).2.toNat):=by unfold dir; rw [if_neg hbit,edg_get hj']
    conv=>whnf
    refine ⟨(),⟨?_,?_,rfl,rfl,rfl,rfl,rfl,trivial⟩,rfl,rfl⟩
    ·rw [e1]; dsimp only; rw [Int.toNat_of_nonneg (by omega)]; rfl
    ·rw [e1]; dsimp only; rw [Int.toNat_of_nonneg (by omega)]; rfl
  rintro _ φ H2 rfl
  conv=>whnf
  refine SeqP.go ?_
  conv=>whnf
  refine CallP.mono (Reaches_spec n P hP hl d hd (dir P d j).2 (dir P d j).1 hlt.2 hlt.1 _ H2 (hv.ext gj)) ?_
  rintro rr H3 ⟨rfl,g3⟩
  have eR:rings n P d (j + 1) = if rg n P d j = true then rings n P d j ||| 2 ^ j else rings n P d j:=rfl
  have er:rnds (dirs P d P.length) n (fun w=>w == (dir P d j).2) (dir P d j).1 = rg n P d j:=rfl
  rw [er]
  cases hb:rg n P d j with
  | true =>
   rw [hb,if_pos rfl] at eR
   have hor:=bits_or (a:=rings n P d j) (b:=2 ^ j) (by omega) (by omega)
   conv=>whnf
   refine ⟨by omega,((2 ^ j:Nat):Int),shl_one (by omega),?_⟩
   conv=>whnf
   refine ⟨_,wid (by omega),?_⟩
   conv=>whnf
   exact Rnd.mk (j + 1,H3) ⟨by show j + 1≤P.length; omega,gj.trans g3⟩ (by show P.length - (j + 1) < P.length - j; omega) ⟨rfl,by rw [eR]; exact congrArg (Value.int .i64) hor,rfl,rfl,rfl,trivial⟩ (Hp.Le.refl _) rfl
  | false =>
   rw [hb,if_neg (by simp)] at eR
   conv=>whnf
   refine ⟨_,wid (by omega),?_⟩
   conv=>whnf
   exact Rnd.mk (j + 1,H3) ⟨by show j + 1≤P.length; omega,gj.trans g3⟩ (by show P.length - (j + 1) < P.length - j; omega) ⟨rfl,by rw [eR]; rfl,rfl,rfl,rfl,trivial⟩ (Hp.Le.refl _) rfl
 rintro _ φ H7 ⟨rfl,g7⟩
 conv=>whnf
 repeat (refine SeqP.go ?_; conv=>whnf)
 exact ⟨rfl,g7⟩
end
end Go.Proofs.Ythgjnkdealdmoaa
namespace Go.Proofs.Ythgjnkdealdmoaa
open Go.Rx Go.RowKit
theorem bool_eq (x y:Operand) (a b:Bool):aBin E .eql 4 x y (.bool a) (.bool b) = some (.bool (a == b)):=by
 cases a <;> cases b <;> kernel_rfl
end Go.Proofs.Ythgjnkdealdmoaa
namespace Go.Proofs.Ythgjnkdealdmoaa
open Go.Rx Go.RowKit
structure One (h0 H:Hp) (r:Nat) (o:Rx.Obj):Prop where
 next:h0.next≤H.next
 at_:∀ k x,k≠r→h0.at k = some x→H.at k = some x
 obj:H.at r = some o
theorem One.start {h:Hp} {r:Nat} {o:Rx.Obj} (k:h.at r = some o):One h h r o:=⟨Nat.le_refl _,fun _ _ _ e=>e,k⟩
theorem One.ext {h0 H H2:Hp} {r:Nat} {o:Rx.Obj} (k:One h0 H r o) (g:Grows H H2):One h0 H2 r o:=⟨Nat.le_trans k.next g.next,fun i x hr e=>g.at_ _ _ (k.at_ i x hr e),g.at_ _ _ k.obj⟩
theorem One.set {h0 H:Hp} {r:Nat} {o o':Rx.Obj} (k:One h0 H r o):One h0 (H.set r o') r o':=⟨by rw [Hp.next_set]; exact k.next,fun i x hr e=>by rw [Hp.at_set_ne _ hr]; exact k.at_ i x hr e,Hp.at_set_self _ (Hp.lt_of_at k.obj)⟩
theorem One.keep {h0 H H2:Hp} {r l:Nat} {o:Rx.Obj} (k:One h0 H r o) (hr:r < l) (hl:h0.next≤l) (kp:Keeps l H H2):One h0 H2 r o :=
 ⟨by rw [kp.next]; exact k.next,fun i x h1 e=>kp.at_ _ _ (by have:=Hp.lt_of_at e; omega) (k.at_ i x h1 e),kp.at_ _ _ (by omega) k.obj⟩
theorem One.grows {h h0 H:Hp} {r:Nat} {o:Rx.Obj} (k:One h0 H r o) (g:Grows h h0) (hr:h.next≤r):Grows h H :=
 ⟨Nat.le_trans g.next k.next,fun i x e=>k.at_ i x (by have:=Hp.lt_of_at e; omega) (g.at_ _ _ e)⟩
def cntB (p:Nat→Bool):Nat→Nat
 | 0=>0
 | k + 1=>cntB p k + if p k = true then 1 else 0
theorem cntB_le (p:Nat→Bool):∀ k,cntB p k≤k
 | 0=>Nat.le_refl _
 | k + 1=>by
  have:=cntB_le p k
  unfold cntB
  split <;> omega
theorem cntB_t {p:Nat→Bool} {k:Nat} (h:p k = true):cntB p (k + 1) = cntB p k + 1:=by show cntB p k + _ = _; rw [if_pos h]
theorem cntB_f {p:Nat→Bool} {k:Nat} (h:p k = false):cntB p (k + 1) = cntB p k:=by show cntB p k + _ = _; rw [if_neg (by rw [h]; simp)]; rfl
attribute [local irreducible] E idxN cellAt cellsAt storeAt callable helems hmoved lookIn findKey keyOk hentries Hp.at Hp.set Hp.lay arBits hupdated setAt CallP YieldP BoolOf IsWrap Rnd LoopP AppP CutP Int.tmod Int.tdiv Int.fdiv
section
variable [Unknowns]
attribute [local irreducible] ResP sameAt flat
theorem sets_iter (N:Nat) (hN:N≤9) (c l:Nat) (I:Nat→Hp→Prop) (S:Hp→Prop) (h:Hp) (hJ:∀ k h,I k h→h.at c = some (.row 3 true [int (N:Int)])) (h0:I 0 h) (hit:IterP E l ((List.range (2 ^ N)).map gvN) I S):CallP E 115 [yieldVal l,ptr c 0] h (fun _ h'=>I ((List.range (2 ^ N)).map gvN).length h'∨S h'):=by
 have hlen:((List.range (2 ^ N)).map gvN).length = 2 ^ N:=by simp
 rw [hlen]
 have hp:=Nat.pow_le_pow_right (n:=2) (by omega) hN
 have yld:∀ (i:Nat) (h:Hp),i < 2 ^ N→I i h→YieldP E l [int (i:Int)] h fun v h'=>(v = .bool true∧I (i + 1) h')∨(v = .bool false∧S h'):=by
  intro i h hi hI
  have:=hit i (by rw [hlen]; exact hi) h hI
  rw [List.getElem_map,List.getElem_range] at this
  exact this
 refine enter115 (by simp) ?_
 conv=>whnf
 refine SeqP.go ?_
 conv=>whnf
 refine ⟨int (N:Int),cellAt_row (hJ _ h h0) rfl,?_⟩
 conv=>whnf
 refine ⟨by omega,((2 ^ N:Nat):Int),shl_one (by omega),?_⟩
 conv=>whnf
 refine loop_inv (α:=Nat×Hp) (fun s=>[(6,int s.1),(5,int ((2 ^ N:Nat):Int)),(0,yieldVal l)]) (fun s=>s.2) (fun s=>s.1≤2 ^ N∧I s.1 s.2) (fun s=>2 ^ N - s.1) (0,h) ⟨Nat.zero_le _,h0⟩ ⟨rfl,rfl,rfl,trivial⟩ (Hp.Le.refl _) ?_
 rintro ⟨i,h1⟩ φ ⟨hi,hI⟩
 dsimp only at hi hI ⊢
 conv=>whnf
 refine SeqP.go ?_
 conv=>whnf
 refine cmpB (fun hb1=>?_) (fun hb1=>?_)
 rotate_left
 ·have:i = 2 ^ N:=by omega
  rw [this] at hI
  conv=>whnf
  repeat (refine SeqP.go ?_; conv=>whnf)
  exact .inl hI
 have hi':i < 2 ^ N:=by omega
 conv=>whnf
 refine SeqP.go ?_
 conv=>whnf
 refine SeqP.go ?_
 conv=>whnf
 repeat (refine SeqP.go ?_; conv=>whnf)
 refine YieldP.mono (yld i h1 hi' hI) ?_
 rintro v h3 (⟨rfl,hI2⟩ | ⟨rfl,hS⟩)
 ·conv=>whnf
  refine ⟨_,wid (by omega),?_⟩
  conv=>whnf
  exact Rnd.mk (i + 1,h3) ⟨by show i + 1≤2 ^ N; omega,hI2⟩ (by show 2 ^ N - (i + 1) < 2 ^ N - i; omega) ⟨rfl,rfl,rfl,trivial⟩ (Hp.Le.refl _) rfl
 ·conv=>whnf
  repeat (refine SeqP.go ?_; conv=>whnf)
  exact .inr hS
end
section
variable [Unknowns]
attribute [local irreducible] ResP sameAt flat finP
theorem sets_spec (N:Nat) (h:Hp):CallP E 87 [int (N:Int)] h (fun r h'=>r = .func (.func 115) ⟨[]⟩ ⟨[ptr h.next 0]⟩∧h' = h.lay (.row 3 true [int (N:Int)])):=by
 refine enter87 (by simp) ?_
 conv=>whnf
 repeat (refine SeqP.go ?_; conv=>whnf)
 exact finP_one rfl rfl ⟨rfl,rfl⟩
theorem count_spec (n:Nat) (P:List (Int×Int)) (hl:P.length≤9) (v:Value) (h:Hp) (hv:PairsV h v P) (f:FuncId) (bs cs:List Value) (hcan:callable E f = true) (p:Nat→Bool)
  (hf:∀ d:Nat,d < 2 ^ P.length→∀ h',Grows h h'→CallP E f (bs ++ [int (d:Int)] ++ cs) h' (fun r h2=>r = .bool (p d)∧Grows h' h2)) :
  CallP E 83 [gval n v,.func (.func f) ⟨bs⟩ ⟨cs⟩] h (fun r h'=>r = int (cntB p (2 ^ P.length):Nat)∧Grows h h'):=by
 obtain ⟨av,cap,rfl,hcv⟩:=id hv
 have hp:=Nat.pow_le_pow_right (n:=2) (by omega) hl
 have hexF:∃ FV,Value.func (.func f) ⟨bs⟩ ⟨cs⟩ = FV:=⟨_,rfl⟩
 obtain ⟨FV,hFV⟩:=hexF
 have hex1:∃ H1,h.lay (.row 83 true [int n,.slice av P.length cap]) = H1:=⟨_,rfl⟩
 obtain ⟨H1,hH1⟩:=hex1
 have hex2:∃ H2,H1.lay (.row 88 true [FV]) = H2:=⟨_,rfl⟩
 obtain ⟨H2,hH2⟩:=hex2
 have aD:H1.at h.next = some (.row 83 true [int n,.slice av P.length cap]):=by rw [← hH1]; exact Hp.at_lay_self _ _
 have gD:Grows h H1:=by rw [← hH1]; exact Grows.lay _ _
 have aF:H2.at H1.next = some (.row 88 true [FV]):=by rw [← hH2]; exact Hp.at_lay_self _ _
 have gF:Grows H1 H2:=by rw [← hH2]; exact Grows.lay _ _
 refine enter83 (by simp) ?_
 conv=>whnf
 refine SeqP.cut (α:=Unit) (fun _=>[(2,ptr h.next 0),(3,ptr H1.next 0)]) (fun _ H=>H = H2) ?_ ?_
 ·conv=>whnf
  refine ⟨(),⟨rfl,by rw [← hH1]; rfl,trivial⟩,?_,rfl⟩
  rw [← hH2,← hH1,← hFV]
  rfl
 rintro _ φ H2 rfl
 generalize hDe:h.next = D at aD
 generalize hFe:H1.next = F at aF
 conv=>whnf
 refine SeqP.cut (α:=Nat×Hp) (fun s=>[(5,ptr s.1 0),(2,ptr D 0),(3,ptr F 0)]) (fun s H=>H = s.2∧s.2.at s.1 = some (.row 3 true [int 0])∧H2.next≤s.1∧Grows H2 s.2) ?_ ?_
 ·conv=>whnf
  refine ⟨rfl,_,storeAt_lay (by simp) rfl,?_⟩
  conv=>whnf
  exact ⟨(H2.next,_),⟨rfl,rfl,rfl,trivial⟩,⟨rfl,Hp.at_lay_self _ _,Nat.le_refl _,Grows.lay _ _⟩,rfl⟩
 rintro ⟨C,_⟩ φ H3 ⟨rfl,aC,nC,g3⟩
 dsimp only at aC nC g3 ⊢
 have hClt:=Hp.lt_of_at aC
 have hDlt:=Hp.lt_of_at aD
 have hFlt:=Hp.lt_of_at aF
 have aF3:=g3.at_ _ _ aF
 have aD3:=g3.at_ _ _ (gF.at_ _ _ aD)
 have g03:=(gD.trans gF).trans g3
 have nD:=gD.next
 have nF:=gF.next
 conv=>whnf
 refine SeqP.cutM (α:=Unit) (fun _=>[(5,ptr C 0)]) (fun _=>[H3.next + 1]) (fun _ H=>One ((H3.lay (.row 3 true [int (P.length:Int)])).lay .noDefers) H C (.row 3 true [int (cntB p (2 ^ P.length):Nat)])) ?_ ?_
 ·conv=>whnf
  refine SeqP.go ?_
  conv=>whnf
  refine ⟨_,cellAt_row aD3 rfl,?_⟩
  conv=>whnf
  refine CallP.mono (sets_spec P.length H3) ?_
  rintro r _ ⟨rfl,rfl⟩
  conv=>whnf
  generalize hH4:H3.lay (.row 3 true [int (P.length:Int)]) = H4
  have aM:H4.at H3.next = some (.row 3 true [int (P.length:Int)]):=by rw [← hH4]; exact Hp.at_lay_self _ _
  have n4:H4.next = H3.next + 1:=by rw [← hH4]; exact Hp.next_lay _ _
  have g4:Grows H3 H4:=by rw [← hH4]; exact Grows.lay _ _
  refine range_goJ (fun hh=>hh.at H3.next = some (.row 3 true [int (P.length:Int)])) ((List.range (2 ^ P.length)).map gvN) (fun k hh=>One (H4.lay .noDefers) hh C (.row 3 true [int (cntB p k:Nat)])) (fun _=>False) can115 ?_ rfl (fun I S hJ h0 hit=>sets_iter P.length hl H3.next _ I S _ hJ h0 hit) ?_ ?_ ?_ ?_ ?_
  ·intro k hk
   simp [gvN]
  ·intro k hh hk
   exact hk.at_ _ _ (by omega) (Hp.at_lay_old _ aM)
  ·exact One.ext (One.start (Hp.at_lay_old _ (g4.at_ _ _ aC))) (Grows.lay _ _)
  ·intro k xs hget H5 hl5 hk
   have hget2:=List.getElem?_eq_some_iff.1 hget
   obtain ⟨hkl,exs⟩:=hget2
   rw [List.length_map,List.length_range] at hkl
   rw [List.getElem_map,List.getElem_range] at exs
   subst exs
   have hct:=cntB_t (p:=p) (k:=k)
   have hcf:=cntB_f (p:=p) (k:=k)
   have hcl:=cntB_le p k
   generalize cntB p k = ck at hk hct hcf hcl
   have hlx:(H4.lay .noDefers).next = H3.next + 2:=by rw [Hp.next_lay,n4]
   conv=>whnf
   refine bodyQ_go hl5 ?_
   intro BO hb2 eBO hbl hbk
   have hk2:=hk.keep (by omega) (Nat.le_refl _) hbk
   clear hget hk
   have gh5:=hk2.grows ((g03.trans g4).then_lay _) (by omega)
   have aF5:=hk2.at_ F _ (by omega) (Hp.at_lay_old _ (g4.at_ _ _ aF3))
   rw [← hFV] at aF5
   conv=>whnf
   repeat (refine SeqP.go ?_; conv=>whnf)
   refine ⟨_,cellAt_row aF5 rfl,?_⟩
   conv=>whnf
   refine ⟨hcan,?_⟩
   refine CallP.mono (hf k hkl hb2 gh5) ?_
   rintro b h3 ⟨rfl,g3'⟩
   have k3:=hk2.ext g3'
   have bl3:=g3'.at_ _ _ hbl
   have hlC:C≠(H4.lay .noDefers).next:=by omega
   cases hpk:p k with
   | true =>
    have e1:=hct hpk
    have k4:=k3.set (o':=.row 3 true [int ((ck + 1:Nat):Int)])
    have bl4:(h3.set C (.row 3 true [int ((ck + 1:Nat):Int)])).at (H4.lay .noDefers).next = some BO:=by rw [Hp.at_set_ne _ (fun x=>hlC x.symm)]; exact bl3
    conv=>whnf
    refine ⟨_,cellAt_row k3.obj rfl,?_⟩
    conv=>whnf
    refine ⟨((ck + 1:Nat):Int),wie (by omega) (by omega),?_⟩
    conv=>whnf
    refine ⟨rfl,_,storeAt_row k3.obj (by simp) rfl,?_⟩
    conv=>whnf
    refine ⟨by rw [← eBO]; exact bl4,?_⟩
    exact .inl ⟨rfl,Hp.at_set_self _ (Hp.lt_of_at bl4),by rw [e1]; exact k4.keep (by omega) (Nat.le_refl _) (Keeps.set _ _ _)⟩
   | false =>
    have e1:=hcf hpk
    conv=>whnf
    refine ⟨by rw [← eBO]; exact bl3,?_⟩
    exact .inl ⟨rfl,Hp.at_set_self _ (Hp.lt_of_at bl3),by rw [e1]; exact k3.keep (by omega) (Nat.le_refl _) (Keeps.set _ _ _)⟩
  ·intro h2 h3 hk hkp
   rw [List.length_map,List.length_range] at hk
   have hk3:=hk.keep (by rw [Hp.next_lay]; omega) (Nat.le_refl _) hkp
   exact ⟨(),⟨rfl,trivial⟩,hk3,by rw [n4]; rfl⟩
  ·intro h2 hF
   exact hF.elim
 rintro _ φ H hk
 have hms:Marks (H3.next + 1) [H3.next + 1] H:=⟨by simp,fun d hd=>by
  have:d = H3.next + 1:=by simpa using hd
  subst this
  exact ⟨Nat.le_refl _,hk.at_ _ _ (by omega) (at_nx (r:=(H3.lay (.row 3 true [int (P.length:Int)])).next) (by rw [Hp.next_lay]) (Hp.at_lay_self _ _))⟩⟩
 conv=>whnf
 repeat (refine SeqP.go ?_; conv=>whnf)
 refine ⟨_,cellAt_row hk.obj rfl,?_⟩
 conv=>whnf
 refine finP_marks hms ?_
 intro h3 n3 k3 _
 have gh:=hk.grows ((g03.then_lay _).then_lay _) (by omega)
 exact finP_one rfl rfl ⟨rfl,⟨by rw [n3]; exact gh.next,fun r o e=>k3 r o (by have:=Hp.lt_of_at e; have:=g03.next; omega) (gh.at_ r o e)⟩⟩
end
end Go.Proofs.Ythgjnkdealdmoaa
namespace Go.Proofs.Ythgjnkdealdmoaa
open Go.Rx Go.RowKit
def entX (P:List (Int×Int)) (d:Nat):Nat→Nat→Bool
 | 0=>fun _=>false
 | k + 1=>fun w=>entX P d k w || w == (dir P d k).2
def ent (P:List (Int×Int)) (d:Nat):Nat→Nat
 | 0=>0
 | k + 1=>ent P d k ||| 2 ^ (dir P d k).2
theorem ent_bit (P:List (Int×Int)) (d w:Nat):∀ k,(ent P d k).testBit w = entX P d k w
 | 0=>by show (0:Nat).testBit w = false; simp
 | k + 1=>by
  show (ent P d k ||| 2 ^ (dir P d k).2).testBit w = (entX P d k w || w == (dir P d k).2)
  rw [Nat.testBit_or,ent_bit P d w k,Nat.testBit_two_pow]
  congr 1
  by_cases e:w = (dir P d k).2
  ·subst e; simp
  ·rw [beq_eq_false_iff_ne.2 e]; simp; exact fun x=>e x.symm
theorem ent_lt {n:Nat} {P:List (Int×Int)} (hP:NetOk n P) (d:Nat):∀ k,k≤P.length→ent P d k < 2 ^ n
 | 0,_=>Nat.two_pow_pos n
 | k + 1,hk=>Nat.or_lt_two_pow (ent_lt hP d k (by omega)) (Nat.pow_lt_pow_right (by omega) (dir_lt hP d (by omega)).2)
def srcB (n:Nat) (P:List (Int×Int)) (d v:Nat):Bool:=(List.range n).all fun w=>entX P d P.length w != (w == v)
theorem src_iff {n:Nat} {P:List (Int×Int)} (hP:NetOk n P) (d v:Nat):(ent P d P.length == less (2 ^ n - 1) (2 ^ v)) = srcB n P d v:=by
 have hl:less (2 ^ n - 1) (2 ^ v) < 2 ^ n:=less_lt (by have:=Nat.two_pow_pos n; omega)
 have he:=ent_lt hP d P.length (Nat.le_refl _)
 have key:∀ w,(less (2 ^ n - 1) (2 ^ v)).testBit w = (decide (w < n) && !(w == v)):=by
  intro w
  rw [less_bit,Nat.testBit_two_pow_sub_one,Nat.testBit_two_pow]
  congr 2
  by_cases e:w = v
  ·subst e; simp
  ·rw [beq_eq_false_iff_ne.2 e]; simp; exact fun x=>e x.symm
 cases hs:srcB n P d v with
 | true =>
  unfold srcB at hs
  rw [List.all_eq_true] at hs
  rw [beq_iff_eq]
  apply Nat.eq_of_testBit_eq
  intro w
  rw [ent_bit,key]
  by_cases hw:w < n
  ·have:=hs w (List.mem_range.2 hw)
   rw [decide_eq_true hw,Bool.true_and]
   revert this
   cases entX P d P.length w <;> cases (w == v) <;> simp
  ·rw [decide_eq_false hw,Bool.false_and,← ent_bit]
   exact Nat.testBit_lt_two_pow (Nat.lt_of_lt_of_le he (Nat.pow_le_pow_right (by omega) (by omega)))
 | false =>
  rw [beq_eq_false_iff_ne]
  intro e
  have:srcB n P d v = true:=by
   unfold srcB
   rw [List.all_eq_true]
   intro w hw
   have hw:=List.mem_range.1 hw
   rw [← ent_bit,e,key,decide_eq_true hw,Bool.true_and]
   cases (w == v) <;> rfl
  rw [this] at hs
  cases hs
attribute [local irreducible] E idxN cellAt cellsAt storeAt callable helems hmoved lookIn findKey keyOk hentries Hp.at Hp.set Hp.lay arBits hupdated setAt CallP YieldP BoolOf IsWrap Rnd LoopP AppP CutP Int.tmod Int.tdiv Int.fdiv
section
variable [Unknowns]
attribute [local irreducible] ResP sameAt flat
theorem CountAcyclic_spec (n:Nat) (P:List (Int×Int)) (hP:NetOk n P) (hl:P.length≤9) (v:Value) (h:Hp) (hv:PairsV h v P) :
  CallP E 40 [int n,v] h (fun r h'=>r = .tuple ⟨[int (cntB (fun d=>rings n P d P.length == 0) (2 ^ P.length):Nat),int 0]⟩∧Grows h h'):=by
 obtain ⟨av,cap,rfl,-⟩:=id hv
 refine enter40 (by simp) ?_
 conv=>whnf
 repeat (refine SeqP.go ?_; conv=>whnf)
 refine CallP.mono (Check_spec n P hP hl _ h hv) ?_
 rintro r H1 ⟨rfl,g1⟩
 conv=>whnf
 repeat (refine SeqP.go ?_; conv=>whnf)
 refine cmpF (by omega) ?_
 conv=>whnf
 repeat (refine SeqP.go ?_; conv=>whnf)
 refine ⟨rfl,_,storeAt_full (vs:=[int n,.slice av P.length cap]) (Hp.at_lay_self _ _) rfl rfl rfl,?_⟩
 generalize hH2:(H1.lay (.row 83 true [int 0,.slice none 0 0])).set H1.next (.row 83 true [int n,.slice av P.length cap]) = H2
 have a2:H2.at H1.next = some (.row 83 true [int n,.slice av P.length cap]):=by rw [← hH2]; exact Hp.at_set_self _ (Hp.lt_of_at (Hp.at_lay_self _ _))
 have g2:Grows H1 H2:=by rw [← hH2]; exact (Grows.lay _ _).then_set _ (Nat.le_refl _)
 conv=>whnf
 repeat (refine SeqP.go ?_; conv=>whnf)
 refine ⟨_,cellsAt_row a2 (by simp),?_⟩
 conv=>whnf
 refine ⟨_,cellsAt_row a2 (by simp),?_⟩
 conv=>whnf
 have hv2:=hv.ext (g1.trans g2)
 refine CallP.mono (count_spec n P hl _ H2 hv2 80 [gval n (.slice av P.length cap)] [] can80 (fun d=>rings n P d P.length == 0) (fun d hd h' g=>isAcyclic_spec n P hP hl d hd _ h' (hv2.ext g))) ?_
 rintro r H3 ⟨rfl,g3⟩
 conv=>whnf
 repeat (refine SeqP.go ?_; conv=>whnf)
 exact ⟨rfl,(g1.trans g2).trans g3⟩
theorem CountRound_spec (n:Nat) (P:List (Int×Int)) (hP:NetOk n P) (hl:P.length≤9) (v:Value) (h:Hp) (hv:PairsV h v P) :
  CallP E 41 [int n,v] h (fun r h'=>r = .tuple ⟨[int (cntB (fun d=>rings n P d P.length == 2 ^ P.length - 1) (2 ^ P.length):Nat),int 0]⟩∧Grows h h'):=by
 obtain ⟨av,cap,rfl,-⟩:=id hv
 refine enter41 (by simp) ?_
 conv=>whnf
 repeat (refine SeqP.go ?_; conv=>whnf)
 refine CallP.mono (Check_spec n P hP hl _ h hv) ?_
 rintro r H1 ⟨rfl,g1⟩
 conv=>whnf
 repeat (refine SeqP.go ?_; conv=>whnf)
 refine cmpF (by omega) ?_
 conv=>whnf
 repeat (refine SeqP.go ?_; conv=>whnf)
 refine ⟨rfl,_,storeAt_full (vs:=[int n,.slice av P.length cap]) (Hp.at_lay_self _ _) rfl rfl rfl,?_⟩
 generalize hH2:(H1.lay (.row 83 true [int 0,.slice none 0 0])).set H1.next (.row 83 true [int n,.slice av P.length cap]) = H2
 have a2:H2.at H1.next = some (.row 83 true [int n,.slice av P.length cap]):=by rw [← hH2]; exact Hp.at_set_self _ (Hp.lt_of_at (Hp.at_lay_self _ _))
 have g2:Grows H1 H2:=by rw [← hH2]; exact (Grows.lay _ _).then_set _ (Nat.le_refl _)
 conv=>whnf
 repeat (refine SeqP.go ?_; conv=>whnf)
 refine ⟨_,cellsAt_row a2 (by simp),?_⟩
 conv=>whnf
 refine ⟨_,cellsAt_row a2 (by simp),?_⟩
 conv=>whnf
 have hv2:=hv.ext (g1.trans g2)
 refine CallP.mono (count_spec n P hl _ H2 hv2 81 [gval n (.slice av P.length cap)] [] can81 (fun d=>rings n P d P.length == 2 ^ P.length - 1) (fun d hd h' g=>isRound_spec n P hP hl d hd _ h' (hv2.ext g))) ?_
 rintro r H3 ⟨rfl,g3⟩
 conv=>whnf
 repeat (refine SeqP.go ?_; conv=>whnf)
 exact ⟨rfl,(g1.trans g2).trans g3⟩
theorem entered_spec (n:Nat) (P:List (Int×Int)) (hP:NetOk n P) (hl:P.length≤9) (d:Nat) (hd:d < 2 ^ P.length) (v:Value) (h:Hp) (hv:PairsV h v P) :
  CallP E 86 [gval n v,int d] h (fun r h'=>r = int (ent P d P.length:Nat)∧Grows h h'):=by
 obtain ⟨av,cap,rfl,hcv⟩:=id hv
 have hn:=hP.n1
 have hp:=Nat.pow_le_pow_right (n:=2) (by omega) hn.2
 have hex1:∃ H1,h.lay (.row 83 true [int n,.slice av P.length cap]) = H1:=⟨_,rfl⟩
 obtain ⟨H0,hH0⟩:=hex1
 have a83:H0.at h.next = some (.row 83 true [int n,.slice av P.length cap]):=by rw [← hH0]; exact Hp.at_lay_self _ _
 have g0:Grows h H0:=by rw [← hH0]; exact Grows.lay _ _
 refine enter86 (by simp) ?_
 conv=>whnf
 refine SeqP.cut (α:=Unit) (fun _=>[(2,ptr h.next 0),(1,int d)]) (fun _ H=>H = H0) ?_ ?_
 ·conv=>whnf
  exact ⟨(),⟨rfl,rfl,trivial⟩,hH0,rfl⟩
 rintro _ φ H0 rfl
 conv=>whnf
 refine SeqP.go ?_
 conv=>whnf
 refine SeqP.cut (α:=Hp) (fun _=>[(5,int (ent P d P.length:Nat))]) (fun s H=>H = s∧Grows H0 s) ?_ ?_
 ·conv=>whnf
  refine SeqP.go ?_
  conv=>whnf
  refine ⟨_,cellAt_row a83 rfl,?_⟩
  conv=>whnf
  refine loop_inv (α:=Nat×Hp) (fun s=>[(12,int s.1),(5,int (ent P d s.1:Nat)),(11,int P.length),(2,ptr h.next 0),(1,int d)]) (fun s=>s.2) (fun s=>s.1≤P.length∧Grows H0 s.2) (fun s=>P.length - s.1) (0,H0) ⟨Nat.zero_le _,.refl _⟩ ⟨rfl,rfl,rfl,rfl,rfl,trivial⟩ (Hp.Le.refl _) ?_
  rintro ⟨k,H⟩ φ ⟨hk,gk⟩
  dsimp only at hk gk ⊢
  conv=>whnf
  refine SeqP.go ?_
  conv=>whnf
  refine cmpB (fun c1=>?_) (fun c1=>?_)
  rotate_left
  ·conv=>whnf
   have:k = P.length:=by omega
   subst this
   exact ⟨H,⟨rfl,trivial⟩,⟨rfl,gk⟩,rfl⟩
  have hk':k < P.length:=by omega
  have hlt:=dir_lt hP d hk'
  have hel:=ent_lt hP d k hk
  have h2l:=Nat.pow_lt_pow_right (a:=2) (by decide) hlt.2
  conv=>whnf
  refine SeqP.go ?_
  conv=>whnf
  refine SeqP.go ?_
  conv=>whnf
  refine SeqP.go ?_
  conv=>whnf
  refine ⟨_,cellsAt_row (gk.at_ _ _ a83) (by simp),?_⟩
  conv=>whnf
  refine CallP.mono (ends_spec n P hP hl d hd k hk' _ H (hv.ext (g0.trans gk))) ?_
  rintro r H6 ⟨rfl,g6⟩
  have k6:=gk.trans g6
  have eR:ent P d (k + 1) = ent P d k ||| 2 ^ (dir P d k).2:=rfl
  have hor:=bits_or (a:=ent P d k) (b:=2 ^ (dir P d k).2) (by omega) (by omega)
  conv=>whnf
  repeat (refine SeqP.go ?_; conv=>whnf)
  refine ⟨by omega,((2 ^ (dir P d k).2:Nat):Int),shl_one (by omega),?_⟩
  conv=>whnf
  refine ⟨_,wid (by omega),?_⟩
  conv=>whnf
  exact Rnd.mk (k + 1,H6) ⟨by show k + 1≤P.length; omega,k6⟩ (by show P.length - (k + 1) < P.length - k; omega) ⟨rfl,by rw [eR]; exact congrArg (Value.int .i64) hor,rfl,rfl,rfl,trivial⟩ (Hp.Le.refl _) rfl
 rintro _ φ H7 ⟨rfl,g7⟩
 conv=>whnf
 repeat (refine SeqP.go ?_; conv=>whnf)
 exact ⟨rfl,g0.trans g7⟩
theorem hasSource_spec (n:Nat) (P:List (Int×Int)) (hP:NetOk n P) (hl:P.length≤9) (d:Nat) (hd:d < 2 ^ P.length) (o:Nat) (v:Value) (h:Hp) (hv:PairsV h v P) (G C:Nat) (aG:h.at G = some (.row 83 true [int n,v])) (aC:h.at C = some (.row 3 true [int o])) :
  CallP E 85 [int d,ptr G 0,ptr C 0] h (fun r h'=>r = .bool (ent P d P.length == o && rings n P d P.length == 0)∧Grows h h'):=by
 obtain ⟨av,cap,rfl,hcv⟩:=id hv
 have hsg:=sameV_gval n av P.length cap
 have c0:cellsAt h G 0 2 = some [int n,.slice av P.length cap]:=cellsAt_row aG (by simp)
 have c0':cellAt h C 0 = some (int o):=cellAt_row aC rfl
 refine enter85 (by simp) ?_
 conv=>whnf
 refine SeqP.go ?_
 conv=>whnf
 refine SeqP.go ?_
 conv=>whnf
 refine ⟨_,c0,?_⟩
 conv=>whnf
 refine CallP.mono (entered_spec n P hP hl d hd _ h hv) ?_
 rintro r H1 ⟨rfl,g1⟩
 conv=>whnf
 refine ⟨_,g1.cell c0',?_⟩
 conv=>whnf
 refine cmpB (fun hb=>?_) (fun hb=>?_)
 ·have e:(ent P d P.length == o) = true:=by rw [beq_iff_eq]; omega
  rw [e,Bool.true_and]
  conv=>whnf
  refine ⟨_,g1.cells c0,?_⟩
  conv=>whnf
  refine CallP.mono (isAcyclic_spec n P hP hl d hd _ H1 (hv.ext g1)) ?_
  rintro r H2 ⟨rfl,g2⟩
  conv=>whnf
  refine ⟨?_,?_⟩
  rotate_left
  ·conv=>whnf
   repeat (refine SeqP.go ?_; conv=>whnf)
   exact ⟨rfl,g1.trans g2⟩
  repeat' (first | exact True.intro | (refine And.intro ?_ ?_ <;> (conv=>whnf)))
  all_goals first
   | exact sameAt_val (h2:=_) rfl (sameV_int _)
   | exact sameAt_val (h2:=_) rfl (sameV_bool _)
   | exact sameAt_val (h2:=_) (congrArg (fun x=>hval _ (aggOf x)) c0) hsg
   | exact sameAt_val (h2:=_) (congrArg (fun x=>hval _ (aggOf x)) (g1.cells c0)) hsg
   | exact sameAt_val (h2:=_) (congrArg (fun x=>hval _ (aggOf x)) ((g1.trans g2).cells c0)) hsg
   | exact sameAt_val (h2:=_) (congrArg (hval _) c0') (sameV_int _)
   | exact sameAt_val (h2:=_) (congrArg (hval _) (g1.cell c0')) (sameV_int _)
   | exact sameAt_val (h2:=_) (congrArg (hval _) ((g1.trans g2).cell c0')) (sameV_int _)
   | exact sameAt_val (h2:=_) (congrArg (fun b=>HRes.val (Value.bool b) _) (decide_eq_true hb)) (sameV_bool _)
 ·have e:(ent P d P.length == o) = false:=by rw [beq_eq_false_iff_ne]; omega
  rw [e,Bool.false_and]
  conv=>whnf
  refine ⟨?_,?_⟩
  rotate_left
  ·conv=>whnf
   repeat (refine SeqP.go ?_; conv=>whnf)
   exact ⟨rfl,g1⟩
  repeat' (first | exact True.intro | (refine And.intro ?_ ?_ <;> (conv=>whnf)))
  all_goals first
   | exact sameAt_val (h2:=_) rfl (sameV_int _)
   | exact sameAt_val (h2:=_) rfl (sameV_bool _)
   | exact sameAt_val (h2:=_) (congrArg (fun x=>hval _ (aggOf x)) c0) hsg
   | exact sameAt_val (h2:=_) (congrArg (fun x=>hval _ (aggOf x)) (g1.cells c0)) hsg
   | exact sameAt_val (h2:=_) (congrArg (hval _) c0') (sameV_int _)
   | exact sameAt_val (h2:=_) (congrArg (hval _) (g1.cell c0')) (sameV_int _)
   | exact sameAt_val (h2:=_) (congrArg (fun b=>HRes.val (Value.bool b) _) (decide_eq_false hb)) (sameV_bool _)
end
end Go.Proofs.Ythgjnkdealdmoaa
