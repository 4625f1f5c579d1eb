/- Contracts of the functions that PNSB comes to. -/
import Derived.Test.YthgjnkdealdmoaaCodePNSB
import Derived.Test.YthgjnkdealdmoaaWx23
import Derived.Test.YthgjnkdealdmoaaWx29
import Derived.Test.YthgjnkdealdmoaaWx17
import Derived.Test.YthgjnkdealdmoaaWx16
import Derived.Test.YthgjnkdealdmoaaWx18
import Derived.Test.YthgjnkdealdmoaaNAwake
import Derived.Test.YthgjnkdealdmoaaWx20
set_option maxRecDepth 100000
set_option maxHeartbeats 2000000
set_option linter.unusedVariables false
set_option linter.unusedSectionVars false
set_option linter.unusedSimpArgs false
namespace Go.Proofs.Ythgjnkdealdmoaa
open Go.Rx Go.RowKit
def leP (a b:Int×Int):Prop:=a.1 < b.1∨a.1 = b.1∧a.2≤b.2
theorem leP.trans {a b c:Int×Int} (h:leP a b) (k:leP b c):leP a c:=by unfold leP at *; omega
theorem leP.of_not {a b:Int×Int} (h:¬ leP a b):leP b a:=by unfold leP at *; omega
structure NetOk (n:Nat) (P:List (Int×Int)):Prop where
 n1:1≤n∧n≤6
 ok:∀ p ∈ P,0≤p.1∧p.1≤p.2∧p.2 < n
 srt:P.Pairwise leP
theorem ins_srt {P:List (Int×Int)} {x:Int×Int} {k:Nat} (hs:P.Pairwise leP) (hk:k≤P.length) (lo:∀ i,(hi:i < P.length)→i < k→leP P[i] x) (hi:∀ h:k < P.length,¬ leP P[k] x):(P.take k ++ x :: P.drop k).Pairwise leP:=by
 have hs':=hs
 rw [← List.take_append_drop k P,List.pairwise_append] at hs'
 obtain ⟨s1,s2,s3⟩:=hs'
 have hx:∀ y ∈ P.drop k,leP x y:=by
  intro y hy
  by_cases h:k < P.length
  ·have hkx:=(hi h)
   have hky:P[k] = y∨leP P[k] y:=by
    rw [List.drop_eq_getElem_cons h] at hy s2
    rcases List.mem_cons.1 hy with rfl | hy
    ·exact .inl rfl
    ·exact .inr ((List.pairwise_cons.1 s2).1 y hy)
   rcases hky with e | e
   ·rw [e] at hkx; exact leP.of_not hkx
   ·exact (leP.of_not hkx).trans e
  ·rw [List.drop_eq_nil_of_le (by omega)] at hy; cases hy
 rw [List.pairwise_append]
 refine ⟨s1,List.pairwise_cons.2 ⟨hx,s2⟩,fun a ha b hb=>?_⟩
 have hax:leP a x:=by
  obtain ⟨i,hi',rfl⟩:=List.getElem_of_mem ha
  rw [List.length_take] at hi'
  rw [List.getElem_take]
  exact lo i (by omega) (by omega)
 rcases List.mem_cons.1 hb with rfl | hb
 ·exact hax
 ·exact hax.trans (hx b hb)
theorem NetOk.ins {n:Nat} {P:List (Int×Int)} (h:NetOk n P) {x:Int×Int} {k:Nat} (hx:0≤x.1∧x.1≤x.2∧x.2 < n) (hk:k≤P.length) (lo:∀ i,(hi:i < P.length)→i < k→leP P[i] x) (hi:∀ h:k < P.length,¬ leP P[k] x):NetOk n (P.take k ++ x :: P.drop k):=by
 refine ⟨h.n1,fun p hp=>?_,ins_srt h.srt hk lo hi⟩
 rcases List.mem_append.1 hp with hp | hp
 ·exact h.ok p (List.mem_of_mem_take hp)
 ·rcases List.mem_cons.1 hp with rfl | hp
  ·exact hx
  ·exact h.ok p (List.mem_of_mem_drop hp)
theorem flat_app:∀ a b:List (Int×Int),flat (a ++ b) = flat a ++ flat b
 | [],_=>rfl
 | x :: a,b=>by show x.1 :: x.2 :: flat (a ++ b) = _; rw [flat_app a b]; rfl
theorem flat_sing (p:Int×Int):(flat [p]).map int = [int p.1,int p.2]:=rfl
theorem flat_drop:∀ (E:List (Int×Int)) (k:Nat),flat (E.drop k) = (flat E).drop (k * 2)
 | [],k=>by simp [flat]
 | x :: E,0=>by simp [flat]
 | x :: E,k + 1=>by
  have:=flat_drop E k
  rw [show (k + 1) * 2 = k * 2 + 1 + 1 by omega]
  simpa [flat] using this
theorem flat_one (P:List (Int×Int)):((flat P).map int).all oneCell = true:=by
 rw [List.all_eq_true]
 intro v hv
 obtain ⟨n,_,rfl⟩:=List.mem_map.1 hv
 rfl
def GB (h0 h:Hp) (v:Value) (P:List (Int×Int)):Prop:=BuiltC h0 h 79 2 v P.length ((flat P).map int)
theorem GB.ext {h0 h h':Hp} {v:Value} {P:List (Int×Int)} (k:GB h0 h v P) (g:Grows h h'):GB h0 h' v P:=BuiltC.ext g k
theorem GB.nil {h:Hp}:GB h h (.slice none 0 0) []:=BuiltC.nil
theorem GB.pairs {h0 h:Hp} {v:Value} {P:List (Int×Int)} (k:GB h0 h v P):PairsV h v P:=BuiltC.pairs k
theorem PairsV.get {h:Hp} {v:Value} {P:List (Int×Int)} (k:PairsV h v P) {i:Nat} (hi:i < P.length):∃ r o c,v = .slice (some ⟨r,o,none⟩) P.length c∧cellAt h r (0 + (i * 2 + o)) = some (int (P[i]).1)∧cellAt h r (1 + (i * 2 + o)) = some (int (P[i]).2):=by
 obtain ⟨a,c,rfl,hc⟩:=k
 obtain ⟨r,o,rfl,h1,h2⟩:=hc i hi
 exact ⟨r,o,c,rfl,by rw [Nat.zero_add]; exact h1,by rw [Nat.add_comm]; exact h2⟩
theorem store2 {H:Hp} {e:Nat} {a b:Value} {c d:Int}:storeAt (H.lay (.row e true [a,b])) H.next 0 [int c,int d] = some (H.lay (.row e true [int c,int d])):=by
 unfold storeAt
 rw [Hp.at_lay_self]
 dsimp only
 rw [if_pos ⟨by simp,rfl⟩,Hp.set_lay_self]
 rfl
theorem take_getP {P:List (Int×Int)} {k:Nat} (hk:k≤P.length):(P.take k).length = k:=by rw [List.length_take]; omega
attribute [local irreducible] E idxN cellAt cellsAt storeAt callable helems hmoved lookIn findKey keyOk hentries Hp.at Hp.set Hp.lay arBits hupdated setAt CallP YieldP BoolOf IsWrap Rnd LoopP AppP CutP Int.tmod Int.tdiv Int.fdiv
section
variable [Unknowns]
attribute [local irreducible] ResP sameAt GB flat
theorem tame_spec (n0:Int) (v:Value) (L:List (Int×Int)) (most:Nat) (hm:most≤9) (h:Hp) (hv:PairsV h v L) (hl:L.length < 9223372036854775808) :
  CallP E 17 [int n0,v,int most] h (fun r h'=>∃ (n:Nat) (v':Value) (P:List (Int×Int)),r = .tuple ⟨[int n,v']⟩∧NetOk n P∧P.length≤most∧GB h h' v' P∧Grows h h'):=by
 obtain ⟨av,cap,rfl,hcv⟩:=id hv
 refine enter17 (by simp) ?_
 have hux:=u64_of n0
 obtain ⟨u,u0,u1,hu⟩:=hux
 have b1:=tmod_bd u0 (show (0:Int) < 6 by omega)
 obtain ⟨n,hn⟩:∃ n:Nat,1 + u.tmod 6 = (n:Int):=⟨(1 + u.tmod 6).toNat,by omega⟩
 conv=>whnf
 refine SeqP.go ?_
 conv=>whnf
 refine SeqP.go ?_
 conv=>whnf
 refine ⟨u,hu,?_⟩
 conv=>whnf
 refine ⟨by omega,?_⟩
 conv=>whnf
 refine ⟨u.tmod 6,wid (by omega),?_⟩
 conv=>whnf
 refine ⟨(n:Int),wie hn (by omega),?_⟩
 conv=>whnf
 refine SeqP.cut (α:=Unit) (fun _=>[(8,.slice none 0 0),(0,int n),(1,.slice av L.length cap),(2,int most)]) (fun _ h'=>h' = h) ?_ ?_
 ·conv=>whnf
  exact ⟨(),⟨rfl,rfl,rfl,rfl,trivial⟩,rfl,rfl⟩
 rintro _ φ h rfl
 conv=>whnf
 refine SeqP.cut (α:=List (Int×Int)×Value×Hp) (fun s=>[(8,s.2.1),(0,int n)]) (fun s h'=>h' = s.2.2∧NetOk n s.1∧s.1.length≤most∧GB h s.2.2 s.2.1 s.1∧Grows h s.2.2) ?_ ?_
 ·conv=>whnf
  refine SeqP.go ?_
  conv=>whnf
  refine loop_inv (α:=Nat×List (Int×Int)×Value×Hp) (fun s=>[(9,int s.1),(8,s.2.2.1),(0,int n),(1,.slice av L.length cap),(2,int most)]) (fun s=>s.2.2.2) (fun s=>s.1≤L.length∧s.1≤most∧NetOk n s.2.1∧s.2.1.length≤s.1∧GB h s.2.2.2 s.2.2.1 s.2.1∧Grows h s.2.2.2) (fun s=>L.length - s.1) (0,[],.slice none 0 0,h) ⟨Nat.zero_le _,Nat.zero_le _,⟨by omega,fun _ hp=>(by cases hp),List.Pairwise.nil⟩,Nat.le_refl _,GB.nil,.refl _⟩ ⟨rfl,rfl,rfl,rfl,rfl,trivial⟩ (Hp.Le.refl _) ?_
  rintro ⟨i,P,vP,H⟩ φ ⟨hi,him,hP,hPl,hb,hg⟩
  dsimp only at hi him hP hPl hb hg ⊢
  have hn0:=hP.n1
  conv=>whnf
  refine SeqP.go ?_
  conv=>whnf
  refine SeqP.go ?_
  conv=>whnf
  refine cmpB (fun c1=>?_) (fun c1=>?_)
  rotate_left
  ·conv=>whnf
   repeat (refine SeqP.go ?_; conv=>whnf)
   exact ⟨(P,vP,H),⟨rfl,rfl,trivial⟩,⟨rfl,hP,(by show P.length≤most; omega),hb,hg⟩,rfl⟩
  conv=>whnf
  refine cmpB (fun c2=>?_) (fun c2=>?_)
  rotate_left
  ·conv=>whnf
   repeat (refine SeqP.go ?_; conv=>whnf)
   exact ⟨(P,vP,H),⟨rfl,rfl,trivial⟩,⟨rfl,hP,(by show P.length≤most; omega),hb,hg⟩,rfl⟩
  conv=>whnf
  refine SeqP.go ?_
  conv=>whnf
  have hi':i < L.length:=by omega
  obtain ⟨r,o,rfl,hc0,hc1⟩:=hcv i hi'
  have hc0':cellAt H r (0 + (i * 2 + o)) = some (int (L[i]).1):=by rw [Nat.zero_add]; exact hg.cell hc0
  have hc1':cellAt H r (1 + (i * 2 + o)) = some (int (L[i]).2):=by rw [Nat.add_comm]; exact hg.cell hc1
  have hux:=u64_of (L[i]).1
  obtain ⟨u,u0,u1,hu⟩:=hux
  have hux':=u64_of (L[i]).2
  obtain ⟨u',u0',u1',hu'⟩:=hux'
  have e1:=tmod_bd u0 (show (0:Int) < (n:Int) by omega)
  have e2:=tmod_bd u0' (show (0:Int) < (n:Int) by omega)
  obtain ⟨x,hx⟩:∃ x:Nat,u.tmod n = (x:Int):=⟨(u.tmod n).toNat,by omega⟩
  obtain ⟨y,hy⟩:∃ y:Nat,u'.tmod n = (y:Int):=⟨(u'.tmod n).toNat,by omega⟩
  refine SeqP.cut (α:=Unit) (fun _=>[(10,int x),(11,int y),(9,int i),(8,vP),(0,int n),(1,.slice (some ⟨r,o,none⟩) L.length cap),(2,int most)]) (fun _ h'=>h' = H) ?_ ?_
  ·conv=>whnf
   refine ⟨rfl,⟨by omega,by omega⟩,?_⟩
   conv=>whnf
   refine ⟨⟨by omega,by omega⟩,?_⟩
   conv=>whnf
   refine ⟨_,hc0',?_⟩
   conv=>whnf
   refine ⟨u,hu,?_⟩
   conv=>whnf
   refine ⟨(n:Int),u64_id (by omega),?_⟩
   conv=>whnf
   refine ⟨by omega,?_⟩
   conv=>whnf
   refine ⟨(x:Int),wie hx (by omega),?_⟩
   conv=>whnf
   refine ⟨rfl,⟨by omega,by omega⟩,?_⟩
   conv=>whnf
   refine ⟨⟨by omega,by omega⟩,?_⟩
   conv=>whnf
   refine ⟨_,hc1',?_⟩
   conv=>whnf
   refine ⟨u',hu',?_⟩
   conv=>whnf
   refine ⟨(n:Int),u64_id (by omega),?_⟩
   conv=>whnf
   refine ⟨by omega,?_⟩
   conv=>whnf
   refine ⟨(y:Int),wie hy (by omega),?_⟩
   conv=>whnf
   exact ⟨(),⟨rfl,rfl,rfl,rfl,rfl,rfl,rfl,trivial⟩,rfl,rfl⟩
  rintro _ φ H rfl
  conv=>whnf
  refine SeqP.cut (α:=Hp) (fun s=>[(12,ptr H.next 0),(9,int i),(8,vP),(0,int n),(1,.slice (some ⟨r,o,none⟩) L.length cap),(2,int most)]) (fun s h'=>h' = s∧s = H.lay (.row 79 true [int (min x y:Nat),int (max x y:Nat)])) ?_ ?_
  ·conv=>whnf
   refine resP_val (v:=int ((min x y:Nat):Int)) (h:=H) ?_ ?_
   ·conv=>lhs; whnf
    refine congrArg (fun n=>HRes.val (Value.int .i64 n) H) ?_
    split <;> omega
   conv=>whnf
   refine resP_val (v:=int ((max x y:Nat):Int)) (h:=H) ?_ ?_
   ·conv=>lhs; whnf
    refine congrArg (fun n=>HRes.val (Value.int .i64 n) H) ?_
    split <;> omega
   conv=>whnf
   refine ⟨rfl,_,store2,?_⟩
   conv=>whnf
   exact ⟨_,⟨rfl,rfl,rfl,rfl,rfl,rfl,trivial⟩,⟨rfl,rfl⟩,rfl⟩
  rintro H1 φ _ ⟨rfl,rfl⟩
  have aD:(H.lay (.row 79 true [int (min x y:Nat),int (max x y:Nat)])).at H.next = some (.row 79 true [int (min x y:Nat),int (max x y:Nat)]):=Hp.at_lay_self _ _
  have gD:Grows H (H.lay (.row 79 true [int (min x y:Nat),int (max x y:Nat)])):=Grows.lay _ _
  generalize hHe:H.lay (.row 79 true [int (min x y:Nat),int (max x y:Nat)]) = H1 at aD gD
  have hb1:=hb.ext gD
  have hg1:=hg.trans gD
  have hpx:(0:Int)≤(min x y:Nat)∧((min x y:Nat):Int)≤(max x y:Nat)∧((max x y:Nat):Int) < n:=by omega
  have cd0:cellAt H1 H.next (0 + 0) = some (int (min x y:Nat)):=cellAt_row aD rfl
  have cd1:cellAt H1 H.next (1 + 0) = some (int (max x y:Nat)):=cellAt_row aD rfl
  generalize hDe:H.next = D at aD cd0 cd1
  conv=>whnf
  refine SeqP.go ?_
  conv=>whnf
  refine SeqP.cut (α:=Nat) (fun k=>[(13,int k),(12,ptr D 0),(9,int i),(8,vP),(0,int n),(1,.slice (some ⟨r,o,none⟩) L.length cap),(2,int most)]) (fun k h'=>h' = H1∧k≤P.length∧(∀ j,(hj:j < P.length)→j < k→leP P[j] (((min x y:Nat):Int),((max x y:Nat):Int)))∧(∀ h:k < P.length,¬ leP P[k] (((min x y:Nat):Int),((max x y:Nat):Int)))) ?_ ?_
  ·conv=>whnf
   obtain ⟨av,cP,rfl,hcP⟩:=id hb1.pairs
   refine loop_inv (α:=Nat) (fun k=>[(13,int k),(12,ptr D 0),(9,int i),(8,.slice av P.length cP),(0,int n),(1,.slice (some ⟨r,o,none⟩) L.length cap),(2,int most)]) (fun _=>H1) (fun k=>k≤P.length∧∀ j,(hj:j < P.length)→j < k→leP P[j] (((min x y:Nat):Int),((max x y:Nat):Int))) (fun k=>P.length - k) 0 ⟨Nat.zero_le _,fun j _ hj=>absurd hj (Nat.not_lt_zero _)⟩ ⟨rfl,rfl,rfl,rfl,rfl,rfl,rfl,trivial⟩ (Hp.Le.refl _) ?_
   rintro k φ ⟨hk,hlo⟩
   dsimp only at hk hlo ⊢
   conv=>whnf
   refine SeqP.go ?_
   conv=>whnf
   refine SeqP.go ?_
   conv=>whnf
   refine cmpB (fun d1=>?_) (fun d1=>?_)
   rotate_left
   ·conv=>whnf
    exact ⟨k,⟨rfl,rfl,rfl,rfl,rfl,rfl,rfl,trivial⟩,⟨rfl,hk,hlo,fun h=>by omega⟩,rfl⟩
   have hk':k < P.length:=by omega
   have hPk:=hb1.pairs
   have hgt:=PairsV.get hPk hk'
   obtain ⟨rP,oP,cP2,eP,p0,p1⟩:=hgt
   injection eP with eP1 _ eP2
   subst eP1; subst eP2
   have succ:leP P[k] (((min x y:Nat):Int),((max x y:Nat):Int))→∀ j,(hj:j < P.length)→j < k + 1→leP P[j] (((min x y:Nat):Int),((max x y:Nat):Int)):=by
    intro hle j hj hj1
    by_cases hjk:j = k
    ·subst hjk; exact hle
    ·exact hlo j hj (by omega)
   conv=>whnf
   refine ⟨rfl,⟨by omega,by omega⟩,?_⟩
   conv=>whnf
   refine ⟨⟨by omega,by omega⟩,?_⟩
   conv=>whnf
   refine ⟨_,p0,?_⟩
   conv=>whnf
   refine ⟨⟨by omega,by omega⟩,?_⟩
   conv=>whnf
   refine ⟨_,cd0,?_⟩
   conv=>whnf
   refine cmpB (fun d2=>?_) (fun d2=>?_)
   ·conv=>whnf
    refine ⟨_,wid (by omega),?_⟩
    conv=>whnf
    exact Rnd.mk (k + 1) ⟨by omega,succ (.inl d2)⟩ (by omega) ⟨rfl,rfl,rfl,rfl,rfl,rfl,rfl,trivial⟩ (Hp.Le.refl _) rfl
   conv=>whnf
   refine ⟨rfl,⟨by omega,by omega⟩,?_⟩
   conv=>whnf
   refine ⟨⟨by omega,by omega⟩,?_⟩
   conv=>whnf
   refine ⟨_,p0,?_⟩
   conv=>whnf
   refine ⟨⟨by omega,by omega⟩,?_⟩
   conv=>whnf
   refine ⟨_,cd0,?_⟩
   conv=>whnf
   refine cmpB (fun d3=>?_) (fun d3=>?_)
   rotate_left
   ·conv=>whnf
    refine ⟨k,⟨rfl,rfl,rfl,rfl,rfl,rfl,rfl,trivial⟩,⟨rfl,hk,hlo,fun h=>?_⟩,rfl⟩
    unfold leP
    dsimp only
    omega
   conv=>whnf
   refine ⟨rfl,⟨by omega,by omega⟩,?_⟩
   conv=>whnf
   refine ⟨⟨by omega,by omega⟩,?_⟩
   conv=>whnf
   refine ⟨_,p1,?_⟩
   conv=>whnf
   refine ⟨⟨by omega,by omega⟩,?_⟩
   conv=>whnf
   refine ⟨_,cd1,?_⟩
   conv=>whnf
   refine cmpB (fun d4=>?_) (fun d4=>?_)
   ·conv=>whnf
    refine ⟨_,wid (by omega),?_⟩
    conv=>whnf
    exact Rnd.mk (k + 1) ⟨by omega,succ (.inr ⟨d3,d4⟩)⟩ (by omega) ⟨rfl,rfl,rfl,rfl,rfl,rfl,rfl,trivial⟩ (Hp.Le.refl _) rfl
   ·conv=>whnf
    refine ⟨k,⟨rfl,rfl,rfl,rfl,rfl,rfl,rfl,trivial⟩,⟨rfl,hk,hlo,fun h=>?_⟩,rfl⟩
    unfold leP
    dsimp only
    omega
  rintro k φ H1 ⟨rfl,hk,hlo,hhi⟩
  have hlk:(P.take k).length = k:=take_getP hk
  have hbC:BuiltC h H1 79 2 vP P.length ((flat P).map int):=by unfold GB at hb1; exact hb1
  conv=>whnf
  refine SeqP.go ?_
  conv=>whnf
  refine SeqP.cut (α:=Value×Hp) (fun s=>[(14,s.1),(13,int k),(12,ptr D 0),(9,int i),(8,vP),(0,int n),(1,.slice (some ⟨r,o,none⟩) L.length cap),(2,int most)]) (fun s h'=>h' = s.2∧GB H1 s.2 s.1 (P.take k)∧Grows H1 s.2) ?_ ?_
  ·conv=>whnf
   refine CutP.built (i:=0) (j:=k) hbC (flat_one _) ⟨.inl ⟨rfl,rfl⟩,.inr rfl⟩ (Nat.zero_le _) hk ?_
   intro v1 hv1
   conv=>whnf
   refine AppP.cells (h0:=H1) BuiltC.nil (.refl _) hv1 (by omega) (by omega) ?_
   intro v2 h3 b3 g3 _
   have e3:[] ++ ((flat P).map int |>.drop (0 * 2)).take ((k - 0) * 2) = (flat (P.take k)).map int:=by
    rw [flat_take,List.map_take]; simp
   rw [e3,show 0 + (k - 0) = (P.take k).length by omega] at b3
   conv=>whnf
   exact ⟨(v2,h3),⟨rfl,rfl,rfl,rfl,rfl,rfl,rfl,rfl,trivial⟩,⟨rfl,by unfold GB; exact b3,g3⟩,rfl⟩
  rintro ⟨v2,_⟩ φ h3 ⟨rfl,b3,g3⟩
  dsimp only at b3 g3 ⊢
  have aD3:=g3.at_ _ _ aD
  conv=>whnf
  refine SeqP.cut (α:=Value×Hp) (fun s=>[(14,s.1),(13,int k),(9,int i),(8,vP),(0,int n),(1,.slice (some ⟨r,o,none⟩) L.length cap),(2,int most)]) (fun s h'=>h' = s.2∧GB H1 s.2 s.1 (P.take k ++ [(((min x y:Nat):Int),((max x y:Nat):Int))])∧Grows H1 s.2) ?_ ?_
  ·conv=>whnf
   refine ⟨_,cellsAt_row aD3 (by simp),?_⟩
   conv=>whnf
   have b3':BuiltC H1 h3 79 2 v2 (P.take k).length ((flat (P.take k)).map int):=by unfold GB at b3; exact b3
   refine AppP.cells (h0:=H1) (b3'.ext (Grows.lay _ _)) (g3.then_lay _) (elems_part (s:=2) (o:=0) (m:=1) (cs:=[int (min x y:Nat),int (max x y:Nat)]) (Hp.at_lay_self _ _) (by simp) rfl 1) (by omega) (by omega) ?_
   intro v3 h4 b4 g4 _
   have e4:(flat (P.take k)).map int ++ ([int (min x y:Nat),int (max x y:Nat)].drop 0).take (1 * 2) = (flat (P.take k ++ [(((min x y:Nat):Int),((max x y:Nat):Int))])).map int:=by
    rw [flat_app,List.map_append,flat_sing]
    rfl
   have e5:(P.take k).length + 1 = (P.take k ++ [(((min x y:Nat):Int),((max x y:Nat):Int))]).length:=by simp
   rw [e4,e5] at b4
   conv=>whnf
   exact ⟨(v3,h4),⟨rfl,rfl,rfl,rfl,rfl,rfl,rfl,trivial⟩,⟨rfl,by unfold GB; exact b4,g4⟩,rfl⟩
  rintro ⟨v3,_⟩ φ h4 ⟨rfl,b4,g4⟩
  dsimp only at b4 g4 ⊢
  have hbD:BuiltC h h4 79 2 vP P.length ((flat P).map int):=hbC.ext g4
  conv=>whnf
  refine CutP.built (i:=k) (j:=P.length) hbD (flat_one _) ⟨.inr rfl,.inl ⟨rfl,rfl⟩⟩ hk (Nat.le_refl _) ?_
  intro v4 hv4
  conv=>whnf
  have b4':BuiltC H1 h4 79 2 v3 (P.take k ++ [(((min x y:Nat):Int),((max x y:Nat):Int))]).length ((flat (P.take k ++ [(((min x y:Nat):Int),((max x y:Nat):Int))])).map int):=by unfold GB at b4; exact b4
  refine AppP.cells (h0:=H1) b4' g4 hv4 (by simp; omega) (by simp; omega) ?_
  intro v5 h5 b5 g5 _
  conv=>whnf
  have e6:(flat (P.take k ++ [(((min x y:Nat):Int),((max x y:Nat):Int))])).map int ++ (((flat P).map int).drop (k * 2)).take ((P.length - k) * 2) = (flat (P.take k ++ (((min x y:Nat):Int),((max x y:Nat):Int)) :: P.drop k)).map int:=by
   have hz:(((flat P).map int).drop (k * 2)).take ((P.length - k) * 2) = ((flat P).map int).drop (k * 2):=List.take_of_length_le (by rw [List.length_drop,List.length_map,flat_length]; omega)
   rw [hz,show P.take k ++ (((min x y:Nat):Int),((max x y:Nat):Int)) :: P.drop k = (P.take k ++ [(((min x y:Nat):Int),((max x y:Nat):Int))]) ++ P.drop k by simp,flat_app _ (P.drop k),List.map_append,flat_drop,List.map_drop]
  have e7:(P.take k ++ [(((min x y:Nat):Int),((max x y:Nat):Int))]).length + (P.length - k) = (P.take k ++ (((min x y:Nat):Int),((max x y:Nat):Int)) :: P.drop k).length:=by simp; omega
  rw [e6,e7] at b5
  have hl7:(P.take k ++ (((min x y:Nat):Int),((max x y:Nat):Int)) :: P.drop k).length = P.length + 1:=by simp; omega
  refine ⟨_,wid (by omega),?_⟩
  conv=>whnf
  exact Rnd.mk (i + 1,P.take k ++ (((min x y:Nat):Int),((max x y:Nat):Int)) :: P.drop k,v5,h5) ⟨by show i + 1≤L.length; omega,by show i + 1≤most; omega,hP.ins hpx hk hlo hhi,by rw [hl7]; show P.length + 1≤i + 1; omega,by unfold GB; exact BuiltC.back hg1.next b5,hg1.trans g5⟩ (by show L.length - (i + 1) < L.length - i; omega) ⟨rfl,rfl,rfl,rfl,rfl,trivial⟩ (Hp.Le.refl _) rfl
 rintro ⟨P,vP,_⟩ φ H ⟨rfl,hP,hPl,hb,hg⟩
 dsimp only at hP hPl hb hg ⊢
 have hsl:∃ a c,vP = .slice a P.length c:=by
  obtain ⟨a,c,e,_⟩:=hb.pairs
  exact ⟨a,c,e⟩
 obtain ⟨a,c,rfl⟩:=hsl
 conv=>whnf
 exact ⟨n,_,P,rfl,hP,hPl,hb,hg⟩
end
end Go.Proofs.Ythgjnkdealdmoaa
namespace Go.Proofs.Ythgjnkdealdmoaa
open Go.Rx Go.RowKit
def edg (P:List (Int×Int)) (k:Nat):Int×Int:=P.getD k (0,0)
end Go.Proofs.Ythgjnkdealdmoaa
namespace Go.Proofs.Ythgjnkdealdmoaa
open Go.Rx Go.RowKit
theorem edg_get {P:List (Int×Int)} {k:Nat} (hk:k < P.length):edg P k = P[k]:=by unfold edg; simp [List.getD,hk]
end Go.Proofs.Ythgjnkdealdmoaa
namespace Go.Proofs.Ythgjnkdealdmoaa
open Go.Rx Go.RowKit
attribute [local irreducible] E idxN cellAt cellsAt storeAt callable helems hmoved lookIn findKey keyOk hentries Hp.at Hp.set Hp.lay arBits hupdated setAt CallP YieldP BoolOf IsWrap Rnd LoopP AppP CutP Int.tmod Int.tdiv Int.fdiv
section
variable [Unknowns]
attribute [local irreducible] ResP sameAt flat
def gval (n:Nat) (v:Value):Value:=.agg ⟨[int n,v]⟩
structure GR (h H:Hp) (G:Nat) (p:List Int):Prop where
 next:h.next≤H.next
 at_:∀ r o,r≠G→h.at r = some o→H.at r = some o
 grp:H.at G = some (.row 116 true (p.map int))
theorem GR.cell {h H:Hp} {G:Nat} {p:List Int} (k:GR h H G p) {i:Nat} {j x:Int} (hj:j.toNat = i) (hx:p[i]? = some x):cellAt H G (offAt 0 j.toNat 1) = some (int x):=by
 rw [offAt_eq,hj,show 0 + i * 1 = i by omega]
 exact cellAt_row k.grp (by rw [List.getElem?_map,hx]; rfl)
theorem GR.set {h H:Hp} {G:Nat} {p:List Int} (k:GR h H G p) {i:Nat} {j x:Int} (hj:j.toNat = i) (hi:i < p.length):∃ H',storeAt H G (offAt 0 j.toNat 1) [int x] = some H'∧GR h H' G (p.set i x):=by
 rw [offAt_eq,hj,show 0 + i * 1 = i by omega,storeAt_row k.grp (by rw [List.length_map]; exact hi) rfl]
 refine ⟨_,rfl,⟨by rw [Hp.next_set]; exact k.next,fun r o hr e=>by rw [Hp.at_set_ne _ hr]; exact k.at_ r o hr e,?_⟩⟩
 rw [Hp.at_set_self _ (Hp.lt_of_at k.grp),List.map_set]
end
end Go.Proofs.Ythgjnkdealdmoaa
namespace Go.Proofs.Ythgjnkdealdmoaa
open Go.Rx Go.RowKit
attribute [local irreducible] E idxN cellAt cellsAt storeAt callable helems hmoved lookIn findKey keyOk hentries Hp.at Hp.set Hp.lay arBits hupdated setAt CallP YieldP BoolOf IsWrap Rnd LoopP AppP CutP Int.tmod Int.tdiv Int.fdiv
section
variable [Unknowns]
theorem isnan_spec (a:Int) (h:Hp):CallP E 145 [int a] h (fun r h'=>r = .bool false∧h' = h):=by
 refine enter145 (by simp) ?_
 ((conv=>whnf); repeat (refine SeqP.go ?_; conv=>whnf))
 refine cmpF (by omega) ?_
 ((conv=>whnf); repeat (refine SeqP.go ?_; conv=>whnf))
 exact ⟨rfl,rfl⟩
def cmpI (a b:Int):Int:=if a < b then -1 else if b < a then 1 else 0
theorem cmp_spec (a b:Int) (h:Hp):CallP E 133 [int a,int b] h (fun r h'=>r = int (cmpI a b)∧h' = h):=by
 refine enter133 (by simp) ?_
 ((conv=>whnf); repeat (refine SeqP.go ?_; conv=>whnf))
 refine CallP.mono (isnan_spec a h) ?_
 rintro r h1 ⟨rfl,rfl⟩
 ((conv=>whnf); repeat (refine SeqP.go ?_; conv=>whnf))
 refine CallP.mono (isnan_spec b h1) ?_
 rintro r h2 ⟨rfl,rfl⟩
 ((conv=>whnf); repeat (refine SeqP.go ?_; conv=>whnf))
 by_cases h3:a < b
 ·refine cmpT h3 ?_
  ((conv=>whnf); repeat (refine SeqP.go ?_; conv=>whnf))
  exact ⟨by unfold cmpI; rw [if_pos h3]; rfl,rfl⟩
 refine cmpF h3 ?_
 ((conv=>whnf); repeat (refine SeqP.go ?_; conv=>whnf))
 by_cases h4:b < a
 ·refine cmpT h4 ?_
  ((conv=>whnf); repeat (refine SeqP.go ?_; conv=>whnf))
  exact ⟨by unfold cmpI; rw [if_neg h3,if_pos h4]; rfl,rfl⟩
 refine cmpF h4 ?_
 ((conv=>whnf); repeat (refine SeqP.go ?_; conv=>whnf))
 exact ⟨by unfold cmpI; rw [if_neg h3,if_neg h4]; rfl,rfl⟩
def PLess (x y:Int×Int):Prop:=x.1 < y.1∨x.1 = y.1∧x.2 < y.2
theorem compare_spec (v w:Value) (x y:Int×Int) (h:Hp) (hv:Ints h v [x.1,x.2]) (hw:Ints h w [y.1,y.2]):CallP E 121 [v,w] h (fun r h'=>(∃ c:Int,r = int c∧(c < 0↔PLess x y)∧(c = 0↔x = y))∧h' = h):=by
 obtain ⟨a,b⟩:=x
 obtain ⟨c,d⟩:=y
 obtain ⟨av,cap,rfl,hc⟩:=id hv
 obtain ⟨aw,cap',rfl,hd⟩:=id hw
 obtain ⟨r,o,sp,e,hsp,hc0⟩:=hc 0 (by simp)
 subst e
 obtain ⟨r',o',sp',e,hsp',hd0⟩:=hd 0 (by simp)
 subst e
 have hc1:cellAt h r (1 + o) = some (int b):=by
  obtain ⟨_,_,_,e,_,h1⟩:=hc 1 (by simp)
  cases e
  exact h1
 have hd1:cellAt h r' (1 + o') = some (int d):=by
  obtain ⟨_,_,_,e,_,h1⟩:=hd 1 (by simp)
  cases e
  exact h1
 refine enter121 (by simp) ?_
 ((conv=>whnf); repeat (refine SeqP.go ?_; conv=>whnf))
 refine loop_inv (α:=Nat) (fun k=>[(11,int k),(10,int 2),(9,.slice (some ⟨r,o,sp⟩) 2 cap),(0,.slice (some ⟨r,o,sp⟩) 2 cap),(1,.slice (some ⟨r',o',sp'⟩) 2 cap')]) (fun _=>h) (fun k=>k≤2∧(1≤k→a = c)∧(2≤k→b = d)) (fun k=>2 - k) 0 ⟨by omega,by omega,by omega⟩ ⟨rfl,rfl,rfl,rfl,rfl,trivial⟩ (Hp.Le.refl _) ?_
 rintro k φ ⟨hk,h1,h2⟩
 have hk3:k = 0∨k = 1∨k = 2:=by omega
 ((conv=>whnf); repeat (refine SeqP.go ?_; conv=>whnf))
 refine cmpB (fun hb=>?_) (fun hb=>?_)
 rotate_left
 ·have:k = 2:=by omega
  subst this
  ((conv=>whnf); repeat (refine SeqP.go ?_; conv=>whnf))
  refine cmpF (by omega) ?_
  ((conv=>whnf); repeat (refine SeqP.go ?_; conv=>whnf))
  refine ⟨⟨0,rfl,?_,?_⟩,rfl⟩
  ·unfold PLess; dsimp only; omega
  ·rw [Prod.mk.injEq]; omega
 have hx:∃ x:Int,cellAt h r (k + o) = some (int x)∧(k = 0∧x = a∨k = 1∧x = b):=by
  rcases hk3 with rfl | rfl | rfl
  ·exact ⟨a,hc0,.inl ⟨rfl,rfl⟩⟩
  ·exact ⟨b,hc1,.inr ⟨rfl,rfl⟩⟩
  ·omega
 have hy:∃ y:Int,cellAt h r' (k + o') = some (int y)∧(k = 0∧y = c∨k = 1∧y = d):=by
  rcases hk3 with rfl | rfl | rfl
  ·exact ⟨c,hd0,.inl ⟨rfl,rfl⟩⟩
  ·exact ⟨d,hd1,.inr ⟨rfl,rfl⟩⟩
  ·omega
 obtain ⟨x,hx1,hx2⟩:=hx
 obtain ⟨y,hy1,hy2⟩:=hy
 ((conv=>whnf); repeat (refine SeqP.go ?_; conv=>whnf))
 refine ⟨hsp,⟨by omega,by omega⟩,?_⟩
 ((conv=>whnf); repeat (refine SeqP.go ?_; conv=>whnf))
 refine ⟨_,hx1,?_⟩
 ((conv=>whnf); repeat (refine SeqP.go ?_; conv=>whnf))
 refine cmpF (by omega) ?_
 ((conv=>whnf); repeat (refine SeqP.go ?_; conv=>whnf))
 refine ⟨hsp',⟨by omega,by omega⟩,?_⟩
 ((conv=>whnf); repeat (refine SeqP.go ?_; conv=>whnf))
 refine ⟨_,hy1,?_⟩
 ((conv=>whnf); repeat (refine SeqP.go ?_; conv=>whnf))
 refine CallP.mono (cmp_spec x y h) ?_
 rintro rr h3 ⟨rfl,rfl⟩
 ((conv=>whnf); repeat (refine SeqP.go ?_; conv=>whnf))
 by_cases hxy:x = y
 ·refine cmpF (fun hn=>hn (by unfold cmpI; rw [if_neg (by omega),if_neg (by omega)])) ?_
  ((conv=>whnf); repeat (refine SeqP.go ?_; conv=>whnf))
  refine ⟨_,wid (by omega),?_⟩
  ((conv=>whnf); repeat (refine SeqP.go ?_; conv=>whnf))
  exact Rnd.mk (k + 1) ⟨by omega,by omega,by omega⟩ (by omega) ⟨rfl,rfl,rfl,rfl,rfl,trivial⟩ (Hp.Le.refl _) rfl
 ·refine cmpT (fun hn=>by
   unfold cmpI at hn
   split at hn
   ·omega
   ·split at hn <;> omega) ?_
  ((conv=>whnf); repeat (refine SeqP.go ?_; conv=>whnf))
  refine ⟨⟨cmpI x y,rfl,?_,?_⟩,rfl⟩
  ·unfold PLess cmpI; dsimp only
   constructor
   ·intro h
    split at h
    ·omega
    ·split at h <;> omega
   ·intro h
    rw [if_pos (by omega)]
    omega
  ·rw [Prod.mk.injEq]
   constructor
   ·intro h
    unfold cmpI at h
    split at h
    ·omega
    ·split at h <;> omega
   ·intro h; exfalso; omega
end
end Go.Proofs.Ythgjnkdealdmoaa
namespace Go.Proofs.Ythgjnkdealdmoaa
open Go.Rx Go.RowKit
attribute [local irreducible] E idxN cellAt cellsAt storeAt callable helems hmoved lookIn findKey keyOk hentries Hp.at Hp.set Hp.lay arBits hupdated setAt CallP YieldP BoolOf IsWrap Rnd LoopP AppP CutP Int.tmod Int.tdiv Int.fdiv
section
variable [Unknowns]
attribute [local irreducible] ResP sameAt flat
theorem edges_spec (x y:Int×Int) (h:Hp):CallP E 100 [.agg ⟨[int x.1,int x.2]⟩,.agg ⟨[int y.1,int y.2]⟩] h (fun r h'=>(∃ c:Int,r = int c∧(c < 0↔PLess x y)∧(c = 0↔x = y))∧Grows h h'):=by
 refine enter100 (by simp) ?_
 conv=>whnf
 repeat (refine SeqP.go ?_; conv=>whnf)
 have a1:((h.lay (.row 79 true [int x.1,int x.2])).lay (.row 79 true [int y.1,int y.2])).at h.next = some (.row 79 true ([x.1,x.2].map int)):=Hp.at_lay_old _ (Hp.at_lay_self _ _)
 have a2:((h.lay (.row 79 true [int x.1,int x.2])).lay (.row 79 true [int y.1,int y.2])).at (h.lay (.row 79 true [int x.1,int x.2])).next = some (.row 79 true ([y.1,y.2].map int)):=Hp.at_lay_self _ _
 refine resP_cutA ?_ (by omega)
 conv=>whnf
 refine resP_cutA ?_ (by omega)
 conv=>whnf
 refine CallP.mono (compare_spec _ _ x y _ ?_ ?_) ?_
 ·exact ints_spot (l:=[x.1,x.2]) a1 (fun j hj=>by
   have hj2:j = 0∨j = 1:=by simp at hj; omega
   rcases hj2 with rfl | rfl <;> rfl)
 ·exact ints_spot (l:=[y.1,y.2]) a2 (fun j hj=>by
   have hj2:j = 0∨j = 1:=by simp at hj; omega
   rcases hj2 with rfl | rfl <;> rfl)
 rintro r h2 ⟨⟨c,rfl,hc⟩,rfl⟩
 conv=>whnf
 exact ⟨⟨c,rfl,hc⟩,(Grows.lay _ _).then_lay _⟩
theorem le_not {x y:Int×Int} (h:leP x y):¬ PLess y x:=by unfold leP at h; unfold PLess; omega
theorem Check_spec (n:Nat) (P:List (Int×Int)) (hP:NetOk n P) (hl:P.length≤9) (v:Value) (h:Hp) (hv:PairsV h v P):CallP E 60 [int n,v] h (fun r h'=>r = int 0∧Grows h h'):=by
 obtain ⟨av,cap,rfl,hcv⟩:=id hv
 have hn:=hP.n1
 refine enter60 (by simp) ?_
 conv=>whnf
 repeat (refine SeqP.go ?_; conv=>whnf)
 refine cmpF (by omega) ?_
 conv=>whnf
 refine cmpF (by omega) ?_
 conv=>whnf
 repeat (refine SeqP.go ?_; conv=>whnf)
 refine cmpF (by omega) ?_
 conv=>whnf
 repeat (refine SeqP.go ?_; conv=>whnf)
 refine loop_inv (α:=Nat×Hp) (fun s=>[(18,int s.1),(17,int P.length),(16,.slice av P.length cap),(0,int n),(1,.slice av P.length cap)]) (fun s=>s.2) (fun s=>s.1≤P.length∧Grows h s.2) (fun s=>P.length - s.1) (0,h) ⟨Nat.zero_le _,.refl _⟩ ⟨rfl,rfl,rfl,rfl,rfl,trivial⟩ (Hp.Le.refl _) ?_
 rintro ⟨k,H⟩ φ ⟨hk,hg⟩
 dsimp only at hk hg ⊢
 conv=>whnf
 repeat (refine SeqP.go ?_; conv=>whnf)
 refine cmpB (fun c1=>?_) (fun c1=>?_)
 rotate_left
 ·conv=>whnf
  repeat (refine SeqP.go ?_; conv=>whnf)
  exact ⟨rfl,hg⟩
 have hk':k < P.length:=by omega
 obtain ⟨r,o,rfl,hc0,hc1⟩:=hcv k hk'
 have hok:=hP.ok _ (List.getElem_mem hk')
 conv=>whnf
 repeat (refine SeqP.go ?_; conv=>whnf)
 refine ⟨rfl,⟨by omega,by omega⟩,?_⟩
 conv=>whnf
 refine ⟨[int (P[k]).1,int (P[k]).2],cellsAt_two (hg.cell hc0) (hg.cell hc1),?_⟩
 conv=>whnf
 refine ⟨rfl,_,store2,?_⟩
 have aD:(H.lay (.row 79 true [int (P[k]).1,int (P[k]).2])).at H.next = some (.row 79 true [int (P[k]).1,int (P[k]).2]):=Hp.at_lay_self _ _
 have q0:cellAt (H.lay (.row 79 true [int (P[k]).1,int (P[k]).2])) H.next (0 + 0) = some (int (P[k]).1):=cellAt_row aD rfl
 have q1:cellAt (H.lay (.row 79 true [int (P[k]).1,int (P[k]).2])) H.next (1 + 0) = some (int (P[k]).2):=cellAt_row aD rfl
 have hg':Grows h (H.lay (.row 79 true [int (P[k]).1,int (P[k]).2])):=hg.then_lay _
 conv=>whnf
 repeat (refine SeqP.go ?_; conv=>whnf)
 refine ⟨⟨by omega,by omega⟩,?_⟩
 conv=>whnf
 refine ⟨_,q0,?_⟩
 conv=>whnf
 refine cmpF (by omega) ?_
 conv=>whnf
 refine ⟨⟨by omega,by omega⟩,?_⟩
 conv=>whnf
 refine ⟨_,q0,?_⟩
 conv=>whnf
 refine ⟨⟨by omega,by omega⟩,?_⟩
 conv=>whnf
 refine ⟨_,q1,?_⟩
 conv=>whnf
 refine cmpF (by omega) ?_
 conv=>whnf
 refine ⟨⟨by omega,by omega⟩,?_⟩
 conv=>whnf
 refine ⟨_,q1,?_⟩
 conv=>whnf
 refine cmpF (by omega) ?_
 conv=>whnf
 repeat (refine SeqP.go ?_; conv=>whnf)
 refine cmpB (fun c2=>?_) (fun c2=>?_)
 rotate_left
 ·conv=>whnf
  repeat (refine SeqP.go ?_; conv=>whnf)
  refine ⟨_,wid (by omega),?_⟩
  conv=>whnf
  exact Rnd.mk (k + 1,_) ⟨by show k + 1≤P.length; omega,hg'⟩ (by show P.length - (k + 1) < P.length - k; omega) ⟨rfl,rfl,rfl,rfl,rfl,trivial⟩ (Hp.Le.refl _) rfl
 have hk1:k - 1 < P.length:=by omega
 have hcc:=hcv (k - 1) hk1
 obtain ⟨r',o',e',hd0,hd1⟩:=hcc
 obtain ⟨rfl,rfl⟩:r' = r∧o' = o:=by cases e'; exact ⟨rfl,rfl⟩
 have hsr:leP P[k - 1] P[k]:=(List.pairwise_iff_getElem.1 hP.srt) (k - 1) k hk1 hk' (by omega)
 conv=>whnf
 refine ⟨_,cellsAt_row aD (by simp),?_⟩
 conv=>whnf
 refine ⟨((k - 1:Nat):Int),wie (by omega) (by omega),?_⟩
 conv=>whnf
 refine ⟨rfl,⟨by omega,by omega⟩,?_⟩
 conv=>whnf
 refine ⟨[int (P[k - 1]).1,int (P[k - 1]).2],cellsAt_two (hg'.cell hd0) (hg'.cell hd1),?_⟩
 conv=>whnf
 refine CallP.mono (edges_spec P[k] P[k - 1] _) ?_
 rintro rr h2 ⟨⟨c,rfl,hcl,-⟩,hg2⟩
 conv=>whnf
 refine cmpF (fun h=>le_not hsr (hcl.1 h)) ?_
 conv=>whnf
 repeat (refine SeqP.go ?_; conv=>whnf)
 refine ⟨_,wid (by omega),?_⟩
 conv=>whnf
 exact Rnd.mk (k + 1,h2) ⟨by show k + 1≤P.length; omega,hg'.trans hg2⟩ (by show P.length - (k + 1) < P.length - k; omega) ⟨rfl,rfl,rfl,rfl,rfl,trivial⟩ (Hp.Le.refl _) rfl
end
end Go.Proofs.Ythgjnkdealdmoaa
namespace Go.Proofs.Ythgjnkdealdmoaa
open Go.Rx Go.RowKit
structure RK (h0 H:Hp) (G C:Nat) (s:List Int×Nat):Prop where
 next:h0.next≤H.next
 at_:∀ r o,r≠G→r≠C→h0.at r = some o→H.at r = some o
 grp:H.at G = some (.row 116 true (s.1.map int))
 cnt:H.at C = some (.row 3 true [int (s.2:Int)])
theorem RK.ext {h0 H H2:Hp} {G C:Nat} {s:List Int×Nat} (k:RK h0 H G C s) (g:Grows H H2):RK h0 H2 G C s :=
 ⟨Nat.le_trans k.next g.next,fun r o h1 h2 e=>g.at_ _ _ (k.at_ r o h1 h2 e),g.at_ _ _ k.grp,g.at_ _ _ k.cnt⟩
theorem RK.grows {h h0 H:Hp} {G C:Nat} {s:List Int×Nat} (k:RK h0 H G C s) (g:Grows h h0) (hG:h.next≤G) (hC:h.next≤C):Grows h H :=
 ⟨Nat.le_trans g.next k.next,fun r o e=>k.at_ r o (by have:=Hp.lt_of_at e; omega) (by have:=Hp.lt_of_at e; omega) (g.at_ _ _ e)⟩
end Go.Proofs.Ythgjnkdealdmoaa
namespace Go.Proofs.Ythgjnkdealdmoaa
open Go.Rx Go.RowKit
theorem ty83:(tiOf Try.prog 83).isSome = true:=by kernel_rfl
theorem sz83:((tiOf Try.prog 83).get ty83).size = 2:=by kernel_rfl
theorem ag83:((tiOf Try.prog 83).get ty83).agg = true:=by kernel_rfl
theorem te83:E.ty 83 = some ((tiOf Try.prog 83).get ty83):=ty_get (by kernel_rfl) (Option.some_get ty83).symm
end Go.Proofs.Ythgjnkdealdmoaa
namespace Go.Proofs.Ythgjnkdealdmoaa
open Go.Rx Go.RowKit
def lessP (P:List (Int×Int)) (k:Nat):List (Int×Int):=P.take k ++ P.drop (k + 1)
theorem lessP_len {P:List (Int×Int)} {k:Nat} (hk:k < P.length):(lessP P k).length = P.length - 1:=by unfold lessP; simp; omega
theorem flat_part (P:List (Int×Int)) (i j:Nat):(((flat P).map int).drop (i * 2)).take ((j - i) * 2) = (flat ((P.drop i).take (j - i))).map int:=by
 rw [flat_take,flat_drop,List.map_take,List.map_drop]
attribute [local irreducible] E idxN cellAt cellsAt storeAt callable helems hmoved lookIn findKey keyOk hentries Hp.at Hp.set Hp.lay arBits hupdated setAt CallP YieldP BoolOf IsWrap Rnd LoopP AppP CutP Int.tmod Int.tdiv Int.fdiv
section
variable [Unknowns]
attribute [local irreducible] ResP sameAt flat finP
theorem RWithout_spec (h0:Hp) (P:List (Int×Int)) (hl:P.length≤9) (k:Nat) (hk:k < P.length) (v:Value) (h:Hp) (hb:GB h0 h v P):CallP E 54 [v,int k] h (fun r h'=>GB h h' r (lessP P k)∧Grows h h'):=by
 have hbC:BuiltC h0 h 79 2 v P.length ((flat P).map int):=by unfold GB at hb; exact hb
 refine enter54 (by simp) ?_
 conv=>whnf
 refine SeqP.go ?_
 conv=>whnf
 refine SeqP.go ?_
 conv=>whnf
 refine SeqP.cut (α:=Value×Hp) (fun s=>[(5,s.1),(0,v),(1,int k)]) (fun s H=>H = s.2∧GB h s.2 s.1 (P.take k)∧Grows h s.2) ?_ ?_
 ·conv=>whnf
  refine CutP.built (i:=0) (j:=k) hbC (flat_one _) ⟨.inl ⟨rfl,rfl⟩,.inr rfl⟩ (Nat.zero_le _) (by omega) ?_
  intro v1 hv1
  conv=>whnf
  refine AppP.cells (h0:=h) BuiltC.nil (.refl _) hv1 (by omega) (by omega) ?_
  intro v2 h3 b3 g3 _
  have e3:[] ++ (((flat P).map int).drop (0 * 2)).take ((k - 0) * 2) = (flat (P.take k)).map int:=by
   rw [flat_part,List.nil_append,List.drop_zero,Nat.sub_zero]
  rw [e3,show 0 + (k - 0) = (P.take k).length by rw [List.length_take]; omega] at b3
  conv=>whnf
  exact ⟨(v2,h3),⟨rfl,rfl,rfl,trivial⟩,⟨rfl,by unfold GB; exact b3,g3⟩,rfl⟩
 rintro ⟨v2,_⟩ φ h3 ⟨rfl,b3,g3⟩
 dsimp only at b3 g3 ⊢
 have b3':BuiltC h h3 79 2 v2 (P.take k).length ((flat (P.take k)).map int):=by unfold GB at b3; exact b3
 have hlk:(P.take k).length = k:=take_getP (by omega)
 conv=>whnf
 refine ⟨((k + 1:Nat):Int),wie (by omega) (by omega),?_⟩
 conv=>whnf
 refine CutP.built (i:=k + 1) (j:=P.length) (hbC.ext g3) (flat_one _) ⟨.inr rfl,.inl ⟨rfl,rfl⟩⟩ (by omega) (Nat.le_refl _) ?_
 intro v4 hv4
 conv=>whnf
 refine AppP.cells (h0:=h) b3' g3 hv4 (by omega) (by omega) ?_
 intro v5 h5 b5 g5 _
 have e5:(flat (P.take k)).map int ++ (((flat P).map int).drop ((k + 1) * 2)).take ((P.length - (k + 1)) * 2) = (flat (lessP P k)).map int:=by
  have hz:(P.drop (k + 1)).take (P.length - (k + 1)) = P.drop (k + 1):=List.take_of_length_le (by rw [List.length_drop]; omega)
  rw [flat_part,hz,← List.map_append,← flat_app]
  rfl
 rw [e5,show (P.take k).length + (P.length - (k + 1)) = (lessP P k).length by rw [lessP_len hk]; omega] at b5
 have hsl:=BuiltC.slice b5
 obtain ⟨a,rfl,-⟩:=hsl
 conv=>whnf
 exact finP_one rfl rfl ⟨by unfold GB; exact b5,g5⟩
end
end Go.Proofs.Ythgjnkdealdmoaa
namespace Go.Proofs.Ythgjnkdealdmoaa
open Go.Rx Go.RowKit
attribute [local irreducible] E idxN cellAt cellsAt storeAt callable helems hmoved lookIn findKey keyOk hentries Hp.at Hp.set Hp.lay arBits hupdated setAt CallP YieldP BoolOf IsWrap Rnd LoopP AppP CutP Int.tmod Int.tdiv Int.fdiv
section
variable [Unknowns]
attribute [local irreducible] ResP sameAt flat finP
theorem withEdge_spec (n:Nat) (P:List (Int×Int)) (hP:NetOk n P) (hl:P.length≤9) (k:Nat) (hk:k < P.length) (v:Value) (h:Hp) (hv:PairsV h v P) :
  CallP E 91 [int n,v,int k] h (fun r h'=>r = .tuple ⟨[gval n v,int 0]⟩∧Grows h h'):=by
 obtain ⟨av,cap,rfl,-⟩:=id hv
 refine enter91 (by simp) ?_
 conv=>whnf
 refine SeqP.go ?_
 conv=>whnf
 generalize hH1:h.lay (.row 83 true [int 0,.slice none 0 0]) = H1
 have a1:H1.at h.next = some (.row 83 true [int 0,.slice none 0 0]):=by rw [← hH1]; exact Hp.at_lay_self _ _
 have g1:Grows h H1:=by rw [← hH1]; exact Grows.lay _ _
 repeat (refine SeqP.go ?_; conv=>whnf)
 refine CallP.mono (Check_spec n P hP hl _ H1 (hv.ext g1)) ?_
 rintro r H3 ⟨rfl,g3⟩
 conv=>whnf
 repeat (refine SeqP.go ?_; conv=>whnf)
 refine cmpF (by omega) ?_
 conv=>whnf
 repeat (refine SeqP.go ?_; conv=>whnf)
 refine cmpF (by omega) ?_
 conv=>whnf
 refine cmpF (by omega) ?_
 conv=>whnf
 repeat (refine SeqP.go ?_; conv=>whnf)
 have a14:=g3.at_ _ _ a1
 refine ⟨rfl,_,storeAt_full (vs:=[int n,.slice av P.length cap]) a14 rfl rfl rfl,?_⟩
 conv=>whnf
 repeat (refine SeqP.go ?_; conv=>whnf)
 refine leave_cell2 (r:=h.next) (o:=0) (cs:=[int n,.slice av P.length cap]) (w:=int 0) rfl rfl rfl te83 ag83 ?_ ?_
 ·rw [sz83,cellsAt_row (Hp.at_set_self _ (Hp.lt_of_at a14)) (Nat.le_refl _)]
  rfl
 ·exact ⟨rfl,(g1.trans g3).then_set _ (Nat.le_refl _)⟩
theorem isLoop_spec (n:Nat) (P:List (Int×Int)) (hl:P.length≤9) (k:Nat) (hk:k < P.length) (v:Value) (h:Hp) (hv:PairsV h v P) :
  CallP E 117 [gval n v,int k] h (fun r h'=>(∃ b,r = .bool b∧(b = true↔(P[k]).1 = (P[k]).2))∧Grows h h'):=by
 obtain ⟨av,cap,rfl,hcv⟩:=id hv
 have hgt:=PairsV.get hv hk
 obtain ⟨r,o,c',eP,p0,p1⟩:=hgt
 injection eP with eP1 _ eP2
 subst eP1; subst eP2
 have q0:=(Grows.lay h (.row 83 true [int n,.slice (some ⟨r,o,none⟩) P.length cap])).cell p0
 have q1:=(Grows.lay h (.row 83 true [int n,.slice (some ⟨r,o,none⟩) P.length cap])).cell p1
 refine enter117 (by simp) ?_
 conv=>whnf
 repeat (refine SeqP.go ?_; conv=>whnf)
 refine ⟨_,cellAt_row (Hp.at_lay_self _ _) rfl,?_⟩
 conv=>whnf
 refine ⟨rfl,⟨by omega,by omega⟩,?_⟩
 conv=>whnf
 refine ⟨⟨by omega,by omega⟩,?_⟩
 conv=>whnf
 refine ⟨_,q0,?_⟩
 conv=>whnf
 refine ⟨_,cellAt_row (Hp.at_lay_self _ _) rfl,?_⟩
 conv=>whnf
 refine ⟨rfl,⟨by omega,by omega⟩,?_⟩
 conv=>whnf
 refine ⟨⟨by omega,by omega⟩,?_⟩
 conv=>whnf
 refine ⟨_,q1,?_⟩
 conv=>whnf
 refine cmpB (fun c=>?_) (fun c=>?_)
 ·conv=>whnf
  repeat (refine SeqP.go ?_; conv=>whnf)
  exact finP_one rfl rfl ⟨⟨true,rfl,fun _=>c,fun _=>rfl⟩,Grows.lay _ _⟩
 ·conv=>whnf
  repeat (refine SeqP.go ?_; conv=>whnf)
  exact finP_one rfl rfl ⟨⟨false,rfl,fun e=>(by cases e),fun e=>absurd e c⟩,Grows.lay _ _⟩
end
end Go.Proofs.Ythgjnkdealdmoaa
namespace Go.Proofs.Ythgjnkdealdmoaa
open Go.Rx Go.RowKit
theorem arr2_eq (a b a' b':Int):pureRun Try.prog (Op.equal 79 (.agg ⟨[int a,int b]⟩) (.agg ⟨[int a',int b']⟩)) = some ((a == a') && (b == b')):=by
 have st:∀ (k:Program→Sem Bool),pureRun Try.prog (.program k) = pureRun Try.prog (k Try.prog):=fun k=>rfl
 conv=>lhs; whnf
 conv=>lhs; arg 2; whnf
 conv=>lhs; arg 2; arg 1; rw [Std.Legacy.Range.forIn_eq_forIn_range']
 conv=>lhs; arg 2; whnf
 repeat (rw [st]; conv=>lhs; arg 2; whnf)
 conv=>lhs; arg 2; arg 1; whnf
 conv=>lhs; arg 2; arg 1; arg 1; whnf
 dsimp only
 cases h0:(a == a')
 ·rfl
 conv=>lhs; arg 2; whnf
 repeat (rw [st]; conv=>lhs; arg 2; whnf)
 conv=>lhs; arg 2; arg 1; whnf
 conv=>lhs; arg 2; arg 1; arg 1; whnf
 dsimp only
 cases h1:(b == b')
 ·rfl
 ·rfl
theorem pr_bind {α β:Type} {P:Program}:∀ (x:Sem α) (f:α→Sem β),pureRun P (x >>= f) = match pureRun P x with | some v=>pureRun P (f v) | none=>none:=by
 intro x f
 show pureRun P (x.bind f) = _
 induction x with
 | pure a=>rfl
 | program k ih=>exact ih P
 | _=>rfl
theorem arr2_neq (x y:Operand) (a b:Int):aBin E .neq 79 x y (.agg ⟨[int a,int b]⟩) (.agg ⟨[int a,int b]⟩) = some (.bool false):=by
 show binData E .neq 79 x y (.agg ⟨[int a,int b]⟩) (.agg ⟨[int a,int b]⟩) = _
 unfold binData
 have hg:pureRun E.prog (eqGuard .neq 79 x y (.agg ⟨[int a,int b]⟩) (.agg ⟨[int a,int b]⟩)) = some ():=by kernel_rfl
 rw [pr_bind,hg]
 dsimp only
 have he:pureRun E.prog (Op.equal 79 (.agg ⟨[int a,int b]⟩) (.agg ⟨[int a,int b]⟩)) = some true:=by
  have h4:=arr2_eq a b a b
  simp only [beq_self_eq_true,Bool.and_self] at h4
  exact h4
 have hb:Go.binOp .neq 79 (.agg ⟨[int a,int b]⟩) (.agg ⟨[int a,int b]⟩) = (do let r ← Op.equal 79 (.agg ⟨[int a,int b]⟩) (.agg ⟨[int a,int b]⟩); pure (.bool !r)):=rfl
 rw [hb,pr_bind,he]
 rfl
attribute [local irreducible] E idxN cellAt cellsAt storeAt callable helems hmoved lookIn findKey keyOk hentries Hp.at Hp.set Hp.lay arBits hupdated setAt CallP YieldP BoolOf IsWrap Rnd LoopP AppP CutP Int.tmod Int.tdiv Int.fdiv
section
variable [Unknowns]
attribute [local irreducible] ResP sameAt flat
theorem pairs_spec (v w:Value) (P:List (Int×Int)) (hl:P.length≤100) (h:Hp) (hv:PairsV h v P) (hw:PairsV h w P):CallP E 53 [v,w] h (fun r h'=>r = .bool true∧h' = h):=by
 obtain ⟨av,cv,rfl,hcv⟩:=id hv
 obtain ⟨aw,cw,rfl,hcw⟩:=id hw
 refine enter53 (by simp) ?_
 conv=>whnf
 repeat (refine SeqP.go ?_; conv=>whnf)
 refine cmpF (by omega) ?_
 conv=>whnf
 repeat (refine SeqP.go ?_; conv=>whnf)
 refine loop_inv (α:=Nat) (fun k=>[(5,int k),(0,.slice av P.length cv),(1,.slice aw P.length cw)]) (fun _=>h) (fun k=>k≤P.length) (fun k=>P.length - k) 0 (Nat.zero_le _) ⟨rfl,rfl,rfl,trivial⟩ (Hp.Le.refl _) ?_
 rintro k φ hk
 have hk:k≤P.length:=hk
 conv=>whnf
 repeat (refine SeqP.go ?_; conv=>whnf)
 refine cmpB (fun c1=>?_) (fun c1=>?_)
 rotate_left
 ·conv=>whnf
  repeat (refine SeqP.go ?_; conv=>whnf)
  exact ⟨rfl,rfl⟩
 have hk':k < P.length:=by omega
 obtain ⟨r,o,rfl,p0,p1⟩:=hcv k hk'
 obtain ⟨r',o',rfl,q0,q1⟩:=hcw k hk'
 conv=>whnf
 repeat (refine SeqP.go ?_; conv=>whnf)
 refine ⟨rfl,⟨by omega,by omega⟩,?_⟩
 conv=>whnf
 refine ⟨[int (P[k]).1,int (P[k]).2],cellsAt_two p0 p1,?_⟩
 conv=>whnf
 refine ⟨rfl,⟨by omega,by omega⟩,?_⟩
 conv=>whnf
 refine ⟨[int (P[k]).1,int (P[k]).2],cellsAt_two q0 q1,?_⟩
 conv=>whnf
 refine resP_val (v:=.bool false) (h:=h) ?_ ?_
 ·show hval _ (aBin E .neq 79 _ _ (.agg ⟨[int (P[k]).1,int (P[k]).2]⟩) (.agg ⟨[int (P[k]).1,int (P[k]).2]⟩)) = _
  rw [arr2_neq]
  rfl
 conv=>whnf
 repeat (refine SeqP.go ?_; conv=>whnf)
 refine ⟨_,wid (by omega),?_⟩
 conv=>whnf
 exact Rnd.mk (k + 1) (show k + 1≤P.length by omega) (by show P.length - (k + 1) < P.length - k; omega) ⟨rfl,rfl,rfl,trivial⟩ (Hp.Le.refl _) rfl
end
end Go.Proofs.Ythgjnkdealdmoaa
namespace Go.Proofs.Ythgjnkdealdmoaa
open Go.Rx Go.RowKit
def mvd (i k v:Int):Int:=if v = k then i else if k < v then v - 1 else v
attribute [local irreducible] E idxN cellAt cellsAt storeAt callable helems hmoved lookIn findKey keyOk hentries Hp.at Hp.set Hp.lay arBits hupdated setAt CallP YieldP BoolOf IsWrap Rnd LoopP AppP CutP Int.tmod Int.tdiv Int.fdiv
section
variable [Unknowns]
attribute [local irreducible] ResP sameAt flat
theorem moved_spec (v i k:Int) (hv:-1000≤v∧v≤1000) (h:Hp):CallP E 94 [int v,int i,int k] h (fun r h'=>r = int (mvd i k v)∧h' = h):=by
 refine enter94 (by simp) ?_
 conv=>whnf
 repeat (refine SeqP.go ?_; conv=>whnf)
 refine cmpB (fun c1=>?_) (fun c1=>?_)
 ·conv=>whnf
  repeat (refine SeqP.go ?_; conv=>whnf)
  exact ⟨by unfold mvd; rw [if_pos c1]; rfl,rfl⟩
 conv=>whnf
 repeat (refine SeqP.go ?_; conv=>whnf)
 refine cmpB (fun c2=>?_) (fun c2=>?_)
 ·conv=>whnf
  repeat (refine SeqP.go ?_; conv=>whnf)
  refine ⟨v - 1,wid (by omega),?_⟩
  conv=>whnf
  exact ⟨by unfold mvd; rw [if_neg c1,if_pos c2]; rfl,rfl⟩
 ·conv=>whnf
  repeat (refine SeqP.go ?_; conv=>whnf)
  exact ⟨by unfold mvd; rw [if_neg c1,if_neg c2]; rfl,rfl⟩
theorem renamed_spec (v i k:Int) (hv:-1000≤v∧v≤1000) (h:Hp):CallP E 118 [int v,int i,int k] h (fun r h'=>r = int (mvd i k v)∧h' = h):=by
 refine enter118 (by simp) ?_
 conv=>whnf
 repeat (refine SeqP.go ?_; conv=>whnf)
 refine cmpB (fun c1=>?_) (fun c1=>?_)
 ·conv=>whnf
  repeat (refine SeqP.go ?_; conv=>whnf)
  exact ⟨by unfold mvd; rw [if_pos c1]; rfl,rfl⟩
 conv=>whnf
 repeat (refine SeqP.go ?_; conv=>whnf)
 refine cmpB (fun c2=>?_) (fun c2=>?_)
 ·conv=>whnf
  repeat (refine SeqP.go ?_; conv=>whnf)
  refine ⟨v - 1,wid (by omega),?_⟩
  conv=>whnf
  exact ⟨by unfold mvd; rw [if_neg c1,if_pos c2]; rfl,rfl⟩
 ·conv=>whnf
  repeat (refine SeqP.go ?_; conv=>whnf)
  exact ⟨by unfold mvd; rw [if_neg c1,if_neg c2]; rfl,rfl⟩
theorem less_spec (x y:Int×Int) (h:Hp):CallP E 95 [.agg ⟨[int x.1,int x.2]⟩,.agg ⟨[int y.1,int y.2]⟩] h (fun r h'=>(∃ b,r = .bool b∧(b = true↔PLess x y))∧Grows h h'):=by
 refine enter95 (by simp) ?_
 conv=>whnf
 repeat (refine SeqP.go ?_; conv=>whnf)
 have a1:((h.lay (.row 79 true [int x.1,int x.2])).lay (.row 79 true [int y.1,int y.2])).at h.next = some (.row 79 true [int x.1,int x.2]):=Hp.at_lay_old _ (Hp.at_lay_self _ _)
 have a2:((h.lay (.row 79 true [int x.1,int x.2])).lay (.row 79 true [int y.1,int y.2])).at (h.lay (.row 79 true [int x.1,int x.2])).next = some (.row 79 true [int y.1,int y.2]):=Hp.at_lay_self _ _
 have g:Grows h ((h.lay (.row 79 true [int x.1,int x.2])).lay (.row 79 true [int y.1,int y.2])):=(Grows.lay _ _).then_lay _
 refine ⟨⟨by omega,by omega⟩,?_⟩
 conv=>whnf
 refine ⟨_,cellAt_row a1 rfl,?_⟩
 conv=>whnf
 refine ⟨⟨by omega,by omega⟩,?_⟩
 conv=>whnf
 refine ⟨_,cellAt_row a2 rfl,?_⟩
 conv=>whnf
 refine cmpB (fun c1=>?_) (fun c1=>?_)
 ·conv=>whnf
  repeat (refine SeqP.go ?_; conv=>whnf)
  exact ⟨⟨true,rfl,fun _=>.inl c1,fun _=>rfl⟩,g⟩
 conv=>whnf
 refine ⟨⟨by omega,by omega⟩,?_⟩
 conv=>whnf
 refine ⟨_,cellAt_row a1 rfl,?_⟩
 conv=>whnf
 refine ⟨⟨by omega,by omega⟩,?_⟩
 conv=>whnf
 refine ⟨_,cellAt_row a2 rfl,?_⟩
 conv=>whnf
 refine cmpB (fun c2=>?_) (fun c2=>?_)
 rotate_left
 ·conv=>whnf
  repeat (refine SeqP.go ?_; conv=>whnf)
  exact ⟨⟨false,rfl,fun e=>(by cases e),fun e=>by unfold PLess at e; omega⟩,g⟩
 conv=>whnf
 refine ⟨⟨by omega,by omega⟩,?_⟩
 conv=>whnf
 refine ⟨_,cellAt_row a1 rfl,?_⟩
 conv=>whnf
 refine ⟨⟨by omega,by omega⟩,?_⟩
 conv=>whnf
 refine ⟨_,cellAt_row a2 rfl,?_⟩
 conv=>whnf
 refine cmpB (fun c3=>?_) (fun c3=>?_)
 ·conv=>whnf
  repeat (refine SeqP.go ?_; conv=>whnf)
  exact ⟨⟨true,rfl,fun _=>.inr ⟨c2,c3⟩,fun _=>rfl⟩,g⟩
 ·conv=>whnf
  repeat (refine SeqP.go ?_; conv=>whnf)
  exact ⟨⟨false,rfl,fun e=>(by cases e),fun e=>by unfold PLess at e; omega⟩,g⟩
end
end Go.Proofs.Ythgjnkdealdmoaa
namespace Go.Proofs.Ythgjnkdealdmoaa
open Go.Rx Go.RowKit
def O64 (O:Nat→Nat):Prop:=∀ w,w < 6→O w < 64
theorem O64.one:O64 (fun w=>2 ^ w):=fun w hw=>Nat.lt_of_lt_of_le (Nat.pow_lt_pow_right (by omega) hw) (by decide)
def rowO (O:Nat→Nat):List Value:=rowF 6 fun w=>((O w:Nat):Int)
theorem rowO_len (O:Nat→Nat):(rowO O).length = 6:=rowF_length _ _
theorem rowO_get {O:Nat→Nat} {w:Nat} (h:w < 6):(rowO O)[w]? = some (int ((O w:Nat):Int)):=rowF_get h
theorem rowO_set {O:Nat→Nat} {w v:Nat}:(rowO O).set w (int ((v:Nat):Int)) = rowO (fun j=>if j = w then v else O j):=by
 unfold rowO
 rw [rowF_set]
 refine rowF_congr fun k _=>?_
 dsimp only
 split <;> rfl
structure GO (h H:Hp) (G:Nat) (O:Nat→Nat):Prop where
 next:h.next≤H.next
 at_:∀ r o,r≠G→h.at r = some o→H.at r = some o
 grp:H.at G = some (.row 115 true (rowO O))
theorem GO.ext {h H H2:Hp} {G:Nat} {O:Nat→Nat} (k:GO h H G O) (g:Grows H H2):GO h H2 G O:=⟨Nat.le_trans k.next g.next,fun r o hr e=>g.at_ _ _ (k.at_ r o hr e),g.at_ _ _ k.grp⟩
theorem GO.cell {h H:Hp} {G:Nat} {O:Nat→Nat} (k:GO h H G O) {j:Nat} (hj:j < 6):cellAt H G (offAt 0 (j:Int).toNat 1) = some (int ((O j:Nat):Int)):=by
 rw [offAt_eq,show 0 + (j:Int).toNat * 1 = j by omega]
 exact cellAt_row k.grp (rowO_get hj)
theorem GO.set {h H:Hp} {G:Nat} {O:Nat→Nat} (k:GO h H G O) {j v:Nat} (hj:j < 6):∃ H',storeAt H G (offAt 0 (j:Int).toNat 1) [int ((v:Nat):Int)] = some H'∧GO h H' G (fun w=>if w = j then v else O w):=by
 rw [offAt_eq,show 0 + (j:Int).toNat * 1 = j by omega,storeAt_row k.grp (by rw [rowO_len]; exact hj) rfl]
 refine ⟨_,rfl,⟨by rw [Hp.next_set]; exact k.next,fun r o hr e=>by rw [Hp.at_set_ne _ hr]; exact k.at_ r o hr e,?_⟩⟩
 rw [Hp.at_set_self _ (Hp.lt_of_at k.grp),rowO_set]
theorem GO.grows {h0 h H:Hp} {G:Nat} {O:Nat→Nat} (k:GO h H G O) (g:Grows h0 h) (hG:h0.next≤G):Grows h0 H:=⟨Nat.le_trans g.next k.next,fun r o e=>k.at_ r o (by have:=Hp.lt_of_at e; omega) (g.at_ _ _ e)⟩
end Go.Proofs.Ythgjnkdealdmoaa
namespace Go.Proofs.Ythgjnkdealdmoaa
open Go.Rx Go.RowKit
structure One (h0 H:Hp) (r:Nat) (o:Rx.Obj):Prop where
 next:h0.next≤H.next
 at_:∀ k x,k≠r→h0.at k = some x→H.at k = some x
 obj:H.at r = some o
theorem One.ext {h0 H H2:Hp} {r:Nat} {o:Rx.Obj} (k:One h0 H r o) (g:Grows H H2):One h0 H2 r o:=⟨Nat.le_trans k.next g.next,fun i x hr e=>g.at_ _ _ (k.at_ i x hr e),g.at_ _ _ k.obj⟩
theorem One.set {h0 H:Hp} {r:Nat} {o o':Rx.Obj} (k:One h0 H r o):One h0 (H.set r o') r o':=⟨by rw [Hp.next_set]; exact k.next,fun i x hr e=>by rw [Hp.at_set_ne _ hr]; exact k.at_ i x hr e,Hp.at_set_self _ (Hp.lt_of_at k.obj)⟩
theorem One.grows {h h0 H:Hp} {r:Nat} {o:Rx.Obj} (k:One h0 H r o) (g:Grows h h0) (hr:h.next≤r):Grows h H :=
 ⟨Nat.le_trans g.next k.next,fun i x e=>k.at_ i x (by have:=Hp.lt_of_at e; omega) (g.at_ _ _ e)⟩
end Go.Proofs.Ythgjnkdealdmoaa
namespace Go.Proofs.Ythgjnkdealdmoaa
open Go.Rx Go.RowKit
theorem sub_val {x y r:Int} {h:Hp} (e:x - y = r) (b:-9223372036854775808≤r∧r < 9223372036854775808):hval h (arK .i64 .sub x y) = .val (int r) h:=by
 unfold arK
 dsimp only
 rw [e,wrapI_id b]
 rfl
end Go.Proofs.Ythgjnkdealdmoaa
namespace Go.Proofs.Ythgjnkdealdmoaa
open Go.Rx Go.RowKit
def u64 (n:Nat):Value:=.int .u64 (n:Int)
end Go.Proofs.Ythgjnkdealdmoaa
namespace Go.Proofs.Ythgjnkdealdmoaa
open Go.Rx Go.RowKit
def bare (n:Nat):Hp:=⟨n,fun _=>none⟩
structure RT (h0 H:Hp) (C:Nat) (v:Value) (l:List Int):Prop where
 next:h0.next + 1≤H.next
 at_:∀ r o,r≠C→h0.at r = some o→H.at r = some o
 cell:H.at C = some (.row 49 true [v])
 built:Built (bare (h0.next + 1)) H 3 v l
theorem RT.ext {h0 H H2:Hp} {C:Nat} {v:Value} {l:List Int} (k:RT h0 H C v l) (g:Grows H H2):RT h0 H2 C v l :=
 ⟨Nat.le_trans k.next g.next,fun r o hr e=>g.at_ _ _ (k.at_ r o hr e),g.at_ _ _ k.cell,k.built.ext g⟩
theorem RT.grows {h h0 H:Hp} {C:Nat} {v:Value} {l:List Int} (k:RT h0 H C v l) (g:Grows h h0) (hC:h.next≤C):Grows h H :=
 ⟨by have:=g.next; have:=k.next; omega,fun r o e=>k.at_ r o (by have:=Hp.lt_of_at e; omega) (g.at_ _ _ e)⟩
end Go.Proofs.Ythgjnkdealdmoaa
namespace Go.Proofs.Ythgjnkdealdmoaa
open Go.Rx Go.RowKit
theorem ty79:(tiOf Try.prog 79).isSome = true:=by kernel_rfl
theorem ty3:(tiOf Try.prog 3).isSome = true:=by kernel_rfl
theorem te3:E.ty 3 = some ((tiOf Try.prog 3).get ty3):=ty_get (by kernel_rfl) (Option.some_get ty3).symm
theorem se22:sliceElem E 22 = some (79,(tiOf Try.prog 79).get ty79):=by kernel_rfl
theorem sz79:((tiOf Try.prog 79).get ty79).size = 2:=by kernel_rfl
theorem by79:((tiOf Try.prog 79).get ty79).bytes = 16:=by kernel_rfl
theorem zc79:zeroCells ((tiOf Try.prog 79).get ty79) = some [int 0,int 0]:=by kernel_rfl
theorem int3:isIntDesc ((tiOf Try.prog 3).get ty3).desc = true:=by kernel_rfl
theorem ty22:(tiOf Try.prog 22).isSome = true:=by kernel_rfl
theorem te22:E.ty 22 = some ((tiOf Try.prog 22).get ty22):=ty_get (by kernel_rfl) (Option.some_get ty22).symm
theorem hcap_nil (h:Hp):hcap E h [22] [.slice none 0 0] = some (int 0):=by
 unfold hcap
 dsimp only
 rw [te22]
 dsimp only
 unfold hcapTI
 rw [show ((tiOf Try.prog 22).get ty22).desc = .slice 79 from by kernel_rfl]
 rfl
theorem cut_front {h:Hp} {r s n:Nat} {e:TypeId} {cs:List Value} (hr:h.at r = some (.row e false cs)) (hn:0 < n):hcutS h s (slc r 0 n n) none (some (int ((0:Nat):Int))) none = .val (slc r 0 0 n) h:=by
 have shape:hcutS h s (slc r 0 n n) none (some (int ((0:Nat):Int))) none = hcutObj h s r 0 true (some (0,0,n)) (h.at r):=by
  unfold hcutS
  dsimp only [slc]
  rw [bounds_of (len:=n) (i:=0) (j:=0) ⟨.inl ⟨rfl,rfl⟩,.inr rfl⟩ (Nat.le_refl _) (Nat.zero_le _) (Nat.le_refl _)]
  rfl
 rw [shape,hr]
 unfold hcutObj
 dsimp only
 unfold cutOf cutOpen
 dsimp only
 rw [show Nat.ble (Nat.succ 0) n = true from by rw [Nat.ble_eq]; omega]
 dsimp only
 show HRes.val (slc r (0 + 0 * s) (0 - 0) (n - 0)) h = _
 simp
attribute [local irreducible] E idxN cellAt cellsAt storeAt callable helems hmoved lookIn findKey keyOk hentries Hp.at Hp.set Hp.lay arBits hupdated setAt CallP YieldP BoolOf IsWrap Rnd LoopP AppP CutP Int.tmod Int.tdiv Int.fdiv
section
variable [Unknowns]
attribute [local irreducible] ResP sameAt flat
theorem Grow_spec (n:Nat) (hn:n≤9) (h:Hp):CallP E 130 [.slice none 0 0,int n] h (fun r h'=>(n = 0∧r = .slice none 0 0∧h' = h)∨(n≠0∧r = slc h.next 0 0 n∧h' = h.lay (.row 79 false (times [int 0,int 0] n)))):=by
 refine enter130 (by simp) ?_
 conv=>whnf
 repeat (refine SeqP.go ?_; conv=>whnf)
 refine cmpF (by omega) ?_
 conv=>whnf
 repeat (refine SeqP.go ?_; conv=>whnf)
 refine resP_val (v:=int 0) (h:=h) (by show hval h (hcap E h [22] [.slice none 0 0]) = _; rw [hcap_nil]; rfl) ?_
 conv=>whnf
 refine ⟨0,wie (by omega) (by omega),?_⟩
 conv=>whnf
 refine ⟨(n:Int),wie (by omega) (by omega),?_⟩
 conv=>whnf
 refine SeqP.go ?_
 conv=>whnf
 refine cmpB (fun hb=>?_) (fun hb=>?_)
 rotate_left
 ·have:n = 0:=by omega
  conv=>whnf
  repeat (refine SeqP.go ?_; conv=>whnf)
  exact .inl ⟨this,rfl,rfl⟩
 conv=>whnf
 refine resP_val (v:=int 0) (h:=h) (by show hval h (hcap E h [22] [.slice none 0 0]) = _; rw [hcap_nil]; rfl) ?_
 conv=>whnf
 refine CutP.val (v':=.slice none 0 0) rfl ?_
 conv=>whnf
 refine raw_made (n:=n) se22 te3 int3 rfl rfl (by omega) (by omega) zc79 (by rw [sz79]; rfl) (by rw [sz79]; omega) rfl (by rw [by79]; omega) ?_
 conv=>whnf
 refine CutP.val (v':=slc h.next 0 0 n) ?_ ?_
 ·exact cut_front (Hp.at_lay_self _ _) (by omega)
 conv=>whnf
 repeat (refine SeqP.go ?_; conv=>whnf)
 exact .inr ⟨by omega,rfl,rfl⟩
end
end Go.Proofs.Ythgjnkdealdmoaa
namespace Go.Proofs.Ythgjnkdealdmoaa
open Go.Rx Go.RowKit
theorem over_mid:∀ (vs a cs z:List Value),vs.length = cs.length→over (a ++ cs ++ z) a.length vs = a ++ vs ++ z
 | [],a,cs,z,h=>by
  have:cs = []:=List.eq_nil_of_length_eq_zero h.symm
  subst this
  rfl
 | v :: vs,a,c :: cs,z,h=>by
  show over ((a ++ c :: cs ++ z).set a.length v) (a.length + 1) vs = _
  have e1:(a ++ c :: cs ++ z).set a.length v = (a ++ [v]) ++ cs ++ z:=by
   rw [List.append_assoc,List.set_append_right _ _ (Nat.le_refl _)]
   simp
  rw [e1,show a.length + 1 = (a ++ [v]).length by simp,over_mid vs (a ++ [v]) cs z (by simpa using h)]
  simp
def zer (n:Nat):List Value:=times [int 0,int 0] n
theorem zer_len (n:Nat):(zer n).length = n * 2:=times_len _ _
structure CatAt (h:Hp) (r N k:Nat) (cs:List Value) (H:Hp):Prop where
 eq:H = h.lay (.row 79 false (cs ++ (zer N).drop (k * 2)))
theorem cat_step {h H:Hp} {N k m:Nat} {cs new:List Value} {x:Value} {K:Value→Hp→Prop} (k0:CatAt h h.next N k cs H) (hcs:cs.length = k * 2) (hx:ElemsC H 2 x m new) (hN:k + m≤N)
  (q:∀ H',CatAt h h.next N (k + m) (cs ++ new) H'→K (slc h.next 0 (k + m) N) H'):AppP E H 79 2 16 (slc h.next 0 k N) x K:=by
 obtain ⟨rfl⟩:=k0
 obtain ⟨h1,h2,h3,h4⟩:=id hx
 have hzl:=zer_len N
 refine AppP.fits (Hp.at_lay_self _ _) hx hN (by rw [List.length_append,List.length_drop,hcs,hzl]; omega) (q _ ⟨?_⟩)
 rw [Hp.set_lay_self]
 congr 2
 have e1:(zer N).drop (k * 2) = ((zer N).drop (k * 2)).take new.length ++ (zer N).drop ((k + m) * 2):=by
  have:=List.take_append_drop new.length ((zer N).drop (k * 2))
  rw [List.drop_drop,h3] at this
  rw [h3,show (k + m) * 2 = k * 2 + m * 2 by omega]
  exact this.symm
 rw [e1,← List.append_assoc,← hcs,over_mid _ _ _ _ (by rw [List.length_take,List.length_drop,hzl]; omega)]
theorem catGrows {h H:Hp} {N k:Nat} {cs:List Value} (k0:CatAt h h.next N k cs H):Grows h H:=by rw [k0.eq]; exact Grows.lay _ _
theorem catBuilt {h H:Hp} {N:Nat} {cs:List Value} (k0:CatAt h h.next N N cs H) (hl:cs.length = N * 2):BuiltC h H 79 2 (slc h.next 0 N N) N cs:=by
 refine ⟨hl,.inr ⟨h.next,rfl,Nat.le_refl _,false,?_⟩⟩
 rw [k0.eq,Hp.at_lay_self,List.drop_of_length_le (by rw [zer_len]; exact Nat.le_refl _),List.append_nil]
attribute [local irreducible] E idxN cellAt cellsAt storeAt callable helems hmoved lookIn findKey keyOk hentries Hp.at Hp.set Hp.lay arBits hupdated setAt CallP YieldP BoolOf IsWrap Rnd LoopP AppP CutP Int.tmod Int.tdiv Int.fdiv
section
variable [Unknowns]
attribute [local irreducible] ResP sameAt flat
theorem Concat_spec (R:Nat) (a1 a2:Option Addr) (m1 m2 k1 k2:Nat) (c1 c2:List Value) (hm:m1 + m2≤9) (h:Hp) (hR:h.at R = some (.row 22 true [.slice a1 m1 k1,.slice a2 m2 k2]))
  (h1:∀ h',Grows h h'→ElemsC h' 2 (.slice a1 m1 k1) m1 c1) (h2:∀ h',Grows h h'→ElemsC h' 2 (.slice a2 m2 k2) m2 c2) :
  CallP E 116 [slc R 0 2 2] h (fun r h'=>BuiltC h h' 79 2 r (m1 + m2) (c1 ++ c2)∧Grows h h'):=by
 have hc1:=(h1 h (.refl _)).2.2.1
 have hc2:=(h2 h (.refl _)).2.2.1
 have cR0:cellAt h R (offAt 0 ((0:Nat):Int).toNat 1) = some (.slice a1 m1 k1):=cellAt_row hR rfl
 have cR1:cellAt h R (offAt 0 ((1:Nat):Int).toNat 1) = some (.slice a2 m2 k2):=cellAt_row hR rfl
 refine enter116 (by simp) ?_
 conv=>whnf
 refine SeqP.go ?_
 conv=>whnf
 refine SeqP.go ?_
 conv=>whnf
 refine SeqP.cut (α:=Unit) (fun _=>[(3,int ((m1 + m2:Nat):Int)),(0,slc R 0 2 2)]) (fun _ H=>H = h) ?_ ?_
 ·conv=>whnf
  refine SeqP.go ?_
  conv=>whnf
  refine loop_inv (α:=Nat×Nat) (fun s=>[(11,int s.1),(10,int 2),(9,slc R 0 2 2),(3,int s.2),(0,slc R 0 2 2)]) (fun _=>h) (fun s=>s.1 = 0∧s.2 = 0∨s.1 = 1∧s.2 = m1∨s.1 = 2∧s.2 = m1 + m2) (fun s=>2 - s.1) (0,0) (.inl ⟨rfl,rfl⟩) ⟨rfl,rfl,rfl,rfl,rfl,trivial⟩ (Hp.Le.refl _) ?_
  rintro ⟨k,t⟩ φ hk
  dsimp only at hk ⊢
  rcases hk with ⟨rfl,rfl⟩ | ⟨rfl,rfl⟩ | ⟨rfl,rfl⟩
  ·conv=>whnf
   refine SeqP.go ?_
   conv=>whnf
   refine cmpT (by omega) ?_
   conv=>whnf
   repeat (refine SeqP.go ?_; conv=>whnf)
   refine ⟨rfl,⟨by omega,by omega⟩,?_⟩
   conv=>whnf
   refine ⟨_,cR0,?_⟩
   conv=>whnf
   repeat (refine SeqP.go ?_; conv=>whnf)
   refine ⟨(m1:Int),wie (by omega) (by omega),?_⟩
   conv=>whnf
   repeat (refine SeqP.go ?_; conv=>whnf)
   refine cmpF (by omega) ?_
   conv=>whnf
   refine ⟨_,wid (by omega),?_⟩
   conv=>whnf
   exact Rnd.mk (1,m1) (.inr (.inl ⟨rfl,rfl⟩)) (by show 2 - 1 < 2 - 0; decide) ⟨rfl,rfl,rfl,rfl,rfl,trivial⟩ (Hp.Le.refl _) rfl
  ·conv=>whnf
   refine SeqP.go ?_
   conv=>whnf
   refine cmpT (by omega) ?_
   conv=>whnf
   repeat (refine SeqP.go ?_; conv=>whnf)
   refine ⟨rfl,⟨by omega,by omega⟩,?_⟩
   conv=>whnf
   refine ⟨_,cR1,?_⟩
   conv=>whnf
   repeat (refine SeqP.go ?_; conv=>whnf)
   refine ⟨((t + m2:Nat):Int),wie (by omega) (by omega),?_⟩
   conv=>whnf
   repeat (refine SeqP.go ?_; conv=>whnf)
   refine cmpF (by omega) ?_
   conv=>whnf
   refine ⟨_,wid (by omega),?_⟩
   conv=>whnf
   exact Rnd.mk (2,t + m2) (.inr (.inr ⟨rfl,rfl⟩)) (by show 2 - 2 < 2 - 1; decide) ⟨rfl,rfl,rfl,rfl,rfl,trivial⟩ (Hp.Le.refl _) rfl
  ·conv=>whnf
   refine SeqP.go ?_
   conv=>whnf
   refine cmpF (by omega) ?_
   conv=>whnf
   exact ⟨(),⟨rfl,rfl,trivial⟩,rfl,rfl⟩
 rintro _ φ h rfl
 conv=>whnf
 refine SeqP.cut (α:=Value×Hp) (fun s=>[(6,s.1),(0,slc R 0 2 2)]) (fun s H=>H = s.2∧((m1 + m2 = 0∧s.1 = .slice none 0 0∧s.2 = h)∨(m1 + m2≠0∧s.1 = slc h.next 0 0 (m1 + m2)∧CatAt h h.next (m1 + m2) 0 [] s.2))) ?_ ?_
 ·conv=>whnf
  refine CallP.mono (Grow_spec (m1 + m2) hm h) ?_
  rintro r H (⟨e0,rfl,rfl⟩ | ⟨e0,rfl,rfl⟩)
  ·conv=>whnf
   exact ⟨(_,H),⟨rfl,rfl,trivial⟩,⟨rfl,.inl ⟨e0,rfl,rfl⟩⟩,rfl⟩
  ·conv=>whnf
   exact ⟨(_,_),⟨rfl,rfl,trivial⟩,⟨rfl,.inr ⟨e0,rfl,⟨rfl⟩⟩⟩,rfl⟩
 rintro ⟨v,_⟩ φ H ⟨rfl,hvH⟩
 dsimp only at hvH ⊢
 rcases hvH with ⟨e0,rfl,eH⟩ | ⟨e0,rfl,hcat⟩
 ·have eH:=eH.symm
  subst eH
  have e1:m1 = 0:=by omega
  have e2:m2 = 0:=by omega
  have q1:c1 = []:=List.eq_nil_of_length_eq_zero (by rw [hc1,e1])
  have q2:c2 = []:=List.eq_nil_of_length_eq_zero (by rw [hc2,e2])
  have z1:∀ H v,ElemsC H 2 v m1 c1→ElemsC H 2 v 0 []:=fun H v h=>by rw [e1,q1] at h; exact h
  have z2:∀ H v,ElemsC H 2 v m2 c2→ElemsC H 2 v 0 []:=fun H v h=>by rw [e2,q2] at h; exact h
  conv=>whnf
  refine SeqP.cut (α:=Value×Hp) (fun s=>[(6,s.1)]) (fun s H=>H = s.2∧BuiltC h s.2 79 2 s.1 (m1 + m2) (c1 ++ c2)∧Grows h s.2) ?_ ?_
  ·conv=>whnf
   refine SeqP.go ?_
   conv=>whnf
   refine loop_inv (α:=Nat×Value×Hp) (fun s=>[(27,int s.1),(26,int 2),(25,slc R 0 2 2),(6,s.2.1)]) (fun s=>s.2.2) (fun s=>(s.1 = 0∨s.1 = 1∨s.1 = 2)∧BuiltC h s.2.2 79 2 s.2.1 0 []∧Grows h s.2.2) (fun s=>2 - s.1) (0,.slice none 0 0,h) (⟨.inl rfl,BuiltC.nil,.refl _⟩) ⟨rfl,rfl,rfl,rfl,trivial⟩ (Hp.Le.refl _) ?_
   rintro ⟨k,v,H⟩ φ ⟨hk,hb,hg⟩
   dsimp only at hk hb hg ⊢
   rcases hk with rfl | rfl | rfl
   ·conv=>whnf
    refine SeqP.go ?_
    conv=>whnf
    refine cmpT (by omega) ?_
    conv=>whnf
    repeat (refine SeqP.go ?_; conv=>whnf)
    refine ⟨rfl,⟨by omega,by omega⟩,?_⟩
    conv=>whnf
    refine ⟨_,hg.cell cR0,?_⟩
    conv=>whnf
    repeat (refine SeqP.go ?_; conv=>whnf)
    refine AppP.cells (m:=0) hb hg (z1 H _ (h1 H hg)) (by omega) (by omega) ?_
    intro v' H' hb' hg' _
    conv=>whnf
    refine ⟨_,wid (by omega),?_⟩
    conv=>whnf
    exact Rnd.mk (1,v',H') ⟨.inr (.inl rfl),hb',hg'⟩ (by show 2 - 1 < 2 - 0; decide) ⟨rfl,rfl,rfl,rfl,trivial⟩ (Hp.Le.refl _) rfl
   ·conv=>whnf
    refine SeqP.go ?_
    conv=>whnf
    refine cmpT (by omega) ?_
    conv=>whnf
    repeat (refine SeqP.go ?_; conv=>whnf)
    refine ⟨rfl,⟨by omega,by omega⟩,?_⟩
    conv=>whnf
    refine ⟨_,hg.cell cR1,?_⟩
    conv=>whnf
    repeat (refine SeqP.go ?_; conv=>whnf)
    refine AppP.cells (m:=0) hb hg (z2 H _ (h2 H hg)) (by omega) (by omega) ?_
    intro v' H' hb' hg' _
    conv=>whnf
    refine ⟨_,wid (by omega),?_⟩
    conv=>whnf
    exact Rnd.mk (2,v',H') ⟨.inr (.inr rfl),hb',hg'⟩ (by show 2 - 2 < 2 - 1; decide) ⟨rfl,rfl,rfl,rfl,trivial⟩ (Hp.Le.refl _) rfl
   ·conv=>whnf
    refine SeqP.go ?_
    conv=>whnf
    refine cmpF (by omega) ?_
    conv=>whnf
    exact ⟨(v,H),⟨rfl,trivial⟩,⟨rfl,by rw [e0,q1,q2]; exact hb,hg⟩,rfl⟩
  rintro ⟨v,_⟩ φ H ⟨rfl,hb,hg⟩
  dsimp only at hb hg ⊢
  rcases id hb with ⟨_,⟨rfl,_⟩ | ⟨r,rfl,_⟩⟩
  ·conv=>whnf
   repeat (refine SeqP.go ?_; conv=>whnf)
   exact ⟨hb,hg⟩
  ·conv=>whnf
   repeat (refine SeqP.go ?_; conv=>whnf)
   exact ⟨hb,hg⟩
 ·conv=>whnf
  refine SeqP.cut (α:=Value×Hp) (fun s=>[(6,s.1)]) (fun s H=>H = s.2∧BuiltC h s.2 79 2 s.1 (m1 + m2) (c1 ++ c2)∧Grows h s.2) ?_ ?_
  ·conv=>whnf
   refine SeqP.go ?_
   conv=>whnf
   refine loop_inv (α:=Nat×Value×Hp) (fun s=>[(27,int s.1),(26,int 2),(25,slc R 0 2 2),(6,s.2.1)]) (fun s=>s.2.2) (fun s=>(s.1 = 0∧s.2.1 = slc h.next 0 0 (m1 + m2)∧CatAt h h.next (m1 + m2) 0 [] s.2.2)∨(s.1 = 1∧s.2.1 = slc h.next 0 m1 (m1 + m2)∧CatAt h h.next (m1 + m2) m1 c1 s.2.2)∨(s.1 = 2∧s.2.1 = slc h.next 0 (m1 + m2) (m1 + m2)∧CatAt h h.next (m1 + m2) (m1 + m2) (c1 ++ c2) s.2.2)) (fun s=>2 - s.1) (0,_,H) (.inl ⟨rfl,rfl,hcat⟩) ⟨rfl,rfl,rfl,rfl,trivial⟩ (Hp.Le.refl _) ?_
   rintro ⟨k,v,H⟩ φ hk
   dsimp only at hk ⊢
   rcases hk with ⟨rfl,rfl,hcat⟩ | ⟨rfl,rfl,hcat⟩ | ⟨rfl,rfl,hcat⟩
   ·conv=>whnf
    refine SeqP.go ?_
    conv=>whnf
    refine cmpT (by omega) ?_
    conv=>whnf
    repeat (refine SeqP.go ?_; conv=>whnf)
    refine ⟨rfl,⟨by omega,by omega⟩,?_⟩
    conv=>whnf
    refine ⟨_,(catGrows hcat).cell cR0,?_⟩
    conv=>whnf
    repeat (refine SeqP.go ?_; conv=>whnf)
    refine cat_step hcat rfl (h1 H (catGrows hcat)) (by omega) ?_
    intro H' hcat'
    rw [Nat.zero_add] at hcat' ⊢
    rw [List.nil_append] at hcat'
    conv=>whnf
    refine ⟨_,wid (by omega),?_⟩
    conv=>whnf
    exact Rnd.mk (1,_,H') (.inr (.inl ⟨rfl,rfl,hcat'⟩)) (by show 2 - 1 < 2 - 0; decide) ⟨rfl,rfl,rfl,rfl,trivial⟩ (Hp.Le.refl _) rfl
   ·conv=>whnf
    refine SeqP.go ?_
    conv=>whnf
    refine cmpT (by omega) ?_
    conv=>whnf
    repeat (refine SeqP.go ?_; conv=>whnf)
    refine ⟨rfl,⟨by omega,by omega⟩,?_⟩
    conv=>whnf
    refine ⟨_,(catGrows hcat).cell cR1,?_⟩
    conv=>whnf
    repeat (refine SeqP.go ?_; conv=>whnf)
    refine cat_step hcat hc1 (h2 H (catGrows hcat)) (Nat.le_refl _) ?_
    intro H' hcat'
    conv=>whnf
    refine ⟨_,wid (by omega),?_⟩
    conv=>whnf
    exact Rnd.mk (2,_,H') (.inr (.inr ⟨rfl,rfl,hcat'⟩)) (by show 2 - 2 < 2 - 1; decide) ⟨rfl,rfl,rfl,rfl,trivial⟩ (Hp.Le.refl _) rfl
   ·conv=>whnf
    refine SeqP.go ?_
    conv=>whnf
    refine cmpF (by omega) ?_
    conv=>whnf
    exact ⟨(_,H),⟨rfl,trivial⟩,⟨rfl,catBuilt hcat (by rw [List.length_append]; omega),catGrows hcat⟩,rfl⟩
  rintro ⟨v,_⟩ φ H ⟨rfl,hb,hg⟩
  dsimp only at hb hg ⊢
  rcases id hb with ⟨_,⟨rfl,_⟩ | ⟨r,rfl,_⟩⟩
  ·conv=>whnf
   repeat (refine SeqP.go ?_; conv=>whnf)
   exact ⟨hb,hg⟩
  ·conv=>whnf
   repeat (refine SeqP.go ?_; conv=>whnf)
   exact ⟨hb,hg⟩
end
end Go.Proofs.Ythgjnkdealdmoaa
namespace Go.Proofs.Ythgjnkdealdmoaa
open Go.Rx Go.RowKit
theorem cutK {h0 h:Hp} {e s n:Nat} {v:Value} {cs:List Value} (k:BuiltC h0 h e s v n cs) (hone:cs.all oneCell = true) {lo hi:Option Value} {i j:Nat} (hb:BdOf lo hi n i j) (h1:i≤j) (h2:j≤n) :
  ∃ a c,ElemsC h s (.slice a (j - i) c) (j - i) ((cs.drop (i * s)).take ((j - i) * s))∧hcutS h s v lo hi none = .val (.slice a (j - i) c) h:=by
 obtain ⟨hl,⟨rfl,rfl⟩ | ⟨r,rfl,_,x,hr⟩⟩:=k
 ·have hj:j = 0:=by omega
  have hi:i = 0:=by omega
  subst hj; subst hi
  refine ⟨none,0,⟨rfl,by simp [helems],by simp,by simp⟩,?_⟩
  unfold hcutS
  dsimp only
  rw [bounds_of (len:=0) hb h1 h2 (Nat.le_refl _)]
  rfl
 ·have hjs:j * s≤n * s:=Nat.mul_le_mul_right _ h2
  have hij:i * s≤j * s:=Nat.mul_le_mul_right _ h1
  have hsub:(j - i) * s = j * s - i * s:=Nat.sub_mul _ _ _
  have shape:hcutS h s (slc r 0 n n) lo hi none = hcutObj h s r 0 true (some (i,j,n)) (h.at r):=by
   unfold hcutS
   dsimp only [slc]
   rw [bounds_of hb h1 h2 (Nat.le_refl _)]
   rfl
  have p1:∀ c,ElemsC h s (slc r (i * s) (j - i) c) (j - i) ((cs.drop (i * s)).take ((j - i) * s)):=fun c=>elems_part hr (by omega) hone c
  have p0:∀ o c,j - i = 0→o≤cs.length→ElemsC h s (slc r o (j - i) c) (j - i) ((cs.drop (i * s)).take ((j - i) * s)):=by
   intro o c e ho
   have:=elems_part (s:=s) (m:=j - i) hr (o:=o) (by rw [e]; omega) hone c
   rw [e,Nat.zero_mul] at this ⊢
   simpa using this
  rw [shape,hr]
  unfold hcutObj
  cases x with
  | true =>
   unfold cutExact cutTo
   dsimp only
   cases hbeq:Nat.beq n i with
   | true =>
    have:n = i:=Nat.eq_of_beq_eq_true hbeq
    exact ⟨_,_,p0 0 _ (by omega) (by omega),rfl⟩
   | false =>
    refine ⟨_,_,p1 (n - i),?_⟩
    show HRes.val (slc r (0 + i * s) (j - i) (n - i)) h = _
    rw [Nat.zero_add]
    rfl
  | false =>
   unfold cutOf cutOpen
   dsimp only
   cases hble:Nat.ble (Nat.succ i) n with
   | true =>
    refine ⟨_,_,p1 (n - i),?_⟩
    show HRes.val (slc r (0 + i * s) (j - i) (n - i)) h = _
    rw [Nat.zero_add]
    rfl
   | false =>
    have hn:¬ i + 1≤n:=fun hle=>by rw [Nat.ble_eq_true_of_le hle] at hble; cases hble
    unfold cutAll
    have e1:Nat.sub j i = 0:=by show j - i = 0; omega
    have e2:Nat.sub n i = 0:=by show n - i = 0; omega
    rw [e1,e2]
    have:j - i = 0:=by omega
    rw [this,Nat.zero_mul]
    refine ⟨_,_,?_,rfl⟩
    exact ⟨rfl,by unfold helems; dsimp only; rw [Nat.zero_mul]; rfl,by simp,by simp⟩
theorem elemsExt {h h':Hp} {s m:Nat} {a:Option Addr} {n c:Nat} {new:List Value} (g:Grows h h') (k:ElemsC h s (.slice a n c) m new):ElemsC h' s (.slice a n c) m new:=by
 obtain ⟨h1,h2,h3,h4⟩:=k
 refine ⟨h1,?_,h3,h4⟩
 unfold helems at h2 ⊢
 cases a with
 | none=>exact h2
 | some a =>
  obtain ⟨r,o,sp⟩:=a
  dsimp only at h2 ⊢
  split at h2
  ·exact h2
  ·exact g.cells h2
theorem oneGB {h0 h:Hp} {v:Value} {P:List (Int×Int)} (k:GB h0 h v P):∃ a c,v = .slice a P.length c:=by
 have:=k.pairs
 obtain ⟨a,c,e,-⟩:=this
 exact ⟨a,c,e⟩
attribute [local irreducible] E idxN cellAt cellsAt storeAt callable helems hmoved lookIn findKey keyOk hentries Hp.at Hp.set Hp.lay arBits hupdated setAt CallP YieldP BoolOf IsWrap Rnd LoopP AppP CutP Int.tmod Int.tdiv Int.fdiv
section
variable [Unknowns]
attribute [local irreducible] ResP sameAt flat finP
theorem without_spec (n:Nat) (P:List (Int×Int)) (hl:P.length≤9) (k:Nat) (hk:k < P.length) (v:Value) (h0 h:Hp) (hv:GB h0 h v P) :
  CallP E 92 [gval n v,int k] h (fun r h'=>(∃ a c,r = gval n (.slice a (P.length - 1) c)∧GB h h' (.slice a (P.length - 1) c) (lessP P k))∧Grows h h'):=by
 have hbC:BuiltC h0 h 79 2 v P.length ((flat P).map int):=by unfold GB at hv; exact hv
 obtain ⟨av,cap,rfl⟩:=oneGB hv
 have hll:=lessP_len hk
 have hex1:∃ H1,h.lay (.row 83 true [int n,.slice av P.length cap]) = H1:=⟨_,rfl⟩
 obtain ⟨H0,hH0⟩:=hex1
 have a83:H0.at h.next = some (.row 83 true [int n,.slice av P.length cap]):=by rw [← hH0]; exact Hp.at_lay_self _ _
 have g0:Grows h H0:=by rw [← hH0]; exact Grows.lay _ _
 have hex2:∃ H2,H0.lay (.row 83 true [int 0,.slice none 0 0]) = H2:=⟨_,rfl⟩
 obtain ⟨H2,hH2⟩:=hex2
 have aR:H2.at H0.next = some (.row 83 true [int 0,.slice none 0 0]):=by rw [← hH2]; exact Hp.at_lay_self _ _
 have g2:Grows H0 H2:=by rw [← hH2]; exact Grows.lay _ _
 have nn:=g0.next
 refine enter92 (by simp) ?_
 conv=>whnf
 refine SeqP.cut (α:=Unit) (fun _=>[(2,ptr h.next 0),(4,ptr H0.next 0),(1,int k)]) (fun _ H=>H = H2) ?_ ?_
 ·conv=>whnf
  exact ⟨(),⟨rfl,by rw [← hH0]; rfl,rfl,trivial⟩,by rw [← hH2,← hH0],rfl⟩
 rintro _ φ H2 rfl
 have hb2:=hbC.ext (g0.trans g2)
 have a83':=g2.at_ _ _ a83
 have c0:cellAt H2 h.next 0 = some (int n):=cellAt_row a83' rfl
 have c1:cellAt H2 h.next 1 = some (.slice av P.length cap):=cellAt_row a83' rfl
 have hcA:=cutK (i:=0) (j:=k) (lo:=none) (hi:=some (int k)) hb2 (flat_one _) ⟨.inl ⟨rfl,rfl⟩,.inr rfl⟩ (Nat.zero_le _) (by omega)
 have hcB:=cutK (i:=k + 1) (j:=P.length) (lo:=some (int ((k + 1:Nat):Int))) (hi:=none) hb2 (flat_one _) ⟨.inr rfl,.inl ⟨rfl,rfl⟩⟩ (by omega) (Nat.le_refl _)
 obtain ⟨aA,cA,eA,kA⟩:=hcA
 obtain ⟨aB,cB,eB,kB⟩:=hcB
 have eT:((flat P).map int |>.drop (0 * 2)).take ((k - 0) * 2) ++ (((flat P).map int).drop ((k + 1) * 2)).take ((P.length - (k + 1)) * 2) = (flat (lessP P k)).map int:=by
  have hz:(P.drop (k + 1)).take (P.length - (k + 1)) = P.drop (k + 1):=List.take_of_length_le (by rw [List.length_drop]; omega)
  rw [flat_part,flat_part,List.drop_zero,Nat.sub_zero,hz,← List.map_append,← flat_app]
  rfl
 conv=>whnf
 refine SeqP.go ?_
 conv=>whnf
 refine ⟨_,c0,?_⟩
 conv=>whnf
 refine ⟨_,c1,?_⟩
 conv=>whnf
 refine CutP.val kA ?_
 conv=>whnf
 refine ⟨_,c1,?_⟩
 conv=>whnf
 refine ⟨((k + 1:Nat):Int),wie (by omega) (by omega),?_⟩
 conv=>whnf
 refine CutP.val kB ?_
 conv=>whnf
 have gS:Grows H2 (H2.lay (.row 22 true [.slice aA (k - 0) cA,.slice aB (P.length - (k + 1)) cB])):=Grows.lay _ _
 refine CallP.mono (Concat_spec H2.next aA aB (k - 0) (P.length - (k + 1)) cA cB _ _ (by omega) _ (Hp.at_lay_self _ _) (fun h' g=>elemsExt (gS.trans g) eA) (fun h' g=>elemsExt (gS.trans g) eB)) ?_
 rw [eT,show k - 0 + (P.length - (k + 1)) = P.length - 1 by omega]
 rintro r H3 ⟨hb3,g3⟩
 have g23:=gS.trans g3
 have hbs:=BuiltC.slice hb3
 obtain ⟨a3,rfl,-⟩:=hbs
 conv=>whnf
 have aR3:=g23.at_ _ _ aR
 refine ⟨rfl,_,storeAt_full (vs:=[int n,.slice a3 (P.length - 1) (P.length - 1)]) aR3 rfl rfl rfl,?_⟩
 conv=>whnf
 refine ⟨?_,?_⟩
 rotate_left
 ·conv=>whnf
  repeat (refine SeqP.go ?_; conv=>whnf)
  refine leave_cell (i:=(tiOf Try.prog 83).get ty83) (r:=H0.next) (o:=0) (cs:=[int n,.slice a3 (P.length - 1) (P.length - 1)]) rfl te83 ag83 ?_ ?_
  ·rw [sz83,cellsAt_row (Hp.at_set_self _ (Hp.lt_of_at aR3)) (Nat.le_refl _)]
   rfl
  ·have hlt:=Hp.lt_of_at aR
   have gfin:Grows h (H3.set H0.next (.row 83 true [int n,.slice a3 (P.length - 1) (P.length - 1)])):=((g0.trans g2).trans g23).then_set _ nn
   refine ⟨⟨_,_,rfl,?_⟩,gfin⟩
   unfold GB
   rw [hll]
   refine BuiltC.kx (v:=slc H0.next 0 0 0) (hb3.back (Nat.le_trans (g0.trans g2).next gS.next)) (Kx.set H3 H0.next _) ?_
   intro r e1 e2
   have e1:H0.next = r:=Option.some.inj e1
   have:=(BuiltC.ad_lt hb3 r e2).1
   rw [Hp.next_lay] at this
   omega
 repeat' (first | exact True.intro | (refine And.intro ?_ ?_ <;> (conv=>whnf)))
 all_goals first
  | exact sameAt_val (h2:=_) rfl (sameV_ptr _ _)
  | exact sameAt_val (h2:=_) (congrArg (hval _) c0) (sameV_int _)
  | exact sameAt_val (h2:=_) (congrArg (hval _) (gS.cell c0)) (sameV_int _)
  | exact sameAt_val (h2:=_) (congrArg (hval _) (g23.cell c0)) (sameV_int _)
  | exact sameAt_val (h2:=_) (congrArg (hval _) (cellAt_row (show (H3.set H0.next _).at h.next = _ by rw [Hp.at_set_ne _ (by have:=Hp.lt_of_at a83; have:=Hp.lt_of_at aR; intro x; rw [x] at a83; exact absurd (Hp.lt_of_at a83) (Nat.lt_irrefl _))]; exact g23.at_ _ _ a83') rfl)) (sameV_int _)
end
end Go.Proofs.Ythgjnkdealdmoaa
namespace Go.Proofs.Ythgjnkdealdmoaa
open Go.Rx Go.RowKit
theorem flat_set:∀ (L:List (Int×Int)) (i:Nat) (x:Int×Int),i < L.length→((flat L).set (i * 2) x.1).set (i * 2 + 1) x.2 = flat (L.set i x)
 | [],i,x,h=>by simp at h
 | y :: L,0,x,_=>rfl
 | y :: L,i + 1,x,h=>by
  have ih:=flat_set L i x (by simpa using h)
  show (((y.1 :: y.2 :: flat L).set ((i + 1) * 2) x.1).set ((i + 1) * 2 + 1) x.2) = y.1 :: y.2 :: flat (L.set i x)
  rw [← ih,show (i + 1) * 2 = i * 2 + 1 + 1 by omega]
  rfl
theorem storeAt_two {h:Hp} {r o:Nat} {e:TypeId} {x:Bool} {cs:List Value} {v w:Value} (hr:h.at r = some (.row e x cs)) (ho:o + 2≤cs.length) (h1:oneCell v = true) (h2:oneCell w = true):storeAt h r o [v,w] = some (h.set r (.row e x ((cs.set o v).set (o + 1) w))):=by
 unfold storeAt
 rw [hr]
 dsimp only
 rw [if_pos ⟨by simpa using ho,by simp [h1,h2]⟩]
 rfl
structure EV (h0 H:Hp) (a:Option Addr) (r:Nat) (L:List (Int×Int)):Prop where
 next:h0.next≤H.next
 at_:∀ k x,k≠r→h0.at k = some x→H.at k = some x
 obj:(a = none∧L = [])∨(a = some ⟨r,0,none⟩∧∃ x,H.at r = some (.row 79 x ((flat L).map int)))
theorem EV.obj' {h0 H:Hp} {a:Option Addr} {r:Nat} {L:List (Int×Int)} (k:EV h0 H a r L) (hl:0 < L.length):a = some ⟨r,0,none⟩∧∃ x,H.at r = some (.row 79 x ((flat L).map int)):=by
 rcases k.obj with ⟨_,e⟩ | h
 ·rw [e] at hl; exact absurd hl (by decide)
 ·exact h
theorem EV.ext {h0 H H2:Hp} {a:Option Addr} {r:Nat} {L:List (Int×Int)} (k:EV h0 H a r L) (g:Grows H H2):EV h0 H2 a r L :=
 ⟨Nat.le_trans k.next g.next,fun i x hr e=>g.at_ _ _ (k.at_ i x hr e),k.obj.imp id fun ⟨e,x,hx⟩=>⟨e,x,g.at_ _ _ hx⟩⟩
theorem EV.get {h0 H:Hp} {a:Option Addr} {r:Nat} {L:List (Int×Int)} (k:EV h0 H a r L) {i:Nat} (hi:i < L.length):a = some ⟨r,0,none⟩∧cellsAt H r (offAt 0 i 2) 2 = some [int (L[i]).1,int (L[i]).2]:=by
 obtain ⟨e,x,hx⟩:=k.obj' (by omega)
 have hg:=flat_get L i hi
 refine ⟨e,?_⟩
 rw [offAt_eq,Nat.zero_add]
 exact cellsAt_two (cellAt_row hx (by rw [List.getElem?_map,hg.1]; rfl)) (cellAt_row hx (by rw [List.getElem?_map,hg.2]; rfl))
theorem EV.set {h0 H:Hp} {a:Option Addr} {r:Nat} {L:List (Int×Int)} (k:EV h0 H a r L) {i:Nat} (hi:i < L.length) (x:Int×Int):∃ H',storeAt H r (offAt 0 i 2) [int x.1,int x.2] = some H'∧EV h0 H' a r (L.set i x):=by
 obtain ⟨e,b,hb⟩:=k.obj' (by omega)
 have hlen:((flat L).map int).length = L.length * 2:=by rw [List.length_map,flat_length]
 rw [offAt_eq,Nat.zero_add,storeAt_two hb (by rw [hlen]; omega) rfl rfl]
 refine ⟨_,rfl,⟨by rw [Hp.next_set]; exact k.next,fun j o hr e=>by rw [Hp.at_set_ne _ hr]; exact k.at_ j o hr e,.inr ⟨e,b,?_⟩⟩⟩
 rw [Hp.at_set_self _ (Hp.lt_of_at hb),← flat_set L i x hi,List.map_set,List.map_set]
theorem EV.grows {h h0 H:Hp} {a:Option Addr} {r:Nat} {L:List (Int×Int)} (k:EV h0 H a r L) (g:Grows h h0) (hr:h.next≤r):Grows h H :=
 ⟨Nat.le_trans g.next k.next,fun i x e=>k.at_ i x (by have:=Hp.lt_of_at e; omega) (g.at_ _ _ e)⟩
theorem EV.of {h0 h:Hp} {a:Option Addr} {n c:Nat} {L:List (Int×Int)} (k:GB h0 h (.slice a n c) L):n = L.length∧c = n∧∃ r,h0.next≤r∧r≠h.next∧EV h h a r L:=by
 unfold GB at k
 obtain ⟨hl,⟨e,hn⟩ | ⟨r,e,hr,x,hx⟩⟩:=k
 ·injection e with e1 e2 e3
  exact ⟨by omega,by omega,h0.next + h.next + 7,by omega,by omega,Nat.le_refl _,fun _ _ _ e=>e,.inl ⟨e1,List.eq_nil_of_length_eq_zero hn⟩⟩
 ·unfold slc at e
  injection e with e1 e2 e3
  exact ⟨e2,by omega,r,hr,by have:=Hp.lt_of_at hx; omega,Nat.le_refl _,fun _ _ _ e=>e,.inr ⟨e1,x,hx⟩⟩
theorem EV.gb {h0 h H:Hp} {a:Option Addr} {r:Nat} {L:List (Int×Int)} (k:EV h0 H a r L) (hr:h.next≤r):GB h H (.slice a L.length L.length) L:=by
 unfold GB
 refine ⟨by rw [List.length_map,flat_length],?_⟩
 rcases k.obj with ⟨rfl,rfl⟩ | ⟨rfl,x,hx⟩
 ·exact .inl ⟨rfl,rfl⟩
 ·exact .inr ⟨r,rfl,hr,x,hx⟩
theorem EV.pairs {h0 H:Hp} {a:Option Addr} {r c:Nat} {L:List (Int×Int)} (k:EV h0 H a r L):PairsV H (.slice a L.length c) L:=by
 refine ⟨a,c,rfl,fun i hi=>?_⟩
 obtain ⟨e,x,hx⟩:=k.obj' (by omega)
 have hg:=flat_get L i hi
 exact ⟨r,0,e,cellAt_row hx (by rw [List.getElem?_map]; show Option.map int (flat L)[i * 2 + 0]? = _; rw [Nat.add_zero,hg.1]; rfl),cellAt_row hx (by rw [List.getElem?_map]; show Option.map int (flat L)[i * 2 + 0 + 1]? = _; rw [Nat.add_zero,hg.2]; rfl)⟩
def ins (x:Int×Int):List (Int×Int)→List (Int×Int)
 | []=>[x]
 | y :: l=>if x.1 < y.1∨x.1 = y.1∧x.2 < y.2 then x :: y :: l else y :: ins x l
def srt (M:List (Int×Int)):Nat→List (Int×Int)
 | 0=>[]
 | k + 1=>ins (edg M k) (srt M k)
theorem ins_len (x:Int×Int):∀ l,(ins x l).length = l.length + 1
 | []=>rfl
 | y :: l=>by
  unfold ins
  split
  ·rfl
  ·rw [List.length_cons,ins_len x l]; rfl
theorem srt_len (M:List (Int×Int)):∀ k,(srt M k).length = k
 | 0=>rfl
 | k + 1=>by unfold srt; rw [ins_len,srt_len M k]
theorem ins_cut (x:Int×Int):∀ (l:List (Int×Int)) (j:Nat),j≤l.length→(∀ i,(hi:i < l.length)→i < j→¬ PLess x l[i])→(∀ h:j < l.length,PLess x l[j])→l.take j ++ x :: l.drop j = ins x l
 | [],j,hj,_,_=>by
  have:j = 0:=by simpa using hj
  subst this
  rfl
 | y :: l,0,_,_,h=>by
  have:=h (by simp)
  have this:x.1 < y.1∨x.1 = y.1∧x.2 < y.2:=this
  unfold ins
  rw [if_pos this]
  rfl
 | y :: l,j + 1,hj,h1,h2=>by
  have h0:=h1 0 (by simp) (by omega)
  have h0:¬ (x.1 < y.1∨x.1 = y.1∧x.2 < y.2):=h0
  unfold ins
  rw [if_neg h0]
  show y :: (l.take j ++ x :: l.drop j) = _
  rw [ins_cut x l j (by simpa using hj) (fun i hi hij=>h1 (i + 1) (by simpa using hi) (by omega)) (fun h=>h2 (by simpa using h))]
theorem ins_mem {x y:Int×Int}:∀ {l:List (Int×Int)},y ∈ ins x l→y = x∨y ∈ l
 | [],h=>by simp [ins] at h; exact .inl h
 | z :: l,h=>by
  unfold ins at h
  split at h
  ·rcases List.mem_cons.1 h with h | h
   ·exact .inl h
   ·exact .inr h
  ·rcases List.mem_cons.1 h with h | h
   ·exact .inr (by simp [h])
   ·rcases ins_mem h with h | h
    ·exact .inl h
    ·exact .inr (by simp [h])
theorem le_of_not {x y:Int×Int} (h:¬ PLess x y):leP y x:=by unfold PLess at h; unfold leP; omega
theorem le_of_less {x y:Int×Int} (h:PLess x y):leP x y:=by unfold PLess at h; unfold leP; omega
theorem less_le {x y z:Int×Int} (h:PLess x y) (k:leP y z):PLess x z:=by unfold PLess at *; unfold leP at k; omega
theorem ins_sorted (x:Int×Int):∀ {l:List (Int×Int)},l.Pairwise leP→(ins x l).Pairwise leP
 | [],_=>by unfold ins; exact List.pairwise_cons.2 ⟨(fun y hy=>by cases hy),List.Pairwise.nil⟩
 | y :: l,h=>by
  obtain ⟨h1,h2⟩:=List.pairwise_cons.1 h
  unfold ins
  split
  ·rename_i hx
   refine List.pairwise_cons.2 ⟨fun z hz=>?_,h⟩
   rcases List.mem_cons.1 hz with rfl | hz
   ·exact le_of_less hx
   ·exact (le_of_less hx).trans (h1 z hz)
  ·rename_i hx
   refine List.pairwise_cons.2 ⟨fun z hz=>?_,ins_sorted x h2⟩
   rcases ins_mem hz with rfl | hz
   ·exact le_of_not hx
   ·exact h1 z hz
theorem srt_sorted (M:List (Int×Int)):∀ k,(srt M k).Pairwise leP
 | 0=>List.Pairwise.nil
 | k + 1=>ins_sorted _ (srt_sorted M k)
def midL (S:List (Int×Int)) (x:Int×Int) (j:Nat) (R:List (Int×Int)):List (Int×Int):=S.take j ++ x :: (S.drop j ++ R)
theorem midL_len {S:List (Int×Int)} {x:Int×Int} {j:Nat} {R:List (Int×Int)} (hj:j≤S.length):(midL S x j R).length = S.length + 1 + R.length:=by unfold midL; simp; omega
theorem midL_at {S:List (Int×Int)} {x:Int×Int} {j:Nat} {R:List (Int×Int)} (hj:j≤S.length):(midL S x j R)[j]? = some x:=by
 unfold midL
 rw [List.getElem?_append_right (by rw [List.length_take]; omega),List.length_take,show j - min j S.length = 0 by omega]
 rfl
theorem midL_pre {S:List (Int×Int)} {x:Int×Int} {j i:Nat} {R:List (Int×Int)} (hj:j≤S.length) (hi:i < j):(midL S x j R)[i]? = S[i]?:=by
 unfold midL
 rw [List.getElem?_append_left (by rw [List.length_take]; omega),List.getElem?_take,if_pos hi]
theorem midL_swap {S:List (Int×Int)} {x:Int×Int} {j:Nat} {R:List (Int×Int)} (hj:j < S.length):((midL S x (j + 1) R).set (j + 1) S[j]).set j x = midL S x j R:=by
 apply List.ext_getElem?
 intro i
 have hl1:=midL_len (S:=S) (x:=x) (R:=R) (j:=j + 1) (by omega)
 rw [List.getElem?_set,List.getElem?_set]
 by_cases h1:j = i
 ·subst h1
  rw [if_pos rfl,List.length_set,if_pos (by omega),midL_at (by omega)]
 ·rw [if_neg h1]
  unfold midL
  by_cases h2:j + 1 = i
  ·subst h2
   rw [if_pos rfl,if_pos (by simp; omega)]
   rw [List.getElem?_append_right (by rw [List.length_take]; omega),List.length_take,show j + 1 - min j S.length = 1 by omega,List.getElem?_cons_succ,List.getElem?_append_left (by rw [List.length_drop]; omega),List.getElem?_drop]
   rw [Nat.add_zero,List.getElem?_eq_getElem hj]
  ·rw [if_neg h2]
   by_cases h3:i < j
   ·rw [List.getElem?_append_left (by rw [List.length_take]; omega),List.getElem?_append_left (by rw [List.length_take]; omega),List.getElem?_take,List.getElem?_take,if_pos (by omega),if_pos h3]
   ·rw [List.getElem?_append_right (by rw [List.length_take]; omega),List.getElem?_append_right (by rw [List.length_take]; omega),List.length_take,List.length_take]
    have e1:i - min (j + 1) S.length = (i - (j + 2)) + 1:=by omega
    have e2:i - min j S.length = (i - (j + 2)) + 1 + 1:=by omega
    rw [e1,e2,List.getElem?_cons_succ,List.getElem?_cons_succ,List.drop_eq_getElem_cons hj,List.cons_append,List.getElem?_cons_succ]
end Go.Proofs.Ythgjnkdealdmoaa
namespace Go.Proofs.Ythgjnkdealdmoaa
open Go.Rx Go.RowKit
def cmpF100:Value:=.func (.func 100) ⟨[]⟩ ⟨[]⟩
theorem u8_id {n:Int} (h:0≤n∧n < 256):IsWrap .u8 n n:=by
 unfold IsWrap wrapI
 show n = (IntKind.wrap .u8 n)
 unfold IntKind.wrap
 simp [IntKind.bits,IntKind.signed]
 omega
attribute [local irreducible] E idxN cellAt cellsAt storeAt callable helems hmoved lookIn findKey keyOk hentries Hp.at Hp.set Hp.lay arBits hupdated setAt CallP YieldP BoolOf IsWrap Rnd LoopP AppP CutP Int.tmod Int.tdiv Int.fdiv
section
variable [Unknowns]
attribute [local irreducible] ResP sameAt flat
theorem sort_spec (h0:Hp) (a:Option Addr) (r c:Nat) (L:List (Int×Int)) (hl:L.length≤9) (h:Hp) (k0:EV h0 h a r L) :
  CallP E 135 [.slice a L.length c,int 0,int L.length,cmpF100] h (fun _ h'=>EV h0 h' a r (srt L L.length)):=by
 refine enter135 (by simp) ?_
 conv=>whnf
 refine SeqP.go ?_
 conv=>whnf
 refine ⟨1,wie (by omega) (by omega),?_⟩
 conv=>whnf
 refine loop_inv (α:=Nat×Hp) (fun s=>[(8,int s.1),(0,.slice a L.length c),(1,int 0),(2,int L.length),(3,cmpF100)]) (fun s=>s.2) (fun s=>1≤s.1∧(s.1≤L.length∨L.length = 0)∧EV h0 s.2 a r (srt L (min s.1 L.length) ++ L.drop s.1)) (fun s=>L.length - s.1) (1,h) ⟨Nat.le_refl _,by omega,?_⟩ ⟨rfl,rfl,rfl,rfl,rfl,trivial⟩ (Hp.Le.refl _) ?_
 ·rcases Nat.eq_zero_or_pos L.length with e | e
  ·have:L = []:=List.eq_nil_of_length_eq_zero e
   subst this
   exact k0
  ·have e2:min 1 L.length = 1:=by omega
   rw [e2]
   have e3:srt L 1 ++ L.drop 1 = L:=by
    show ins (edg L 0) [] ++ L.drop 1 = L
    rw [edg_get e]
    show [L[0]] ++ L.drop 1 = L
    have:=List.drop_eq_getElem_cons (l:=L) (i:=0) e
    rw [List.drop_zero] at this
    exact this.symm
   rw [e3]
   exact k0
 rintro ⟨i,H⟩ φ ⟨hi1,hi2,hk⟩
 dsimp only at hi1 hi2 hk ⊢
 conv=>whnf
 refine SeqP.go ?_
 conv=>whnf
 refine SeqP.go ?_
 conv=>whnf
 refine cmpB (fun c1=>?_) (fun c1=>?_)
 rotate_left
 ·have e1:srt L (min i L.length) ++ L.drop i = srt L L.length:=by
   rw [List.drop_eq_nil_of_le (by omega),List.append_nil,show min i L.length = L.length by omega]
  rw [e1] at hk
  conv=>whnf
  exact hk
 have hi:i < L.length:=by omega
 have e0:min i L.length = i:=by omega
 rw [e0] at hk
 have hsl:=srt_len L i
 have hss:=srt_sorted L i
 have hsn:srt L (i + 1) = ins L[i] (srt L i):=by show ins (edg L i) (srt L i) = _; rw [edg_get hi]
 have e1:srt L i ++ L.drop i = midL (srt L i) L[i] i (L.drop (i + 1)):=by
  unfold midL
  rw [List.take_of_length_le (by omega),List.drop_eq_nil_of_le (show (srt L i).length≤i by omega),List.nil_append,List.drop_eq_getElem_cons hi]
 rw [e1] at hk
 generalize srt L i = S at hk hsl hss hsn
 have hexx:∃ x,L[i] = x:=⟨_,rfl⟩
 obtain ⟨x,hx⟩:=hexx
 rw [hx] at hk hsn
 have hexR:∃ R,L.drop (i + 1) = R:=⟨_,rfl⟩
 obtain ⟨R,hR⟩:=hexR
 rw [hR] at hk
 have hRl:R.length = L.length - (i + 1):=by rw [← hR,List.length_drop]
 conv=>whnf
 refine SeqP.go ?_
 conv=>whnf
 refine SeqP.go ?_
 conv=>whnf
 refine loop_inv (α:=Nat×Hp) (fun s=>[(9,int s.1),(8,int i),(0,.slice a L.length c),(1,int 0),(2,int L.length),(3,cmpF100)]) (fun s=>s.2) (fun s=>s.1≤i∧(∀ q,(hq:q < S.length)→s.1≤q→PLess x S[q])∧EV h0 s.2 a r (midL S x s.1 R)) (fun s=>s.1) (i,H) ⟨Nat.le_refl _,fun q hq hiq=>absurd hiq (by omega),hk⟩ ⟨rfl,rfl,rfl,rfl,rfl,rfl,trivial⟩ (Hp.Le.refl _) ?_
 clear hk
 rintro ⟨j,H⟩ φ ⟨hj,hgt,hk⟩
 dsimp only at hj hgt hk ⊢
 have hml:=midL_len (S:=S) (x:=x) (R:=R) (j:=j) (by omega)
 have fin:(∀ q,(hq:q < S.length)→q < j→¬ PLess x S[q])→midL S x j R = srt L (min (i + 1) L.length) ++ L.drop (i + 1):=by
  intro hle
  rw [show min (i + 1) L.length = i + 1 by omega,hsn,hR,← ins_cut x S j (by omega) hle (fun h=>hgt j h (Nat.le_refl _))]
  unfold midL
  simp
 conv=>whnf
 refine SeqP.go ?_
 conv=>whnf
 refine SeqP.go ?_
 conv=>whnf
 refine cmpB (fun c2=>?_) (fun c2=>?_)
 rotate_left
 ·have hj0:j = 0:=by omega
  have fin:=fin fun q hq hqj=>by omega
  conv=>whnf
  refine ⟨_,wid (by omega),?_⟩
  conv=>whnf
  exact Rnd.mk (i + 1,H) ⟨by show 1≤i + 1; omega,by show i + 1≤L.length∨_; omega,by show EV h0 H a r (srt L (min (i + 1) L.length) ++ L.drop (i + 1)); rw [← fin]; exact hk⟩ (by show L.length - (i + 1) < L.length - i; omega) ⟨rfl,rfl,rfl,rfl,rfl,trivial⟩ (Hp.Le.refl _) rfl
 have hj0:0 < j:=by omega
 have hgj:=hk.get (i:=j) (by omega)
 have hgp:=hk.get (i:=j - 1) (by omega)
 have ej:(midL S x j R)[j]'(by omega) = x:=by
  have:=midL_at (S:=S) (x:=x) (R:=R) (j:=j) (by omega)
  rw [List.getElem?_eq_getElem (by omega)] at this
  exact Option.some.inj this
 have ep:(midL S x j R)[j - 1]'(by omega) = S[j - 1]'(by omega):=by
  have:=midL_pre (S:=S) (x:=x) (R:=R) (j:=j) (i:=j - 1) (by omega) (by omega)
  rw [List.getElem?_eq_getElem (by omega),List.getElem?_eq_getElem (by omega)] at this
  exact Option.some.inj this
 rw [ej] at hgj
 rw [ep] at hgp
 obtain ⟨rfl,cj⟩:=hgj
 have cp:=hgp.2
 conv=>whnf
 refine ⟨rfl,⟨by omega,by omega⟩,?_⟩
 conv=>whnf
 refine ⟨_,cj,?_⟩
 conv=>whnf
 refine ⟨((j - 1:Nat):Int),wie (by omega) (by omega),?_⟩
 conv=>whnf
 refine ⟨rfl,⟨by omega,by omega⟩,?_⟩
 conv=>whnf
 refine ⟨_,cp,?_⟩
 conv=>whnf
 refine ⟨can100,?_⟩
 refine CallP.mono (edges_spec x (S[j - 1]'(by omega)) H) ?_
 rintro rr H2 ⟨⟨z,rfl,hz1,-⟩,g2⟩
 have k2:=hk.ext g2
 have cj2:=g2.cells cj
 have cp2:=g2.cells cp
 conv=>whnf
 refine cmpB (fun c3=>?_) (fun c3=>?_)
 rotate_left
 ·have hnl:¬ PLess x (S[j - 1]'(by omega)):=fun y=>c3 (hz1.2 y)
  have fin:=fin fun q hq hqj hp=>by
   by_cases e:q = j - 1
   ·subst e; exact hnl hp
   ·exact hnl (less_le hp (List.pairwise_iff_getElem.1 hss q (j - 1) hq (by omega) (by omega)))
  conv=>whnf
  refine ⟨_,wid (by omega),?_⟩
  conv=>whnf
  exact Rnd.mk (i + 1,H2) ⟨by show 1≤i + 1; omega,by show i + 1≤L.length∨_; omega,by show EV h0 H2 _ r (srt L (min (i + 1) L.length) ++ L.drop (i + 1)); rw [← fin]; exact k2⟩ (by show L.length - (i + 1) < L.length - i; omega) ⟨rfl,rfl,rfl,rfl,rfl,trivial⟩ (Hp.Le.refl _) rfl
 have hlt:PLess x (S[j - 1]'(by omega)):=hz1.1 c3
 have hs1:=k2.set (i:=j) (by omega) (S[j - 1]'(by omega))
 obtain ⟨H3,hst3,k3⟩:=hs1
 have hs2:=k3.set (i:=j - 1) (by rw [List.length_set]; omega) x
 obtain ⟨H4,hst4,k4⟩:=hs2
 have esw:=midL_swap (S:=S) (x:=x) (R:=R) (j:=j - 1) (by omega)
 rw [show j - 1 + 1 = j by omega] at esw
 rw [esw] at k4
 conv=>whnf
 refine SeqP.go ?_
 conv=>whnf
 refine ⟨((j - 1:Nat):Int),wie (by omega) (by omega),?_⟩
 conv=>whnf
 refine ⟨((j - 1:Nat):Int),wie (by omega) (by omega),?_⟩
 conv=>whnf
 refine ⟨rfl,⟨by omega,by omega⟩,?_⟩
 conv=>whnf
 refine ⟨_,cp2,?_⟩
 conv=>whnf
 refine ⟨rfl,⟨by omega,by omega⟩,?_⟩
 conv=>whnf
 refine ⟨_,cj2,?_⟩
 conv=>whnf
 refine ⟨rfl,⟨by omega,by omega⟩,?_⟩
 conv=>whnf
 refine ⟨rfl,H3,hst3,?_⟩
 conv=>whnf
 refine ⟨rfl,⟨by omega,by omega⟩,?_⟩
 conv=>whnf
 refine ⟨rfl,H4,hst4,?_⟩
 conv=>whnf
 refine ⟨?_,?_⟩
 rotate_left
 ·conv=>whnf
  refine ⟨((j - 1:Nat):Int),wie (by omega) (by omega),?_⟩
  conv=>whnf
  exact Rnd.mk (j - 1,H4) ⟨by show j - 1≤i; omega,fun q hq hjq=>by
   have hjq:j - 1≤q:=hjq
   by_cases e:q = j - 1
   ·subst e; exact hlt
   ·exact hgt q hq (by omega),k4⟩ (by show j - 1 < j; omega) ⟨rfl,rfl,rfl,rfl,rfl,rfl,trivial⟩ (Hp.Le.refl _) rfl
 repeat' (first | exact True.intro | (refine And.intro ?_ ?_ <;> (conv=>whnf)))
 all_goals first
  | exact sameAt_val (h2:=_) rfl (sameV_int _)
  | exact sameAt_val (h2:=_) rfl (sameV_slice _ _ _)
  | exact sameAt_val (h2:=_) (show hval _ (arK .i64 .sub _ _) = _ from sub_val (by omega) (by omega)) (sameV_int _)
theorem len64_spec (s:Nat) (hs:s < 10) (h:Hp):CallP E 144 [u64 s] h (fun r h'=>(∃ z:Int,r = int z)∧h' = h):=by
 refine enter144 (by simp) ?_
 conv=>whnf
 refine SeqP.go ?_
 conv=>whnf
 repeat (refine SeqP.go ?_; conv=>whnf)
 refine cmpF (by omega) ?_
 conv=>whnf
 repeat (refine SeqP.go ?_; conv=>whnf)
 refine cmpF (by omega) ?_
 conv=>whnf
 repeat (refine SeqP.go ?_; conv=>whnf)
 refine cmpF (by omega) ?_
 conv=>whnf
 repeat (refine SeqP.go ?_; conv=>whnf)
 refine ⟨(s:Int),u8_id (by omega),?_⟩
 conv=>whnf
 refine ⟨⟨by omega,Int.lt_of_lt_of_le (show (s:Int) < 10 by omega) (by decide)⟩,?_⟩
 have hs2:s = 0∨s = 1∨s = 2∨s = 3∨s = 4∨s = 5∨s = 6∨s = 7∨s = 8∨s = 9:=by omega
 rcases hs2 with rfl | rfl | rfl | rfl | rfl | rfl | rfl | rfl | rfl | rfl
 ·refine ⟨_,rfl,?_⟩
  conv=>whnf
  refine ⟨_,wid (by decide),?_⟩
  conv=>whnf
  refine ⟨_,wid (by decide),?_⟩
  conv=>whnf
  repeat (refine SeqP.go ?_; conv=>whnf)
  exact ⟨⟨_,rfl⟩,rfl⟩
 ·refine ⟨_,rfl,?_⟩
  conv=>whnf
  refine ⟨_,wid (by decide),?_⟩
  conv=>whnf
  refine ⟨_,wid (by decide),?_⟩
  conv=>whnf
  repeat (refine SeqP.go ?_; conv=>whnf)
  exact ⟨⟨_,rfl⟩,rfl⟩
 ·refine ⟨_,rfl,?_⟩
  conv=>whnf
  refine ⟨_,wid (by decide),?_⟩
  conv=>whnf
  refine ⟨_,wid (by decide),?_⟩
  conv=>whnf
  repeat (refine SeqP.go ?_; conv=>whnf)
  exact ⟨⟨_,rfl⟩,rfl⟩
 ·refine ⟨_,rfl,?_⟩
  conv=>whnf
  refine ⟨_,wid (by decide),?_⟩
  conv=>whnf
  refine ⟨_,wid (by decide),?_⟩
  conv=>whnf
  repeat (refine SeqP.go ?_; conv=>whnf)
  exact ⟨⟨_,rfl⟩,rfl⟩
 ·refine ⟨_,rfl,?_⟩
  conv=>whnf
  refine ⟨_,wid (by decide),?_⟩
  conv=>whnf
  refine ⟨_,wid (by decide),?_⟩
  conv=>whnf
  repeat (refine SeqP.go ?_; conv=>whnf)
  exact ⟨⟨_,rfl⟩,rfl⟩
 ·refine ⟨_,rfl,?_⟩
  conv=>whnf
  refine ⟨_,wid (by decide),?_⟩
  conv=>whnf
  refine ⟨_,wid (by decide),?_⟩
  conv=>whnf
  repeat (refine SeqP.go ?_; conv=>whnf)
  exact ⟨⟨_,rfl⟩,rfl⟩
 ·refine ⟨_,rfl,?_⟩
  conv=>whnf
  refine ⟨_,wid (by decide),?_⟩
  conv=>whnf
  refine ⟨_,wid (by decide),?_⟩
  conv=>whnf
  repeat (refine SeqP.go ?_; conv=>whnf)
  exact ⟨⟨_,rfl⟩,rfl⟩
 ·refine ⟨_,rfl,?_⟩
  conv=>whnf
  refine ⟨_,wid (by decide),?_⟩
  conv=>whnf
  refine ⟨_,wid (by decide),?_⟩
  conv=>whnf
  repeat (refine SeqP.go ?_; conv=>whnf)
  exact ⟨⟨_,rfl⟩,rfl⟩
 ·refine ⟨_,rfl,?_⟩
  conv=>whnf
  refine ⟨_,wid (by decide),?_⟩
  conv=>whnf
  refine ⟨_,wid (by decide),?_⟩
  conv=>whnf
  repeat (refine SeqP.go ?_; conv=>whnf)
  exact ⟨⟨_,rfl⟩,rfl⟩
 ·refine ⟨_,rfl,?_⟩
  conv=>whnf
  refine ⟨_,wid (by decide),?_⟩
  conv=>whnf
  refine ⟨_,wid (by decide),?_⟩
  conv=>whnf
  repeat (refine SeqP.go ?_; conv=>whnf)
  exact ⟨⟨_,rfl⟩,rfl⟩
theorem len_spec (s:Nat) (hs:s < 10) (h:Hp):CallP E 132 [u64 s] h (fun r h'=>(∃ z:Int,r = int z)∧h' = h):=by
 refine enter132 (by simp) ?_
 conv=>whnf
 repeat (refine SeqP.go ?_; conv=>whnf)
 refine CallP.mono (len64_spec s hs h) ?_
 rintro r h ⟨⟨z,rfl⟩,rfl⟩
 conv=>whnf
 repeat (refine SeqP.go ?_; conv=>whnf)
 exact ⟨⟨z,rfl⟩,rfl⟩
theorem pdq_spec (h0:Hp) (a:Option Addr) (r c:Nat) (L:List (Int×Int)) (hl:L.length≤9) (z:Int) (h:Hp) (k0:EV h0 h a r L) :
  CallP E 131 [.slice a L.length c,int 0,int L.length,int z,cmpF100] h (fun _ h'=>EV h0 h' a r (srt L L.length)):=by
 refine enter131 (by simp) ?_
 conv=>whnf
 refine SeqP.go ?_
 conv=>whnf
 refine SeqP.go ?_
 conv=>whnf
 refine loop_inv (α:=Unit) (fun _=>[(0,.slice a L.length c),(1,int 0),(2,int L.length),(4,cmpF100)]) (fun _=>h) (fun _=>True) (fun _=>0) () trivial ⟨rfl,rfl,rfl,rfl,trivial⟩ (Hp.Le.refl _) ?_
 rintro _ φ _
 conv=>whnf
 refine SeqP.go ?_
 conv=>whnf
 refine ⟨(L.length:Int),wie (by omega) (by omega),?_⟩
 conv=>whnf
 refine SeqP.go ?_
 conv=>whnf
 refine SeqP.go ?_
 conv=>whnf
 refine cmpT (by omega) ?_
 conv=>whnf
 refine SeqP.go ?_
 conv=>whnf
 refine CallP.mono (sort_spec h0 a r c L hl h k0) ?_
 intro v h' hk
 conv=>whnf
 exact hk
theorem SortFunc_spec (h0:Hp) (a:Option Addr) (r c:Nat) (L:List (Int×Int)) (hl:L.length≤9) (h:Hp) (k0:EV h0 h a r L) :
  CallP E 119 [.slice a L.length c,cmpF100] h (fun _ h'=>EV h0 h' a r (srt L L.length)):=by
 refine enter119 (by simp) ?_
 conv=>whnf
 refine SeqP.go ?_
 conv=>whnf
 refine ⟨(L.length:Int),u64_id (by omega),?_⟩
 conv=>whnf
 refine CallP.mono (len_spec L.length (by omega) h) ?_
 rintro rr h ⟨⟨z,rfl⟩,rfl⟩
 conv=>whnf
 refine CallP.mono (pdq_spec h0 a r c L hl z h k0) ?_
 intro v h' hk
 conv=>whnf
 exact hk
end
end Go.Proofs.Ythgjnkdealdmoaa
