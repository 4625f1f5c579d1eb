/- Contracts of the functions that PNOC comes to. -/
import Derived.Test.YthgjnkdealdmoaaPNOB
import Derived.Test.YthgjnkdealdmoaaNAwake
set_option maxRecDepth 100000
set_option maxHeartbeats 2000000
set_option linter.unusedVariables false
set_option linter.unusedSectionVars false
set_option linter.unusedSimpArgs false
namespace Go.Proofs.Ythgjnkdealdmoaa
open Go.Rx Go.RowKit
def colP (n:Nat) (P:List (Int×Int)) (d:Nat):Nat:=n - rkN P d
def oddB (d:Nat):Bool:=sz d % 2 == 1
theorem WR.kb {e:TypeId} {h0 H H2:Hp} {v:Value} {l:List Int} (k:WR e h0 H v l) (g:∀ r o,h0.next≤r→H.at r = some o→H2.at r = some o):WR e h0 H2 v l:=by
 rcases k with k | ⟨r,c,x,cs,e,h1,h2,hr,hx,h6⟩
 ·exact .inl k
 ·exact .inr ⟨r,c,x,cs,e,h1,h2,hr,g r _ hr hx,h6⟩
theorem RS.setI {h0 H:Hp} {C:Nat} {v:Value} {l:List Int} (k:RS h0 H C v l) (hC:C < h0.next) {i:Nat} (hi:i < l.length) (x:Int):∃ r H',v = slc r 0 l.length l.length∧cellAt H r (offAt 0 (i:Int).toNat 1) = some (int l[i])∧storeAt H r (offAt 0 (i:Int).toNat 1) [int x] = some H'∧RS h0 H' C v (l.set i x)∧∀ j o,j < h0.next + 1→H.at j = some o→H'.at j = some o:=by
 have hs:=Built.setI k.built hi x
 obtain ⟨r,H',e1,hr,e2,e3,e4,e5,e6⟩:=hs
 have hr:h0.next + 1≤r:=hr
 have hk:∀ j o,j < h0.next + 1→H.at j = some o→H'.at j = some o:=fun j o hj e=>e5 j o (by omega) e
 exact ⟨r,H',e1,e2,e3,⟨by rw [e4]; exact k.next,fun j o hj e=>hk j o (by have:=Hp.lt_of_at e; omega) (k.at_ j o hj e),hk _ _ (by omega) k.cell,e6⟩,hk⟩
attribute [local irreducible] E idxN cellAt cellsAt storeAt callable helems hmoved lookIn findKey keyOk hentries Hp.at Hp.set Hp.lay arBits hupdated setAt CallP YieldP BoolOf IsWrap Rnd LoopP AppP CutP Int.tmod Int.tdiv Int.fdiv
section
variable [Unknowns]
attribute [local irreducible] ResP sameAt flat
theorem colPow_spec (n:Nat) (P:List (Int×Int)) (hP:NetOk n P) (hl:P.length≤9) (d:Nat) (hd:d < 2 ^ P.length) (v:Value) (h:Hp) (hv:PairsV h v P) (A G:Nat) (aA:h.at A = some (.row 3 true [int n])) (aG:h.at G = some (.row 83 true [int n,v])) :
  CallP E 61 [int d,ptr A 0,ptr G 0] h (fun r h'=>r = int (colP n P d:Nat)∧Grows h h'):=by
 obtain ⟨av,cap,rfl,hcv⟩:=id hv
 have hsg:=sameV_gval n av P.length cap
 have hrk:=rkN_lt hP d
 have hn:=hP.n1
 have c0:cellsAt h G 0 2 = some [int n,.slice av P.length cap]:=cellsAt_row aG (by simp)
 have c0':cellAt h A 0 = some (int n):=cellAt_row aA rfl
 refine enter61 (by simp) ?_
 conv=>whnf
 refine SeqP.go ?_
 conv=>whnf
 refine SeqP.go ?_
 conv=>whnf
 refine ⟨_,c0',?_⟩
 conv=>whnf
 refine ⟨_,c0,?_⟩
 conv=>whnf
 refine CallP.mono (rankN_spec n P hP hl d hd _ h hv) ?_
 rintro r H1 ⟨rfl,g1⟩
 conv=>whnf
 refine ⟨((colP n P d:Nat):Int),wie (by unfold colP; omega) (by unfold colP; omega),?_⟩
 conv=>whnf
 refine ⟨?_,?_⟩
 rotate_left
 ·conv=>whnf
  repeat (refine SeqP.go ?_; conv=>whnf)
  exact ⟨rfl,g1⟩
 repeat' (first | exact True.intro | (refine And.intro ?_ ?_ <;> (conv=>whnf)))
 all_goals first
  | exact sameAt_val (h2:=_) rfl (sameV_int _)
  | exact sameAt_val (h2:=_) (congrArg (hval _) c0') (sameV_int _)
  | exact sameAt_val (h2:=_) (congrArg (hval _) (g1.cell c0')) (sameV_int _)
  | exact sameAt_val (h2:=_) (congrArg (fun x=>hval _ (aggOf x)) c0) hsg
  | exact sameAt_val (h2:=_) (congrArg (fun x=>hval _ (aggOf x)) (g1.cells c0)) hsg
theorem odd_spec (d:Nat) (hd:d < 512) (h:Hp):CallP E 62 [int d] h (fun r h'=>r = .bool (oddB d)∧h' = h):=by
 have h9:=sz_le d
 refine enter62 (by simp) ?_
 conv=>whnf
 repeat (refine SeqP.go ?_; conv=>whnf)
 refine CallP.mono (size_spec d hd h) ?_
 rintro r h ⟨rfl,rfl⟩
 conv=>whnf
 refine ⟨by omega,?_⟩
 have e:((sz d:Nat):Int).tmod 2 = ((sz d % 2:Nat):Int):=by rw [show (2:Int) = ((2:Nat):Int) from rfl,tmod_nat]
 conv=>whnf
 refine cmpB (fun hb=>?_) (fun hb=>?_)
 ·have hb:((sz d:Nat):Int).tmod 2 = 1:=hb
  rw [e] at hb
  have eo:oddB d = true:=by unfold oddB; rw [beq_iff_eq]; omega
  conv=>whnf
  repeat (refine SeqP.go ?_; conv=>whnf)
  exact ⟨by rw [eo]; rfl,rfl⟩
 ·have hb:¬ ((sz d:Nat):Int).tmod 2 = 1:=hb
  rw [e] at hb
  have eo:oddB d = false:=by unfold oddB; rw [beq_eq_false_iff_ne]; omega
  conv=>whnf
  repeat (refine SeqP.go ?_; conv=>whnf)
  exact ⟨by rw [eo]; rfl,rfl⟩
end
section
variable [Unknowns]
attribute [local irreducible] ResP sameAt flat finP
theorem signed_spec (n:Nat) (P:List (Int×Int)) (hl:P.length≤9) (v:Value) (h:Hp) (hv:PairsV h v P) (f g:FuncId) (bs cs bs' cs':List Value) (hcf:callable E f = true) (hcg:callable E g = true) (p:Nat→Nat) (o:Nat→Bool) (hp20:∀ d,d < 2 ^ P.length→p d≤20)
  (hf:∀ d:Nat,d < 2 ^ P.length→∀ h',Grows h h'→CallP E f (bs ++ [int (d:Int)] ++ cs) h' (fun r h2=>r = int (p d:Nat)∧Grows h' h2))
  (hg:∀ d:Nat,d < 2 ^ P.length→∀ h',Grows h h'→CallP E g (bs' ++ [int (d:Int)] ++ cs') h' (fun r h2=>r = .bool (o d)∧Grows h' h2)) :
  CallP E 64 [gval n v,.func (.func f) ⟨bs⟩ ⟨cs⟩,.func (.func g) ⟨bs'⟩ ⟨cs'⟩] h (fun r h'=>WR 2 h h' r (fl (tl (sg p o (2 ^ P.length)) (sgN p (2 ^ P.length))) (sg p o (2 ^ P.length)))∧Grows h h'):=by
 obtain ⟨av,cap,rfl,hcv⟩:=id hv
 have hp:=Nat.pow_le_pow_right (n:=2) (by omega) hl
 have hexF:∃ FV,Value.func (.func f) ⟨bs⟩ ⟨cs⟩ = FV:=⟨_,rfl⟩
 obtain ⟨FV,hFV⟩:=hexF
 have hexG:∃ GV,Value.func (.func g) ⟨bs'⟩ ⟨cs'⟩ = GV:=⟨_,rfl⟩
 obtain ⟨GV,hGV⟩:=hexG
 have hex1:∃ H1,h.lay (.row 83 true [int n,.slice av P.length cap]) = H1:=⟨_,rfl⟩
 obtain ⟨H1,hH1⟩:=hex1
 have hex2:∃ H2,H1.lay (.row 86 true [FV]) = H2:=⟨_,rfl⟩
 obtain ⟨H2,hH2⟩:=hex2
 have hex3:∃ H3,H2.lay (.row 88 true [GV]) = H3:=⟨_,rfl⟩
 obtain ⟨H3,hH3⟩:=hex3
 have aD:H1.at h.next = some (.row 83 true [int n,.slice av P.length cap]):=by rw [← hH1]; exact Hp.at_lay_self _ _
 have gD:Grows h H1:=by rw [← hH1]; exact Grows.lay _ _
 have aF:H2.at H1.next = some (.row 86 true [FV]):=by rw [← hH2]; exact Hp.at_lay_self _ _
 have gF:Grows H1 H2:=by rw [← hH2]; exact Grows.lay _ _
 have aO:H3.at H2.next = some (.row 88 true [GV]):=by rw [← hH3]; exact Hp.at_lay_self _ _
 have gO:Grows H2 H3:=by rw [← hH3]; exact Grows.lay _ _
 refine enter64 (by simp) ?_
 conv=>whnf
 refine SeqP.cut (α:=Unit) (fun _=>[(3,ptr h.next 0),(4,ptr H1.next 0),(5,ptr H2.next 0)]) (fun _ H=>H = H3) ?_ ?_
 ·conv=>whnf
  refine ⟨(),⟨rfl,by rw [← hH1]; rfl,by rw [← hH2,← hH1,← hFV]; rfl,trivial⟩,?_,rfl⟩
  rw [← hH3,← hH2,← hH1,← hFV,← hGV]
  rfl
 rintro _ φ H3 rfl
 have hDlt:=Hp.lt_of_at aD
 have hFlt:=Hp.lt_of_at aF
 have hOlt:=Hp.lt_of_at aO
 have nD:=gD.next
 have nF:=gF.next
 have nO:=gO.next
 generalize hDe:h.next = D at aD hDlt nD
 generalize hFe:H1.next = F at aF hFlt nF hDlt nD
 generalize hOe:H2.next = O at aO hOlt nO hFlt nF
 conv=>whnf
 refine SeqP.cut (α:=Nat×Hp) (fun s=>[(7,ptr s.1 0),(3,ptr D 0),(4,ptr F 0),(5,ptr O 0)]) (fun s H=>H = s.2∧s.2.at s.1 = some (.row 32 true [.slice none 0 0])∧H3.next≤s.1∧Grows H3 s.2) ?_ ?_
 ·conv=>whnf
  exact ⟨(H3.next,_),⟨rfl,rfl,rfl,rfl,trivial⟩,⟨rfl,Hp.at_lay_self _ _,Nat.le_refl _,Grows.lay _ _⟩,rfl⟩
 rintro ⟨C,_⟩ φ H4 ⟨rfl,aC,nC,g4⟩
 dsimp only at aC nC g4 ⊢
 have hClt:=Hp.lt_of_at aC
 have aO4:=g4.at_ _ _ aO
 have aF4:=g4.at_ _ _ (gO.at_ _ _ aF)
 have aD4:=g4.at_ _ _ (gO.at_ _ _ (gF.at_ _ _ aD))
 have g04:=((gD.trans gF).trans gO).trans g4
 conv=>whnf
 refine SeqP.cutM (α:=Value) (fun _=>[(7,ptr C 0)]) (fun _=>[H4.next + 1]) (fun t H=>RS ((H4.lay (.row 3 true [int (P.length:Int)])).lay .noDefers) H C t (fl (sgN p (2 ^ P.length)) (sg p o (2 ^ P.length)))) ?_ ?_
 ·conv=>whnf
  refine SeqP.go ?_
  conv=>whnf
  refine ⟨_,cellAt_row aD4 rfl,?_⟩
  conv=>whnf
  refine CallP.mono (sets_spec P.length H4) ?_
  rintro r _ ⟨rfl,rfl⟩
  conv=>whnf
  generalize hH5:H4.lay (.row 3 true [int (P.length:Int)]) = H5
  have aM:H5.at H4.next = some (.row 3 true [int (P.length:Int)]):=by rw [← hH5]; exact Hp.at_lay_self _ _
  have n5:H5.next = H4.next + 1:=by rw [← hH5]; exact Hp.next_lay _ _
  have g5:Grows H4 H5:=by rw [← hH5]; exact Grows.lay _ _
  have hlx:(H5.lay .noDefers).next = H4.next + 2:=by rw [Hp.next_lay,n5]
  refine range_goJ (fun hh=>hh.at H4.next = some (.row 3 true [int (P.length:Int)])) ((List.range (2 ^ P.length)).map gvN) (fun k hh=>∃ t,RS (H5.lay .noDefers) hh C t (fl (sgN p k) (sg p o k))) (fun _=>False) can115 ?_ rfl (fun I S hJ h0 hit=>sets_iter P.length hl H4.next _ I S _ hJ h0 hit) ?_ ?_ ?_ ?_ ?_
  ·intro k hk
   simp [gvN]
  ·rintro k hh ⟨t,hk⟩
   exact hk.at_ _ _ (by omega) (Hp.at_lay_old _ aM)
  ·exact ⟨.slice none 0 0,Nat.le_of_eq (Hp.next_lay _ _).symm,fun r o _ e=>Hp.at_lay_old _ e,Hp.at_lay_old _ (Hp.at_lay_old _ (g5.at_ _ _ aC)),.inl ⟨rfl,rfl⟩⟩
  ·rintro k xs hget H6 hl6 ⟨t,hk⟩
   have hget2:=List.getElem?_eq_some_iff.1 hget
   obtain ⟨hkl,exs⟩:=hget2
   rw [List.length_map,List.length_range] at hkl
   rw [List.getElem_map,List.getElem_range] at exs
   subst exs
   have hsn:sgN p k≤21:=sgN_le k fun d hd=>by have:=hp20 d (by omega); omega
   have hso:=fun i=>sg_out (p:=p) (o:=o) k i
   have hbd:=fun i=>sg_bd (p:=p) (o:=o) k i
   have hpk:=hp20 k hkl
   have hN1:sgN p (k + 1) = max (sgN p k) (p k + 1):=rfl
   have hs1:sg p o (k + 1) = fun i=>if i = p k then (if o k = true then sg p o k i - 1 else sg p o k i + 1) else sg p o k i:=rfl
   generalize sgN p k = N at hk hsn hso hN1
   generalize sg p o k = c at hk hso hbd hs1
   conv=>whnf
   refine bodyQ_go hl6 ?_
   intro BO hb2 eBO hbl hbk
   have hk2:=hk.keep (by omega) hbk
   clear hget hk
   have gh6:=hk2.grows ((g04.trans g5).then_lay _) (by omega)
   have aF6:=hk2.at_ F _ (by omega) (Hp.at_lay_old _ (g5.at_ _ _ aF4))
   have hlC:C≠(H5.lay .noDefers).next:=by omega
   rw [← hFV] at aF6
   conv=>whnf
   repeat (refine SeqP.go ?_; conv=>whnf)
   refine ⟨_,cellAt_row aF6 rfl,?_⟩
   conv=>whnf
   refine ⟨hcf,?_⟩
   refine CallP.mono (hf k hkl hb2 gh6) ?_
   rintro b h3 ⟨rfl,g3'⟩
   have k3:=hk2.ext g3'
   have bl3:=g3'.at_ _ _ hbl
   conv=>whnf
   repeat (refine SeqP.go ?_; conv=>whnf)
   refine ⟨_,cellAt_row k3.cell rfl,?_⟩
   conv=>whnf
   refine CallP.mono (reaching_spec ((H5.lay .noDefers).next + 1) N (p k) (by omega) (by omega) c hso t h3 k3.built k3.next) ?_
   rintro t' h7 ⟨hb7,hn7,hk7⟩
   rw [← hN1] at hb7
   have kmv:=RS.mv k3 (by omega) hb7 hn7 hk7
   obtain ⟨hc7,k8⟩:=kmv
   have bl7:=hk7 _ _ (Nat.lt_succ_self _) bl3
   have hb7':=hb7
   rcases hb7' with ⟨rfl,e⟩ | ⟨rr,rfl,hrr,xx,hat⟩
   ·have:=congrArg List.length e
    rw [fl_len,hN1] at this
    simp at this
   have hst8:storeAt h7 C 0 [slc rr 0 (fl (sgN p (k + 1)) c).length (fl (sgN p (k + 1)) c).length] = some (h7.set C (.row 32 true [slc rr 0 (fl (sgN p (k + 1)) c).length (fl (sgN p (k + 1)) c).length])):=storeAt_row hc7 (by simp) rfl
   have bl8:(h7.set C (.row 32 true [slc rr 0 (fl (sgN p (k + 1)) c).length (fl (sgN p (k + 1)) c).length])).at (H5.lay .noDefers).next = some BO:=by
    rw [Hp.at_set_ne _ (fun x=>hlC x.symm)]
    exact bl7
   generalize h7.set C (.row 32 true [slc rr 0 (fl (sgN p (k + 1)) c).length (fl (sgN p (k + 1)) c).length]) = h8 at hst8 k8 bl8
   have gh8:=k8.grows ((g04.trans g5).then_lay _) (by omega)
   have aO8:=k8.at_ O _ (by omega) (Hp.at_lay_old _ (g5.at_ _ _ aO4))
   rw [← hGV] at aO8
   conv=>whnf
   refine ⟨rfl,h8,hst8,?_⟩
   conv=>whnf
   repeat (refine SeqP.go ?_; conv=>whnf)
   refine ⟨_,cellAt_row aO8 rfl,?_⟩
   conv=>whnf
   refine ⟨hcg,?_⟩
   refine CallP.mono (hg k hkl h8 gh8) ?_
   rintro b h9 ⟨rfl,g9⟩
   have k9:=k8.ext g9
   have bl9:=g9.at_ _ _ bl8
   have hkb:(k:Int)≤512:=by have:=lt512 hl hkl; omega
   cases hok:o k with
   | true =>
    have hx:fl (sgN p (k + 1)) (sg p o (k + 1)) = (fl (sgN p (k + 1)) c).set (p k) (c (p k) - 1):=by
     rw [fl_set,hs1]
     refine fl_congr fun i hi=>?_
     rw [hok]
     by_cases e:i = p k
     ·subst e; rw [if_pos rfl,if_pos rfl]; simp
     ·rw [if_neg e,if_neg e]
    have hset:=RS.setI k9 (by omega) (i:=p k) (by rw [fl_len,hN1]; omega) (c (p k) - 1)
    rw [← hx] at hset
    obtain ⟨r2,H10,e10,p10,q10,k10,kk10⟩:=hset
    rw [fl_get] at p10
    have bl10:=kk10 _ _ (Nat.lt_succ_self _) bl9
    injection e10 with e11 e12 e13
    injection e11 with e14
    injection e14 with e15 e16 e17
    subst e15
    have hbp:=hbd (p k)
    conv=>whnf
    refine ⟨_,cellAt_row k9.cell rfl,?_⟩
    conv=>whnf
    refine ⟨rfl,⟨by omega,by rw [fl_len,hN1]; omega⟩,?_⟩
    conv=>whnf
    refine ⟨_,p10,?_⟩
    conv=>whnf
    refine ⟨c (p k) - 1,wid (by omega),?_⟩
    conv=>whnf
    refine ⟨rfl,⟨by omega,by rw [fl_len,hN1]; omega⟩,?_⟩
    conv=>whnf
    refine ⟨rfl,H10,q10,?_⟩
    conv=>whnf
    refine ⟨by rw [← eBO]; exact bl10,?_⟩
    exact .inl ⟨rfl,Hp.at_set_self _ (Hp.lt_of_at bl10),_,k10.keep (by omega) (Keeps.set _ _ _)⟩
   | false =>
    have hx:fl (sgN p (k + 1)) (sg p o (k + 1)) = (fl (sgN p (k + 1)) c).set (p k) (c (p k) + 1):=by
     rw [fl_set,hs1]
     refine fl_congr fun i hi=>?_
     rw [hok]
     by_cases e:i = p k
     ·subst e; rw [if_pos rfl,if_pos rfl]; simp
     ·rw [if_neg e,if_neg e]
    have hset:=RS.setI k9 (by omega) (i:=p k) (by rw [fl_len,hN1]; omega) (c (p k) + 1)
    rw [← hx] at hset
    obtain ⟨r2,H10,e10,p10,q10,k10,kk10⟩:=hset
    rw [fl_get] at p10
    have bl10:=kk10 _ _ (Nat.lt_succ_self _) bl9
    injection e10 with e11 e12 e13
    injection e11 with e14
    injection e14 with e15 e16 e17
    subst e15
    have hbp:=hbd (p k)
    conv=>whnf
    refine ⟨_,cellAt_row k9.cell rfl,?_⟩
    conv=>whnf
    refine ⟨rfl,⟨by omega,by rw [fl_len,hN1]; omega⟩,?_⟩
    conv=>whnf
    refine ⟨_,p10,?_⟩
    conv=>whnf
    refine ⟨c (p k) + 1,wid (by omega),?_⟩
    conv=>whnf
    refine ⟨rfl,⟨by omega,by rw [fl_len,hN1]; omega⟩,?_⟩
    conv=>whnf
    refine ⟨rfl,H10,q10,?_⟩
    conv=>whnf
    refine ⟨by rw [← eBO]; exact bl10,?_⟩
    exact .inl ⟨rfl,Hp.at_set_self _ (Hp.lt_of_at bl10),_,k10.keep (by omega) (Keeps.set _ _ _)⟩
  ·rintro h2 h3 ⟨t,hk⟩ hkp
   rw [List.length_map,List.length_range] at hk
   have hk3:=hk.keep (by omega) hkp
   exact ⟨t,⟨rfl,trivial⟩,hk3,by rw [n5]; rfl⟩
  ·intro h2 hF
   exact hF.elim
 rintro t φ H hk
 have hms:Marks (H4.next + 1) [H4.next + 1] H:=⟨by simp,fun d hd=>by
  have:d = H4.next + 1:=by simpa using hd
  subst this
  exact ⟨Nat.le_refl _,hk.at_ _ _ (by omega) (at_nx (r:=(H4.lay (.row 3 true [int (P.length:Int)])).next) (by rw [Hp.next_lay]) (Hp.at_lay_self _ _))⟩⟩
 have hN:sgN p (2 ^ P.length)≤21:=sgN_le _ fun d hd=>by have:=hp20 d hd; omega
 have hW:=WR.of hk.built
 conv=>whnf
 repeat (refine SeqP.go ?_; conv=>whnf)
 refine ⟨_,cellAt_row hk.cell rfl,?_⟩
 conv=>whnf
 refine CallP.mono (noughts_spec _ _ (by omega) _ t H hW) ?_
 rintro r H ⟨hW2,rfl⟩
 have hkn:=hW2.known
 obtain ⟨a2,c2,rfl⟩:=hkn
 conv=>whnf
 repeat (refine SeqP.go ?_; conv=>whnf)
 refine finP_marks hms ?_
 intro h3 n3 k3 k3'
 have gh:=hk.grows ((g04.then_lay _).then_lay _) (by omega)
 have hbn:(bare (((H4.lay (.row 3 true [int (P.length:Int)])).lay .noDefers).next + 1)).next = H4.next + 3:=by show _ + 1 = _; rw [Hp.next_lay,Hp.next_lay]
 have hW3:=hW2.kb (H2:=h3) fun r o hr e=>k3' r o (by simp; intro x; rw [hbn] at hr; omega) e
 have hng:=g04.next
 refine finP_one rfl rfl ⟨hW3.back (by rw [hbn]; omega),⟨by rw [n3]; exact gh.next,fun r o e=>k3 r o (by have:=Hp.lt_of_at e; omega) (gh.at_ r o e)⟩⟩
end
section
variable [Unknowns]
attribute [local irreducible] ResP sameAt flat
def colL (n:Nat) (P:List (Int×Int)):List Int:=fl (tl (sg (colP n P) oddB (2 ^ P.length)) (n + 1)) (sg (colP n P) oddB (2 ^ P.length))
theorem colP_le (n:Nat) (P:List (Int×Int)) (d:Nat):colP n P d≤n:=by unfold colP; omega
theorem Colours_spec (n:Nat) (P:List (Int×Int)) (hP:NetOk n P) (hl:P.length≤9) (v:Value) (h:Hp) (hv:PairsV h v P) :
  CallP E 21 [int n,v] h (fun r h'=>(∃ t,r = .tuple ⟨[t,int 0]⟩∧WR 2 h h' t (colL n P))∧Grows h h'):=by
 obtain ⟨av,cap,rfl,-⟩:=id hv
 have hn:=hP.n1
 have hN:sgN (colP n P) (2 ^ P.length)≤n + 1:=sgN_le _ fun d hd=>by have:=colP_le n P d; omega
 have eL:fl (tl (sg (colP n P) oddB (2 ^ P.length)) (sgN (colP n P) (2 ^ P.length))) (sg (colP n P) oddB (2 ^ P.length)) = colL n P:=by
  unfold colL
  have:=tl_pad (c:=sg (colP n P) oddB (2 ^ P.length)) (n:=sgN (colP n P) (2 ^ P.length)) (fun i hi=>sg_out _ i hi) (n + 1 - sgN (colP n P) (2 ^ P.length))
  rw [show sgN (colP n P) (2 ^ P.length) + (n + 1 - sgN (colP n P) (2 ^ P.length)) = n + 1 by omega] at this
  rw [this]
 have hex1:∃ H1,h.lay (.row 3 true [int n]) = H1:=⟨_,rfl⟩
 obtain ⟨H1,hH1⟩:=hex1
 have aA:H1.at h.next = some (.row 3 true [int n]):=by rw [← hH1]; exact Hp.at_lay_self _ _
 have g1:Grows h H1:=by rw [← hH1]; exact Grows.lay _ _
 refine enter21 (by simp) ?_
 conv=>whnf
 refine SeqP.cut (α:=Unit) (fun _=>[(2,ptr h.next 0),(1,.slice av P.length cap)]) (fun _ H=>H = H1) ?_ ?_
 ·conv=>whnf
  exact ⟨(),⟨rfl,rfl,trivial⟩,hH1,rfl⟩
 rintro _ φ H1 rfl
 conv=>whnf
 repeat (refine SeqP.go ?_; conv=>whnf)
 refine ⟨_,cellAt_row aA rfl,?_⟩
 conv=>whnf
 refine CallP.mono (Check_spec n P hP hl _ H1 (hv.ext g1)) ?_
 rintro r H2 ⟨rfl,g2⟩
 conv=>whnf
 repeat (refine SeqP.go ?_; conv=>whnf)
 refine cmpF (by omega) ?_
 conv=>whnf
 repeat (refine SeqP.go ?_; conv=>whnf)
 refine ⟨_,cellAt_row (g2.at_ _ _ aA) rfl,?_⟩
 conv=>whnf
 refine ⟨rfl,_,storeAt_full (vs:=[int n,.slice av P.length cap]) (Hp.at_lay_self _ _) rfl rfl rfl,?_⟩
 generalize hH3:(H2.lay (.row 83 true [int 0,.slice none 0 0])).set H2.next (.row 83 true [int n,.slice av P.length cap]) = H3
 have a3:H3.at H2.next = some (.row 83 true [int n,.slice av P.length cap]):=by rw [← hH3]; exact Hp.at_set_self _ (Hp.lt_of_at (Hp.at_lay_self _ _))
 have g3:Grows H2 H3:=by rw [← hH3]; exact (Grows.lay _ _).then_set _ (Nat.le_refl _)
 have g03:=(g1.trans g2).trans g3
 have aA3:=(g2.trans g3).at_ _ _ aA
 have hv3:=hv.ext g03
 conv=>whnf
 repeat (refine SeqP.go ?_; conv=>whnf)
 refine ⟨_,cellsAt_row a3 (by simp),?_⟩
 conv=>whnf
 refine CallP.mono (signed_spec n P hl _ H3 hv3 61 62 [] [ptr h.next 0,ptr H2.next 0] [] [] can61 can62 (colP n P) oddB (fun d _=>by have:=colP_le n P d; omega)
  (fun d hd h' g=>colPow_spec n P hP hl d hd _ h' (hv3.ext g) _ _ (g.at_ _ _ aA3) (g.at_ _ _ a3))
  (fun d hd h' g=>CallP.mono (odd_spec d (lt512 hl hd) h') (by rintro r h2 ⟨rfl,rfl⟩; exact ⟨rfl,.refl _⟩))) ?_
 rw [eL]
 rintro r H4 ⟨hW,g4⟩
 have hkn:=hW.known
 obtain ⟨a4,c4,rfl⟩:=hkn
 conv=>whnf
 repeat (refine SeqP.go ?_; conv=>whnf)
 exact ⟨⟨_,rfl,hW.back g03.next⟩,g03.trans g4⟩
end
end Go.Proofs.Ythgjnkdealdmoaa
namespace Go.Proofs.Ythgjnkdealdmoaa
open Go.Rx Go.RowKit
theorem tmod2 {m:Nat}:(m:Int).tmod 2 = ((m % 2:Nat):Int):=by rw [show (2:Int) = ((2:Nat):Int) from rfl,tmod_nat]
attribute [local irreducible] E idxN cellAt cellsAt storeAt callable helems hmoved lookIn findKey keyOk hentries Hp.at Hp.set Hp.lay arBits hupdated setAt CallP YieldP BoolOf IsWrap Rnd LoopP AppP CutP Int.tmod Int.tdiv Int.fdiv
section
variable [Unknowns]
attribute [local irreducible] ResP sameAt flat
theorem sameL_spec (v w:Value) (l:List Int) (hl:l.length≤1000000) (h:Hp) (hv:Ints h v l) (hw:Ints h w l):CallP E 24 [v,w] h (fun r h'=>r = .bool true∧h' = h):=by
 obtain ⟨av,cv,rfl,hcv⟩:=id hv
 obtain ⟨aw,cw,rfl,hcw⟩:=id hw
 refine enter24 (by simp) ?_
 conv=>whnf
 repeat (refine SeqP.go ?_; conv=>whnf)
 refine cmpF (by omega) ?_
 conv=>whnf
 repeat (refine SeqP.go ?_; conv=>whnf)
 refine loop_inv (α:=Nat) (fun k=>[(5,int k),(0,.slice av l.length cv),(1,.slice aw l.length cw)]) (fun _=>h) (fun k=>k≤l.length) (fun k=>l.length - k) 0 (Nat.zero_le _) ⟨rfl,rfl,rfl,trivial⟩ (Hp.Le.refl _) ?_
 rintro k φ hk
 have hk:k≤l.length:=hk
 conv=>whnf
 repeat (refine SeqP.go ?_; conv=>whnf)
 refine cmpB (fun c1=>?_) (fun c1=>?_)
 rotate_left
 ·conv=>whnf
  repeat (refine SeqP.go ?_; conv=>whnf)
  exact ⟨rfl,rfl⟩
 have hk':k < l.length:=by omega
 obtain ⟨r,o,sp,rfl,hsp,p0⟩:=hcv k hk'
 obtain ⟨r',o',sp',rfl,hsp',q0⟩:=hcw k hk'
 have p1:cellAt h r (offAt o (k:Int).toNat 1) = some (int l[k]):=by rw [offAt_eq,show o + (k:Int).toNat * 1 = k + o by omega]; exact p0
 have q1:cellAt h r' (offAt o' (k:Int).toNat 1) = some (int l[k]):=by rw [offAt_eq,show o' + (k:Int).toNat * 1 = k + o' by omega]; exact q0
 conv=>whnf
 repeat (refine SeqP.go ?_; conv=>whnf)
 refine ⟨hsp,⟨by omega,by omega⟩,?_⟩
 conv=>whnf
 refine ⟨_,p1,?_⟩
 conv=>whnf
 refine ⟨hsp',⟨by omega,by omega⟩,?_⟩
 conv=>whnf
 refine ⟨_,q1,?_⟩
 conv=>whnf
 refine cmpF (by omega) ?_
 conv=>whnf
 refine ⟨_,wid (by omega),?_⟩
 conv=>whnf
 exact Rnd.mk (k + 1) (show k + 1≤l.length by omega) (by show l.length - (k + 1) < l.length - k; omega) ⟨rfl,rfl,rfl,trivial⟩ (Hp.Le.refl _) rfl
theorem sign_spec (m:Nat) (hm:m≤1000) (h:Hp):CallP E 70 [int m] h (fun r h'=>r = int (if (m % 2 == 1) = true then -1 else 1)∧h' = h):=by
 refine enter70 (by simp) ?_
 conv=>whnf
 repeat (refine SeqP.go ?_; conv=>whnf)
 refine ⟨by omega,?_⟩
 conv=>whnf
 refine cmpB (fun hb=>?_) (fun hb=>?_)
 ·have hb:(m:Int).tmod 2 = 0:=hb
  rw [tmod2] at hb
  conv=>whnf
  repeat (refine SeqP.go ?_; conv=>whnf)
  exact ⟨by rw [if_neg (by rw [beq_iff_eq]; omega)]; rfl,rfl⟩
 ·have hb:¬ (m:Int).tmod 2 = 0:=hb
  rw [tmod2] at hb
  conv=>whnf
  repeat (refine SeqP.go ?_; conv=>whnf)
  exact ⟨by rw [if_pos (by rw [beq_iff_eq]; omega)]; rfl,rfl⟩
theorem trimmed_spec (h0:Hp) (n:Nat) (hn0:0 < n) (hn:n≤100) (c:Nat→Int) (v:Value) (h:Hp) (hv:WR 2 h0 h v (fl n c)) :
  CallP E 72 [v] h (fun r h'=>WR 2 h0 h r (fl (tl c n) c)∧h' = h):=by
 have hl:=fl_len n c
 have hi:=hv.ints
 obtain ⟨aw,cw,rfl,hcell⟩:=hi
 refine enter72 (by simp) ?_
 conv=>whnf
 refine SeqP.go ?_
 conv=>whnf
 refine SeqP.go ?_
 conv=>whnf
 refine SeqP.cut (α:=Unit) (fun _=>[(3,int (tl c n:Nat)),(0,.slice aw (fl n c).length cw)]) (fun _ H=>H = h) ?_ ?_
 ·conv=>whnf
  refine loop_inv (α:=Nat) (fun s=>[(3,int s),(0,.slice aw (fl n c).length cw)]) (fun _=>h) (fun s=>s≤n∧tl c s = tl c n) (fun s=>s) n ⟨Nat.le_refl _,rfl⟩ ⟨by rw [hl]; rfl,rfl,trivial⟩ (Hp.Le.refl _) ?_
  rintro m φ ⟨hm,ht⟩
  conv=>whnf
  refine SeqP.go ?_
  conv=>whnf
  refine SeqP.go ?_
  conv=>whnf
  refine cmpB (fun c1=>?_) (fun c1=>?_)
  rotate_left
  ·have e0:m = 0:=by omega
   subst e0
   conv=>whnf
   exact ⟨(),⟨by rw [← ht]; rfl,rfl,trivial⟩,rfl,rfl⟩
  have hm1:m - 1 < (fl n c).length:=by omega
  obtain ⟨r,o,sp,rfl,hsp,p0⟩:=hcell (m - 1) hm1
  rw [fl_get] at p0
  have p1:cellAt h r (offAt o ((m - 1:Nat):Int).toNat 1) = some (int (c (m - 1))):=by rw [offAt_eq,show o + ((m - 1:Nat):Int).toNat * 1 = m - 1 + o by omega]; exact p0
  conv=>whnf
  refine ⟨((m - 1:Nat):Int),wie (by omega) (by omega),?_⟩
  conv=>whnf
  refine ⟨hsp,⟨by omega,by omega⟩,?_⟩
  conv=>whnf
  refine ⟨_,p1,?_⟩
  have htm:tl c m = if c (m - 1) = 0 then tl c (m - 1) else m:=by
   obtain ⟨q,rfl⟩:∃ q,m = q + 1:=⟨m - 1,by omega⟩
   rfl
  conv=>whnf
  refine cmpB (fun c2=>?_) (fun c2=>?_)
  rotate_left
  ·rw [if_neg c2] at htm
   conv=>whnf
   exact ⟨(),⟨by rw [← ht,htm]; rfl,rfl,trivial⟩,rfl,rfl⟩
  rw [if_pos c2] at htm
  conv=>whnf
  refine ⟨((m - 1:Nat):Int),wie (by omega) (by omega),?_⟩
  conv=>whnf
  exact Rnd.mk (m - 1) ⟨by omega,by rw [← ht,htm]⟩ (by omega) ⟨rfl,rfl,trivial⟩ (Hp.Le.refl _) rfl
 rintro _ φ h rfl
 have htl:=tl_le c n
 have hcut:=hv.cut (j:=tl c n) (by omega) (by omega)
 obtain ⟨v',e1,hw'⟩:=hcut
 rw [fl_take (by omega)] at hw'
 have hkn:=hw'.known
 obtain ⟨a2,c2,rfl⟩:=hkn
 conv=>whnf
 repeat (refine SeqP.go ?_; conv=>whnf)
 refine CutP.val e1 ?_
 conv=>whnf
 repeat (refine SeqP.go ?_; conv=>whnf)
 exact ⟨hw',rfl⟩
theorem RColours_spec (n:Nat) (P:List (Int×Int)) (hP:NetOk n P) (hl:P.length≤9) (v:Value) (h:Hp) (hv:PairsV h v P) :
  CallP E 25 [int n,v] h (fun r h'=>WR 2 h h' r (colL n P)∧Grows h h'):=by
 obtain ⟨av,cap,rfl,-⟩:=id hv
 have hn:=hP.n1
 have hp:=Nat.pow_le_pow_right (n:=2) (by omega) hl
 have hp1:=Nat.one_le_two_pow (n:=P.length)
 have e0:One (h.lay (.row 2 true (times [int 0] ((n + 1:Nat):Int).toNat))) (h.lay (.row 2 true (times [int 0] ((n + 1:Nat):Int).toNat))) h.next (.row 2 true (rowF (n + 1) (sg (colP n P) oddB 0))):=by
  refine One.start ?_
  rw [Int.toNat_natCast,times_zero]
  refine (Hp.at_lay_self _ _).trans (congrArg (fun l=>some (Obj.row 2 true l)) ?_)
  exact rowF_congr fun w hw=>rfl
 have gz:Grows h (h.lay (.row 2 true (times [int 0] ((n + 1:Nat):Int).toNat))):=Grows.lay _ _
 refine enter25 (by simp) ?_
 conv=>whnf
 refine SeqP.go ?_
 conv=>whnf
 refine SeqP.go ?_
 conv=>whnf
 refine ⟨((n + 1:Nat):Int),wie (by omega) (by omega),?_⟩
 conv=>whnf
 refine ⟨⟨by omega,by omega,by omega,by omega⟩,?_⟩
 conv=>whnf
 generalize h.lay (.row 2 true (times [int 0] ((n + 1:Nat):Int).toNat)) = H0 at e0 gz
 refine SeqP.cut (α:=Hp) (fun _=>[(5,slc h.next 0 (n + 1) (n + 1))]) (fun s H=>H = s∧One H0 s h.next (.row 2 true (rowF (n + 1) (sg (colP n P) oddB (2 ^ P.length))))) ?_ ?_
 ·conv=>whnf
  refine SeqP.go ?_
  conv=>whnf
  refine loop_inv (α:=Nat×Hp) (fun s=>[(6,int s.1),(5,slc h.next 0 (n + 1) (n + 1)),(0,int n),(1,.slice av P.length cap)]) (fun s=>s.2) (fun s=>s.1≤2 ^ P.length∧One H0 s.2 h.next (.row 2 true (rowF (n + 1) (sg (colP n P) oddB s.1)))) (fun s=>2 ^ P.length - s.1) (0,H0) ⟨Nat.zero_le _,e0⟩ ⟨rfl,rfl,rfl,rfl,trivial⟩ (Hp.Le.refl _) ?_
  rintro ⟨d,H2⟩ φ ⟨hd,k2⟩
  dsimp only at hd k2 ⊢
  have gr2:=k2.grows gz (Nat.le_refl _)
  conv=>whnf
  refine SeqP.go ?_
  conv=>whnf
  refine SeqP.go ?_
  conv=>whnf
  refine CallP.mono (Rall_spec P hl _ H2 (hv.ext gr2)) ?_
  rintro r H3 ⟨rfl,rfl⟩
  conv=>whnf
  refine cmpB (fun c2=>?_) (fun c2=>?_)
  rotate_left
  ·conv=>whnf
   have:d = 2 ^ P.length:=by omega
   subst this
   exact ⟨H3,⟨rfl,trivial⟩,⟨rfl,k2⟩,rfl⟩
  have hd':d < 2 ^ P.length:=by omega
  have hd9:=lt512 hl hd'
  have hrk:=rkN_lt hP d
  have hcp:=colP_le n P d
  have hcv:colP n P d = n - rkN P d:=rfl
  have hbd:=sg_bd (p:=colP n P) (o:=oddB) d (colP n P d)
  have hs1:rowF (n + 1) (sg (colP n P) oddB (d + 1)) = (rowF (n + 1) (sg (colP n P) oddB d)).set (colP n P d) (int (sg (colP n P) oddB d (colP n P d) + (if oddB d = true then -1 else 1))):=by
   rw [rowF_set]
   refine rowF_congr fun w hw=>?_
   show (if w = colP n P d then _ else _) = _
   by_cases e:w = colP n P d
   ·subst e
    rw [if_pos rfl,if_pos rfl]
    split <;> omega
   ·rw [if_neg e,if_neg e]
  have hszl:=sz_le d
  have hodd:(if (sz d % 2 == 1) = true then (-1:Int) else 1) = (if oddB d = true then -1 else 1):=rfl
  generalize sg (colP n P) oddB d = c at k2 hbd hs1
  conv=>whnf
  refine SeqP.go ?_
  conv=>whnf
  refine SeqP.cut (α:=Hp) (fun _=>[(7,int (colP n P d:Nat)),(6,int d),(5,slc h.next 0 (n + 1) (n + 1)),(0,int n),(1,.slice av P.length cap)]) (fun s H=>H = s∧One H0 s h.next (.row 2 true (rowF (n + 1) c))) ?_ ?_
  ·conv=>whnf
   refine CallP.mono (RRankN_spec n P hP hl d hd' _ H3 (hv.ext gr2)) ?_
   rintro r H4 ⟨rfl,g4⟩
   conv=>whnf
   refine ⟨((colP n P d:Nat):Int),wie (by omega) (by omega),?_⟩
   conv=>whnf
   exact ⟨H4,⟨rfl,rfl,rfl,rfl,rfl,trivial⟩,⟨rfl,k2.ext g4⟩,rfl⟩
  rintro _ φ H4 ⟨rfl,k4⟩
  have hc:cellAt H4 h.next (offAt 0 ((colP n P d:Nat):Int).toNat 1) = some (int (c (colP n P d))):=by
   rw [offAt_eq,show 0 + ((colP n P d:Nat):Int).toNat * 1 = colP n P d by omega]
   exact cellAt_row k4.obj (rowF_get (by omega))
  have hst:storeAt H4 h.next (offAt 0 ((colP n P d:Nat):Int).toNat 1) [int (c (colP n P d) + (if oddB d = true then -1 else 1))] = some (H4.set h.next (.row 2 true (rowF (n + 1) (sg (colP n P) oddB (d + 1))))):=by
   rw [offAt_eq,show 0 + ((colP n P d:Nat):Int).toNat * 1 = colP n P d by omega,hs1]
   exact storeAt_row k4.obj (by rw [rowF_length]; omega) rfl
  have k5:=k4.set (o':=.row 2 true (rowF (n + 1) (sg (colP n P) oddB (d + 1))))
  have hd512:(d:Int) < 512:=by omega
  conv=>whnf
  refine ⟨rfl,⟨by omega,by omega⟩,?_⟩
  conv=>whnf
  refine ⟨_,hc,?_⟩
  conv=>whnf
  refine CallP.mono (Size_spec d hd9 H4) ?_
  rintro r H4 ⟨rfl,rfl⟩
  conv=>whnf
  refine CallP.mono (sign_spec (sz d) (by omega) H4) ?_
  rw [hodd]
  rintro r H4 ⟨rfl,rfl⟩
  have hsgn:(if oddB d = true then (-1:Int) else 1) = -1∨(if oddB d = true then (-1:Int) else 1) = 1:=by split <;> simp
  generalize (if oddB d = true then (-1:Int) else 1) = sn at hst hsgn
  conv=>whnf
  refine ⟨c (colP n P d) + sn,wid (by omega),?_⟩
  conv=>whnf
  refine ⟨rfl,⟨by omega,by omega⟩,?_⟩
  conv=>whnf
  refine ⟨rfl,_,hst,?_⟩
  conv=>whnf
  refine ⟨?_,?_⟩
  rotate_left
  ·conv=>whnf
   refine ⟨_,wid (by omega),?_⟩
   conv=>whnf
   exact Rnd.mk (d + 1,_) ⟨by show d + 1≤2 ^ P.length; omega,k5⟩ (by show 2 ^ P.length - (d + 1) < 2 ^ P.length - d; omega) ⟨rfl,rfl,rfl,rfl,trivial⟩ (Hp.Le.refl _) rfl
  repeat' (first | exact True.intro | (refine And.intro ?_ ?_ <;> (conv=>whnf)))
  all_goals first
   | exact sameAt_val (h2:=_) rfl (sameV_int _)
   | exact sameAt_val (h2:=_) rfl (sameV_slice _ _ _)
   | exact sameAt_val (h2:=_) (congrArg (hval _) hc) (sameV_int _)
   | exact sameAt_val (h2:=_) (show hval _ (idxSV 1 (.slice (some ⟨_,_,_⟩) _ _) (int _)) = _ from idxS_val' rfl ⟨by omega,by omega⟩) (sameV_ptr _ _)
 rintro _ φ H5 ⟨rfl,k5⟩
 have hW:WR 2 h H5 (slc h.next 0 (n + 1) (n + 1)) (fl (n + 1) (sg (colP n P) oddB (2 ^ P.length))):=by
  refine .inr ⟨h.next,n + 1,true,_,by rw [fl_len],by rw [fl_len]; exact Nat.le_refl _,by rw [rowF_length]; exact Nat.le_refl _,Nat.le_refl _,k5.obj,fun i hi=>?_⟩
  rw [fl_len] at hi
  rw [rowF_get hi,fl_get]
 conv=>whnf
 repeat (refine SeqP.go ?_; conv=>whnf)
 refine CallP.mono (trimmed_spec h (n + 1) (by omega) (by omega) _ _ H5 hW) ?_
 rintro r H5 ⟨hW2,rfl⟩
 have hkn:=hW2.known
 obtain ⟨a2,c2,rfl⟩:=hkn
 conv=>whnf
 repeat (refine SeqP.go ?_; conv=>whnf)
 exact ⟨hW2,k5.grows gz (Nat.le_refl _)⟩
end
end Go.Proofs.Ythgjnkdealdmoaa
namespace Go.Proofs.Ythgjnkdealdmoaa
open Go.Rx Go.RowKit
theorem WR.addr {e:TypeId} {h0 h:Hp} {v:Value} {l:List Int} (k:WR e h0 h v l) {r o n c:Nat} (hv:v = slc r o n c):h0.next≤r∧r < h.next:=by
 rcases k with ⟨rfl,_⟩ | ⟨r',c',x,cs,rfl,h1,h2,hr,hx,h6⟩
 ·cases hv
 ·unfold slc at hv
  injection hv with e1
  injection e1 with e2
  injection e2 with e3
  subst e3
  exact ⟨hr,Hp.lt_of_at hx⟩
theorem ev_two {H5 H6 H7:Hp} {a a':Option Addr} {n:Nat} {L L':List (Int×Int)} (k:GB H5 H6 (.slice a n n) L) (k':GB H6 H7 (.slice a' n n) L') (g:Grows H6 H7):L.length = n∧L'.length = n∧∃ r r',H5.next≤r∧H6.next≤r'∧r≠r'∧EV H7 H7 a r L∧EV H7 H7 a' r' L':=by
 have h1:=EV.of k
 have h2:=EV.of k'
 obtain ⟨n1,-,r,hr,-,e⟩:=h1
 obtain ⟨n2,-,r',hr',-,e'⟩:=h2
 have e2:EV H7 H7 a r L:=⟨Nat.le_refl _,fun _ _ _ e=>e,(e.ext g).obj⟩
 refine ⟨n1.symm,n2.symm,?_⟩
 rcases e.obj with ⟨ea,el⟩ | ⟨ea,x,hx⟩
 ·exact ⟨H5.next + r' + 1,r',by omega,hr',by omega,⟨Nat.le_refl _,fun _ _ _ e=>e,.inl ⟨ea,el⟩⟩,e'⟩
 ·have:=Hp.lt_of_at hx
  exact ⟨r,r',hr,hr',by omega,e2,e'⟩
theorem EV.other {H7 H:Hp} {a a':Option Addr} {r r':Nat} {L L':List (Int×Int)} (k:EV H7 H a r L) (k':EV H7 H7 a' r' L') (hne:r≠r'):EV H H a' r' L' :=
 ⟨Nat.le_refl _,fun _ _ _ e=>e,k'.obj.imp id fun ⟨e,x,hx⟩=>⟨e,x,k.at_ _ _ (fun y=>hne y.symm) hx⟩⟩
attribute [local irreducible] E idxN cellAt cellsAt storeAt callable helems hmoved lookIn findKey keyOk hentries Hp.at Hp.set Hp.lay arBits hupdated setAt CallP YieldP BoolOf IsWrap Rnd LoopP AppP CutP Int.tmod Int.tdiv Int.fdiv
section
variable [Unknowns]
attribute [local irreducible] ResP sameAt flat
theorem own_spec (P:List (Int×Int)) (hl:P.length≤9) (v:Value) (h0 h:Hp) (hv:GB h0 h v P):CallP E 57 [v] h (fun r h'=>GB h h' r P∧Grows h h'):=by
 have hbC:BuiltC h0 h 79 2 v P.length ((flat P).map int):=by unfold GB at hv; exact hv
 obtain ⟨av,cap,rfl⟩:=oneGB hv
 refine enter57 (by simp) ?_
 conv=>whnf
 repeat (refine SeqP.go ?_; conv=>whnf)
 refine resP_val (v:=int P.length) (h:=h) ?_ ?_
 ·conv=>lhs; whnf
  refine congrArg (fun n=>HRes.val (Value.int .i64 n) h) ?_
  split <;> omega
 conv=>whnf
 refine CutP.built (i:=0) (j:=P.length) hbC (flat_one _) ⟨.inl ⟨rfl,rfl⟩,.inr rfl⟩ (Nat.zero_le _) (Nat.le_refl _) ?_
 intro v1 hv1
 conv=>whnf
 refine AppP.cells (h0:=h) BuiltC.nil (.refl _) hv1 (by omega) (by omega) ?_
 intro v2 h3 b3 g3 _
 have e3:[] ++ ((flat P).map int |>.drop (0 * 2)).take ((P.length - 0) * 2) = (flat P).map int:=by
  rw [flat_part,List.nil_append,List.drop_zero,Nat.sub_zero,List.take_length]
 rw [e3,show 0 + (P.length - 0) = P.length by omega] at b3
 have hbs:=BuiltC.slice b3
 obtain ⟨a3,rfl,-⟩:=hbs
 conv=>whnf
 repeat (refine SeqP.go ?_; conv=>whnf)
 exact ⟨by unfold GB; exact b3,g3⟩
theorem own_law (n:Int) (L:List (Int×Int)) (hL:L.length < 9223372036854775808) (v:Value) (h:Hp) (hv:PairsV h v L) :
  CallP E 15 [int n,v] h (fun r _=>r = .bool true):=by
 obtain ⟨av,cap,rfl,-⟩:=id hv
 refine enter15 (by simp) ?_
 conv=>whnf
 repeat (refine SeqP.go ?_; conv=>whnf)
 refine CallP.mono (tame_spec n _ L 9 (by omega) h hv hL) ?_
 rintro r H1 ⟨m,v1,P,rfl,hP,hPl,hb,g1⟩
 have hn:=hP.n1
 have hpv:=hb.pairs
 obtain ⟨a1,c1,rfl,-⟩:=id hpv
 conv=>whnf
 refine SeqP.cut (α:=Value×Hp) (fun s=>[(6,s.1),(0,int m),(5,.slice a1 P.length c1)]) (fun s H=>H = s.2∧GB H1 s.2 s.1 P∧Grows H1 s.2) ?_ ?_
 ·conv=>whnf
  refine CallP.mono (own_spec P hPl _ h H1 hb) ?_
  rintro w H2 ⟨hbw,g2⟩
  conv=>whnf
  exact ⟨(w,H2),⟨rfl,rfl,rfl,trivial⟩,⟨rfl,hbw,g2⟩,rfl⟩
 rintro ⟨wc,_⟩ φ H2 ⟨rfl,hbc,g2⟩
 dsimp only at hbc g2 ⊢
 conv=>whnf
 refine SeqP.cut (α:=Value×Hp) (fun s=>[(7,s.1),(8,int 0),(6,wc),(0,int m),(5,.slice a1 P.length c1)]) (fun s H=>H = s.2∧WR 2 H2 s.2 s.1 (colL m P)∧Grows H2 s.2) ?_ ?_
 ·conv=>whnf
  refine CallP.mono (Colours_spec m P hP hPl _ H2 (hpv.ext g2)) ?_
  rintro r H3 ⟨⟨t,rfl,ht⟩,g3⟩
  have hkn:=ht.known
  obtain ⟨a3,c3,rfl⟩:=hkn
  conv=>whnf
  exact ⟨(_,H3),⟨rfl,rfl,rfl,rfl,rfl,trivial⟩,⟨rfl,ht,g3⟩,rfl⟩
 rintro ⟨a,_⟩ φ H3 ⟨rfl,hWa,g3⟩
 dsimp only at hWa g3 ⊢
 conv=>whnf
 refine SeqP.cut (α:=Value×Hp) (fun s=>[(9,s.1),(10,int 0),(7,a),(8,int 0),(6,wc),(0,int m),(5,.slice a1 P.length c1)]) (fun s H=>H = s.2∧WR 3 H3 s.2 s.1 (trL P (2 ^ P.length))∧Grows H3 s.2) ?_ ?_
 ·conv=>whnf
  refine CallP.mono (Trees_spec m P hP hPl _ H3 (hpv.ext (g2.trans g3))) ?_
  rintro r H4 ⟨⟨t,rfl,-,b,hb1,hb2⟩,g4⟩
  have hW:=(WR.of hb2).back hb1
  have hkn:=hW.known
  obtain ⟨a3,c3,rfl⟩:=hkn
  conv=>whnf
  exact ⟨(_,H4),⟨rfl,rfl,rfl,rfl,rfl,rfl,rfl,trivial⟩,⟨rfl,hW,g4⟩,rfl⟩
 rintro ⟨t,_⟩ φ H4 ⟨rfl,hWt,g4⟩
 dsimp only at hWt g4 ⊢
 have hWa4:=hWa.ext g4
 have hexA:∃ A,colL m P = A:=⟨_,rfl⟩
 obtain ⟨A,hA⟩:=hexA
 have hAl:A.length≤100:=by rw [← hA]; unfold colL; rw [fl_len]; have:=tl_le (sg (colP m P) oddB (2 ^ P.length)) (m + 1); omega
 rw [hA] at hWa hWa4
 have hexT:∃ T,trL P (2 ^ P.length) = T:=⟨_,rfl⟩
 obtain ⟨T,hT⟩:=hexT
 have hTl:T.length≤512:=by rw [← hT]; have:=trL_len P (2 ^ P.length); have:=Nat.pow_le_pow_right (n:=2) (by omega) hPl; omega
 rw [hT] at hWt
 have hadA:∀ r o n c,a = slc r o n c→H2.next≤r∧r < H3.next:=fun r o n c e=>hWa.addr e
 have hadT:∀ r o n c,t = slc r o n c→H3.next≤r∧r < H4.next:=fun r o n c e=>hWt.addr e
 have hkA:=hWa.known
 obtain ⟨aa,ca,ea⟩:=hkA
 have hkT:=hWt.known
 obtain ⟨at_,ct,et⟩:=hkT
 have g24:=g3.trans g4
 rw [ea,et]
 conv=>whnf
 refine SeqP.cut (α:=Hp) (fun _=>[(9,.slice at_ T.length ct),(10,int 0),(8,int 0),(6,wc),(0,int m),(5,.slice a1 P.length c1)]) (fun s H=>H = s∧WR 3 H3 s t T∧Grows H2 s) ?_ ?_
 ·conv=>whnf
  refine SeqP.go ?_
  conv=>whnf
  refine loop_inv (α:=Nat×List Int×Hp) (fun s=>[(11,int s.1),(7,.slice aa A.length ca),(9,.slice at_ T.length ct),(10,int 0),(8,int 0),(6,wc),(0,int m),(5,.slice a1 P.length c1)]) (fun s=>s.2.2) (fun s=>s.1≤A.length∧s.2.1.length = A.length∧WR 2 H2 s.2.2 a s.2.1∧WR 3 H3 s.2.2 t T∧Grows H2 s.2.2) (fun s=>A.length - s.1) (0,A,H4) ⟨Nat.zero_le _,rfl,hWa4,hWt,g24⟩ ⟨rfl,rfl,rfl,rfl,rfl,rfl,rfl,rfl,trivial⟩ (Hp.Le.refl _) ?_
  rintro ⟨i,l,H⟩ φ ⟨hi,hl,hw,hwt,gH⟩
  dsimp only at hi hl hw hwt gH ⊢
  conv=>whnf
  refine SeqP.go ?_
  conv=>whnf
  refine SeqP.go ?_
  conv=>whnf
  refine cmpB (fun d1=>?_) (fun d1=>?_)
  rotate_left
  ·conv=>whnf
   exact ⟨H,⟨rfl,rfl,rfl,rfl,rfl,rfl,trivial⟩,⟨rfl,hwt,gH⟩,rfl⟩
  have hst:=hw.set (i:=i) (by omega) (-7)
  obtain ⟨r,c,H',ev,hr,hs1,hs2,hs3,hs4⟩:=hst
  have had:=hadA r _ _ _ ev
  rw [ea] at ev
  injection ev with ev1 ev2 ev3
  subst ev1
  have hwt':=hwt.kb (H2:=H') fun j o hj e=>hs3 j o (by omega) e
  have gH':Grows H2 H':=⟨by rw [hs2]; exact gH.next,fun j o e=>hs3 j o (by have:=Hp.lt_of_at e; omega) (gH.at_ _ _ e)⟩
  conv=>whnf
  refine SeqP.go ?_
  conv=>whnf
  refine ⟨rfl,⟨by omega,by omega⟩,?_⟩
  conv=>whnf
  refine ⟨rfl,H',hs1,?_⟩
  conv=>whnf
  refine ⟨_,wid (by omega),?_⟩
  conv=>whnf
  exact Rnd.mk (i + 1,l.set i (-7),H') ⟨by show i + 1≤A.length; omega,by rw [List.length_set]; exact hl,hs4,hwt',gH'⟩ (by show A.length - (i + 1) < A.length - i; omega) ⟨rfl,rfl,rfl,rfl,rfl,rfl,rfl,rfl,trivial⟩ (Hp.Le.refl _) rfl
 rintro _ φ H5 ⟨rfl,hWt5,g5⟩
 conv=>whnf
 refine SeqP.cut (α:=Hp) (fun _=>[(10,int 0),(8,int 0),(6,wc),(0,int m),(5,.slice a1 P.length c1)]) (fun s H=>H = s∧Grows H2 s) ?_ ?_
 ·conv=>whnf
  refine SeqP.go ?_
  conv=>whnf
  refine loop_inv (α:=Nat×List Int×Hp) (fun s=>[(12,int s.1),(9,.slice at_ T.length ct),(10,int 0),(8,int 0),(6,wc),(0,int m),(5,.slice a1 P.length c1)]) (fun s=>s.2.2) (fun s=>s.1≤T.length∧s.2.1.length = T.length∧WR 3 H3 s.2.2 t s.2.1∧Grows H2 s.2.2) (fun s=>T.length - s.1) (0,T,H5) ⟨Nat.zero_le _,rfl,hWt5,g5⟩ ⟨rfl,rfl,rfl,rfl,rfl,rfl,rfl,trivial⟩ (Hp.Le.refl _) ?_
  rintro ⟨i,l,H⟩ φ ⟨hi,hl,hw,gH⟩
  dsimp only at hi hl hw gH ⊢
  conv=>whnf
  refine SeqP.go ?_
  conv=>whnf
  refine SeqP.go ?_
  conv=>whnf
  refine cmpB (fun d1=>?_) (fun d1=>?_)
  rotate_left
  ·conv=>whnf
   exact ⟨H,⟨rfl,rfl,rfl,rfl,rfl,trivial⟩,⟨rfl,gH⟩,rfl⟩
  have hst:=hw.set (i:=i) (by omega) (-7)
  obtain ⟨r,c,H',ev,hr,hs1,hs2,hs3,hs4⟩:=hst
  have had:=hadT r _ _ _ ev
  rw [et] at ev
  injection ev with ev1 ev2 ev3
  subst ev1
  have hn3:=g3.next
  have gH':Grows H2 H':=⟨by rw [hs2]; exact gH.next,fun j o e=>hs3 j o (by have:=Hp.lt_of_at e; omega) (gH.at_ _ _ e)⟩
  conv=>whnf
  refine SeqP.go ?_
  conv=>whnf
  refine ⟨rfl,⟨by omega,by omega⟩,?_⟩
  conv=>whnf
  refine ⟨rfl,H',hs1,?_⟩
  conv=>whnf
  refine ⟨_,wid (by omega),?_⟩
  conv=>whnf
  exact Rnd.mk (i + 1,l.set i (-7),H') ⟨by show i + 1≤T.length; omega,by rw [List.length_set]; exact hl,hs4,gH'⟩ (by show T.length - (i + 1) < T.length - i; omega) ⟨rfl,rfl,rfl,rfl,rfl,rfl,rfl,trivial⟩ (Hp.Le.refl _) rfl
 clear g5 hWt5
 rintro _ φ H5 ⟨rfl,g5⟩
 conv=>whnf
 refine SeqP.cut (α:=Hp) (fun _=>[(10,int 0),(8,int 0),(6,wc),(0,int m),(5,.slice a1 P.length c1)]) (fun s H=>H = s∧Grows H2 s) ?_ ?_
 ·conv=>whnf
  refine SeqP.go ?_
  conv=>whnf
  refine cmpB (fun d0=>?_) (fun d0=>?_)
  rotate_left
  ·conv=>whnf
   exact ⟨H5,⟨rfl,rfl,rfl,rfl,rfl,trivial⟩,⟨rfl,g5⟩,rfl⟩
  have hpos:0 < P.length:=by omega
  have hll:=lessP_len hpos
  have hjl:=joinL_len hpos
  have g15:=g2.trans g5
  conv=>whnf
  refine SeqP.cut (α:=Option Addr×Hp) (fun s=>[(14,.slice s.1 (P.length - 1) (P.length - 1)),(15,int 0),(10,int 0),(8,int 0),(6,wc),(0,int m),(5,.slice a1 P.length c1)]) (fun s H=>H = s.2∧GB H5 s.2 (.slice s.1 (P.length - 1) (P.length - 1)) (lessP P 0)∧Grows H5 s.2) ?_ ?_
  ·conv=>whnf
   refine CallP.mono (Without_spec m P hP hPl 0 hpos _ h H5 (hb.ext g15)) ?_
   rintro r H6 ⟨⟨a,rfl,hb6⟩,g6⟩
   conv=>whnf
   exact ⟨(a,H6),⟨rfl,rfl,rfl,rfl,rfl,rfl,rfl,trivial⟩,⟨rfl,hb6,g6⟩,rfl⟩
  rintro ⟨ab,_⟩ φ H6 ⟨rfl,hb6,g6⟩
  dsimp only at hb6 g6 ⊢
  conv=>whnf
  refine SeqP.cut (α:=Option Addr×Hp) (fun s=>[(17,.slice s.1 (P.length - 1) (P.length - 1)),(18,int 0),(14,.slice ab (P.length - 1) (P.length - 1)),(15,int 0),(10,int 0),(8,int 0),(6,wc),(0,int m),(5,.slice a1 P.length c1)]) (fun s H=>H = s.2∧GB H6 s.2 (.slice s.1 (P.length - 1) (P.length - 1)) (joinL P 0)∧Grows H6 s.2) ?_ ?_
  ·conv=>whnf
   refine CallP.mono (Joined_spec m P hP hPl 0 hpos _ h H6 (hb.ext (g15.trans g6))) ?_
   rintro r H7 ⟨⟨a,rfl,hb7⟩,g7⟩
   conv=>whnf
   exact ⟨(a,H7),⟨rfl,rfl,rfl,rfl,rfl,rfl,rfl,rfl,rfl,trivial⟩,⟨rfl,hb7,g7⟩,rfl⟩
  rintro ⟨ad_,_⟩ φ H7 ⟨rfl,hb7,g7⟩
  dsimp only at hb7 g7 ⊢
  have htw:=ev_two hb6 hb7 g7
  obtain ⟨lB,lD,r,r',hr,hr',hne,ev,ev'⟩:=htw
  have g27:=(g5.trans g6).trans g7
  have hn2:=g5.next
  have hn6:=g6.next
  generalize lessP P 0 = LB at lB ev
  generalize joinL P 0 = LD at lD ev'
  conv=>whnf
  refine SeqP.cut (α:=Hp) (fun _=>[(17,.slice ad_ (P.length - 1) (P.length - 1)),(18,int 0),(15,int 0),(10,int 0),(8,int 0),(6,wc),(0,int m),(5,.slice a1 P.length c1)]) (fun s H=>H = s∧EV s s ad_ r' LD∧Grows H2 s) ?_ ?_
  ·conv=>whnf
   refine SeqP.go ?_
   conv=>whnf
   refine loop_inv (α:=Nat×List (Int×Int)×Hp) (fun s=>[(19,int s.1),(14,.slice ab (P.length - 1) (P.length - 1)),(17,.slice ad_ (P.length - 1) (P.length - 1)),(18,int 0),(15,int 0),(10,int 0),(8,int 0),(6,wc),(0,int m),(5,.slice a1 P.length c1)]) (fun s=>s.2.2) (fun s=>s.1≤P.length - 1∧s.2.1.length = P.length - 1∧EV H7 s.2.2 ab r s.2.1) (fun s=>P.length - 1 - s.1) (0,LB,H7) ⟨Nat.zero_le _,lB,ev⟩ ⟨rfl,rfl,rfl,rfl,rfl,rfl,rfl,rfl,rfl,rfl,trivial⟩ (Hp.Le.refl _) ?_
   rintro ⟨i,l,H⟩ φ ⟨hi,hl,k⟩
   dsimp only at hi hl k ⊢
   conv=>whnf
   refine SeqP.go ?_
   conv=>whnf
   refine SeqP.go ?_
   conv=>whnf
   refine cmpB (fun d1=>?_) (fun d1=>?_)
   rotate_left
   ·conv=>whnf
    exact ⟨H,⟨rfl,rfl,rfl,rfl,rfl,rfl,rfl,rfl,trivial⟩,⟨rfl,k.other ev' hne,k.grows g27 (by omega)⟩,rfl⟩
   have hge:=k.get (i:=i) (by omega)
   obtain ⟨rfl,-⟩:=hge
   have hst:=k.set (i:=i) (by omega) (-7,-7)
   obtain ⟨H',hs1,k'⟩:=hst
   have hs1:storeAt H r (offAt 0 (i:Int).toNat 2) [int (-7),int (-7)] = some H':=hs1
   conv=>whnf
   refine SeqP.go ?_
   conv=>whnf
   refine ⟨rfl,⟨by omega,by omega⟩,?_⟩
   conv=>whnf
   refine ⟨rfl,H',hs1,?_⟩
   conv=>whnf
   refine ⟨_,wid (by omega),?_⟩
   conv=>whnf
   exact Rnd.mk (i + 1,l.set i (-7,-7),H') ⟨by show i + 1≤P.length - 1; omega,by rw [List.length_set]; exact hl,k'⟩ (by show P.length - 1 - (i + 1) < P.length - 1 - i; omega) ⟨rfl,rfl,rfl,rfl,rfl,rfl,rfl,rfl,rfl,rfl,trivial⟩ (Hp.Le.refl _) rfl
  clear ev' g27
  rintro _ φ H8 ⟨rfl,ev',g28⟩
  conv=>whnf
  refine SeqP.cut (α:=Hp) (fun _=>[(18,int 0),(15,int 0),(10,int 0),(8,int 0),(6,wc),(0,int m),(5,.slice a1 P.length c1)]) (fun s H=>H = s∧Grows H2 s) ?_ ?_
  ·conv=>whnf
   refine SeqP.go ?_
   conv=>whnf
   refine loop_inv (α:=Nat×List (Int×Int)×Hp) (fun s=>[(20,int s.1),(17,.slice ad_ (P.length - 1) (P.length - 1)),(18,int 0),(15,int 0),(10,int 0),(8,int 0),(6,wc),(0,int m),(5,.slice a1 P.length c1)]) (fun s=>s.2.2) (fun s=>s.1≤P.length - 1∧s.2.1.length = P.length - 1∧EV H8 s.2.2 ad_ r' s.2.1) (fun s=>P.length - 1 - s.1) (0,LD,H8) ⟨Nat.zero_le _,lD,ev'⟩ ⟨rfl,rfl,rfl,rfl,rfl,rfl,rfl,rfl,rfl,trivial⟩ (Hp.Le.refl _) ?_
   rintro ⟨i,l,H⟩ φ ⟨hi,hl,k⟩
   dsimp only at hi hl k ⊢
   conv=>whnf
   refine SeqP.go ?_
   conv=>whnf
   refine SeqP.go ?_
   conv=>whnf
   refine cmpB (fun d1=>?_) (fun d1=>?_)
   rotate_left
   ·conv=>whnf
    exact ⟨H,⟨rfl,rfl,rfl,rfl,rfl,rfl,rfl,trivial⟩,⟨rfl,k.grows g28 (by omega)⟩,rfl⟩
   have hge:=k.get (i:=i) (by omega)
   obtain ⟨rfl,-⟩:=hge
   have hst:=k.set (i:=i) (by omega) (-7,-7)
   obtain ⟨H',hs1,k'⟩:=hst
   have hs1:storeAt H r' (offAt 0 (i:Int).toNat 2) [int (-7),int (-7)] = some H':=hs1
   conv=>whnf
   refine SeqP.go ?_
   conv=>whnf
   refine ⟨rfl,⟨by omega,by omega⟩,?_⟩
   conv=>whnf
   refine ⟨rfl,H',hs1,?_⟩
   conv=>whnf
   refine ⟨_,wid (by omega),?_⟩
   conv=>whnf
   exact Rnd.mk (i + 1,l.set i (-7,-7),H') ⟨by show i + 1≤P.length - 1; omega,by rw [List.length_set]; exact hl,k'⟩ (by show P.length - 1 - (i + 1) < P.length - 1 - i; omega) ⟨rfl,rfl,rfl,rfl,rfl,rfl,rfl,rfl,rfl,trivial⟩ (Hp.Le.refl _) rfl
  rintro _ φ H9 ⟨rfl,g29⟩
  conv=>whnf
  refine SeqP.go ?_
  conv=>whnf
  refine cmpF (by omega) ?_
  conv=>whnf
  refine cmpF (by omega) ?_
  conv=>whnf
  exact ⟨H9,⟨rfl,rfl,rfl,rfl,rfl,trivial⟩,⟨rfl,g29⟩,rfl⟩
 clear g5
 rintro _ φ H5 ⟨rfl,g5⟩
 have hp5:=hpv.ext (g2.trans g5)
 have hpc5:=(hbc.ext g5).pairs
 have hkc:=oneGB hbc
 obtain ⟨ac,cc,rfl⟩:=hkc
 conv=>whnf
 refine SeqP.cut (α:=Value×Hp) (fun s=>[(21,s.1),(22,int 0),(10,int 0),(8,int 0),(6,.slice ac P.length cc),(0,int m),(5,.slice a1 P.length c1)]) (fun s H=>H = s.2∧Ints s.2 s.1 A∧Grows H5 s.2) ?_ ?_
 ·conv=>whnf
  have hcl1:=Colours_spec m P hP hPl _ H5 hp5
  rw [hA] at hcl1
  refine CallP.mono hcl1 ?_
  rintro r H6 ⟨⟨w,rfl,hw⟩,g6⟩
  have hi6:=hw.ints
  obtain ⟨a6,c6,rfl,-⟩:=id hi6
  conv=>whnf
  exact ⟨(_,H6),⟨rfl,rfl,rfl,rfl,rfl,rfl,rfl,trivial⟩,⟨rfl,hi6,g6⟩,rfl⟩
 rintro ⟨w21,_⟩ φ H6 ⟨rfl,hi21,g6⟩
 dsimp only at hi21 g6 ⊢
 conv=>whnf
 refine SeqP.cut (α:=Value×Hp) (fun s=>[(23,s.1),(24,int 0),(21,w21),(22,int 0),(10,int 0),(8,int 0),(6,.slice ac P.length cc),(0,int m),(5,.slice a1 P.length c1)]) (fun s H=>H = s.2∧Ints s.2 s.1 T∧Grows H6 s.2) ?_ ?_
 ·conv=>whnf
  have hcl2:=Trees_spec m P hP hPl _ H6 (hp5.ext g6)
  rw [hT] at hcl2
  refine CallP.mono hcl2 ?_
  rintro r H7 ⟨⟨w,rfl,hw,-⟩,g7⟩
  have hi7:=hw.ints
  obtain ⟨a6,c6,rfl,-⟩:=id hi7
  conv=>whnf
  exact ⟨(_,H7),⟨rfl,rfl,rfl,rfl,rfl,rfl,rfl,rfl,rfl,trivial⟩,⟨rfl,hi7,g7⟩,rfl⟩
 rintro ⟨w23,_⟩ φ H7 ⟨rfl,hi23,g7⟩
 dsimp only at hi23 g7 ⊢
 have hi21:=hi21.ext g7
 have g57:=g6.trans g7
 have hp7:=hp5.ext g57
 have hpc7:=hpc5.ext g57
 have hk21:∃ a c,w21 = .slice a A.length c:=by
  obtain ⟨a,c,e,-⟩:=hi21
  exact ⟨a,c,e⟩
 have hk23:∃ a c,w23 = .slice a T.length c:=by
  obtain ⟨a,c,e,-⟩:=hi23
  exact ⟨a,c,e⟩
 obtain ⟨b21,d21,rfl⟩:=hk21
 obtain ⟨b23,d23,rfl⟩:=hk23
 conv=>whnf
 refine SeqP.go ?_
 conv=>whnf
 refine cmpT (by omega) ?_
 conv=>whnf
 refine cmpT (by omega) ?_
 conv=>whnf
 refine cmpT (by omega) ?_
 conv=>whnf
 refine cmpT (by omega) ?_
 conv=>whnf
 refine CallP.mono (pairs_spec _ _ P (by omega) H7 hp7 hpc7) ?_
 rintro r H7 ⟨rfl,rfl⟩
 conv=>whnf
 have hcl3:=RColours_spec m P hP hPl _ H7 hpc7
 rw [hA] at hcl3
 refine CallP.mono hcl3 ?_
 rintro r H8 ⟨hw8,g8⟩
 have hi8:=hw8.ints
 have hkn:=hw8.known
 obtain ⟨a8,c8,rfl⟩:=hkn
 conv=>whnf
 refine CallP.mono (sameL_spec _ _ A (by omega) H8 (hi21.ext g8) hi8) ?_
 rintro r H8 ⟨rfl,rfl⟩
 conv=>whnf
 have hcl4:=RTrees_spec m P hP hPl _ H8 (hpc7.ext g8)
 rw [hT] at hcl4
 refine CallP.mono hcl4 ?_
 rintro r H9 ⟨hb9,g9⟩
 have hi9:=hb9.ints
 have hk9:∃ a c,r = .slice a T.length c:=by
  obtain ⟨a,c,e,-⟩:=hi9
  exact ⟨a,c,e⟩
 obtain ⟨a9,c9,rfl⟩:=hk9
 conv=>whnf
 refine CallP.mono (intsL_spec _ _ T (by omega) H9 ((hi23.ext g8).ext g9) hi9) ?_
 rintro r H9 ⟨rfl,rfl⟩
 conv=>whnf
 refine memo20 ?_
 conv=>whnf
 repeat (refine SeqP.go ?_; conv=>whnf)
 rfl
theorem own_law_spec (n:Int) (hn:-9223372036854775808≤n∧n < 9223372036854775808) (t:Tr) (ht:TyT Try.prog 22 [t]):∀ h vs,AllT h vs [.num n,t]→CallP E 15 vs h (fun r _=>r = .bool true):=by
 intro h vs hvs
 obtain ⟨P,rfl,hm,-⟩:=ty_pairs Try.underlying22 Try.underlying79 Try.underlying3 (by kernel_rfl) (by kernel_rfl) ht
 match vs,hvs with
 | [_,v],hvs =>
 obtain ⟨h1,h2,-⟩:=hvs
 cases h1
 exact own_law n P (by have:maxLen = 4294967296∨True:=.inr trivial; unfold maxLen at hm; omega) v h h2.lentV.pairs
end
end Go.Proofs.Ythgjnkdealdmoaa
