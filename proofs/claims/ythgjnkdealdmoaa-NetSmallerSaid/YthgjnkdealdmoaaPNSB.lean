/- Contracts of the functions that PNSB comes to. -/
import Derived.Test.YthgjnkdealdmoaaPNSA
import Derived.Test.YthgjnkdealdmoaaWx26
import Derived.Test.YthgjnkdealdmoaaNAwake
set_option maxRecDepth 100000
set_option maxHeartbeats 2000000
set_option linter.unusedVariables false
set_option linter.unusedSectionVars false
set_option linter.unusedSimpArgs false
namespace Go.Proofs.Ythgjnkdealdmoaa
open Go.Rx Go.RowKit
def mvE (i k:Int) (e:Int×Int):Int×Int:=(min (mvd i k e.1) (mvd i k e.2),max (mvd i k e.1) (mvd i k e.2))
def mvK (i k:Int) (L:List (Int×Int)) (e:Nat):List (Int×Int):=(L.take e).map (mvE i k) ++ L.drop e
theorem mvK_len (i k:Int) (L:List (Int×Int)) (e:Nat):(mvK i k L e).length = L.length:=by unfold mvK; simp; omega
theorem mvK_get {i k:Int} {L:List (Int×Int)} {e:Nat} (he:e < L.length):(mvK i k L e)[e]'(by rw [mvK_len]; exact he) = L[e]:=by
 unfold mvK
 rw [List.getElem_append_right (by rw [List.length_map,List.length_take]; omega)]
 simp only [List.length_map,List.length_take,List.getElem_drop]
 congr 1
 omega
theorem mvK_set {i k:Int} {L:List (Int×Int)} {e:Nat} (he:e < L.length):(mvK i k L e).set e (mvE i k L[e]) = mvK i k L (e + 1):=by
 unfold mvK
 rw [List.set_append_right _ _ (by rw [List.length_map,List.length_take]; omega),List.length_map,List.length_take,show e - min e L.length = 0 by omega,List.drop_eq_getElem_cons he,List.set_cons_zero,List.take_succ_eq_append_getElem he,List.map_append,List.append_assoc]
 rfl
def loopB (P:List (Int×Int)) (k:Nat):Bool:=decide ((edg P k).1 = (edg P k).2)
def mvP (P:List (Int×Int)) (k:Nat):List (Int×Int):=(lessP P k).map (mvE (edg P k).1 (edg P k).2)
def joinL (P:List (Int×Int)) (k:Nat):List (Int×Int):=if loopB P k = true then lessP P k else srt (mvP P k) (mvP P k).length
def joinN (n:Nat) (P:List (Int×Int)) (k:Nat):Nat:=if loopB P k = true then n else n - 1
theorem mvP_len {P:List (Int×Int)} {k:Nat} (hk:k < P.length):(mvP P k).length = P.length - 1:=by unfold mvP; rw [List.length_map,lessP_len hk]
theorem joinL_len {P:List (Int×Int)} {k:Nat} (hk:k < P.length):(joinL P k).length = P.length - 1:=by
 unfold joinL
 split
 ·exact lessP_len hk
 ·rw [srt_len,mvP_len hk]
theorem mvK_zero (i k:Int) (L:List (Int×Int)):mvK i k L 0 = L:=by simp [mvK]
theorem mvK_all (i k:Int) (L:List (Int×Int)):mvK i k L L.length = L.map (mvE i k):=by simp [mvK]
theorem EV.over {h0 H:Hp} {a:Option Addr} {r q:Nat} {o:Rx.Obj} {L:List (Int×Int)} (k:EV h0 H a r L) (hq:q≠r):EV (H.set q o) (H.set q o) a r L :=
 ⟨Nat.le_refl _,fun _ _ _ e=>e,k.obj.imp id fun ⟨e,x,hx⟩=>⟨e,x,by rw [Hp.at_set_ne _ (fun y=>hq y.symm)]; exact hx⟩⟩
attribute [local irreducible] E idxN cellAt cellsAt storeAt callable helems hmoved lookIn findKey keyOk hentries Hp.at Hp.set Hp.lay arBits hupdated setAt CallP YieldP BoolOf IsWrap Rnd LoopP AppP CutP Int.tmod Int.tdiv Int.fdiv
section
variable [Unknowns]
attribute [local irreducible] ResP sameAt flat finP
theorem joined_spec (n:Nat) (P:List (Int×Int)) (hP:NetOk n P) (hl:P.length≤9) (k:Nat) (hk:k < P.length) (v:Value) (h0 h:Hp) (hv:GB h0 h v P) :
  CallP E 93 [gval n v,int k] h (fun r h'=>(∃ a,r = gval (joinN n P k) (.slice a (P.length - 1) (P.length - 1))∧GB h h' (.slice a (P.length - 1) (P.length - 1)) (joinL P k))∧Grows h h'):=by
 have hpv:=hv.pairs
 have hn:=hP.n1
 obtain ⟨av,cap,rfl⟩:=oneGB hv
 have hgt:=PairsV.get hpv hk
 obtain ⟨ro,oo,co,eP,p0,p1⟩:=hgt
 injection eP with eP1 _ eP2
 subst eP1; subst eP2
 have hll:=lessP_len hk
 have hok:=hP.ok _ (List.getElem_mem hk)
 have hedg:=edg_get hk
 have hex1:∃ H1,h.lay (.row 83 true [int n,.slice (some ⟨ro,oo,none⟩) P.length cap]) = H1:=⟨_,rfl⟩
 obtain ⟨H0,hH0⟩:=hex1
 have a83:H0.at h.next = some (.row 83 true [int n,.slice (some ⟨ro,oo,none⟩) P.length cap]):=by rw [← hH0]; exact Hp.at_lay_self _ _
 have g0:Grows h H0:=by rw [← hH0]; exact Grows.lay _ _
 have hex2:∃ H2,H0.lay (.row 83 true [int 0,.slice none 0 0]) = H2:=⟨_,rfl⟩
 obtain ⟨H2,hH2⟩:=hex2
 have aR:H2.at H0.next = some (.row 83 true [int 0,.slice none 0 0]):=by rw [← hH2]; exact Hp.at_lay_self _ _
 have g2:Grows H0 H2:=by rw [← hH2]; exact Grows.lay _ _
 have nn:=g0.next
 have hRlt:=Hp.lt_of_at aR
 have hDlt:=Hp.lt_of_at a83
 refine enter93 (by simp) ?_
 conv=>whnf
 refine SeqP.cut (α:=Unit) (fun _=>[(2,ptr h.next 0),(4,ptr H0.next 0),(1,int k)]) (fun _ H=>H = H2) ?_ ?_
 ·conv=>whnf
  exact ⟨(),⟨rfl,by rw [← hH0]; rfl,rfl,trivial⟩,by rw [← hH2,← hH0],rfl⟩
 rintro _ φ H2 rfl
 have a83':=g2.at_ _ _ a83
 conv=>whnf
 refine SeqP.cut (α:=Option Addr×Nat×Hp) (fun s=>[(5,ptr s.2.1 0),(2,ptr h.next 0),(4,ptr H0.next 0),(1,int k)]) (fun s H=>H = s.2.2∧s.2.2.at s.2.1 = some (.row 83 true [int n,.slice s.1 (P.length - 1) (P.length - 1)])∧Grows H2 s.2.2∧H2.next≤s.2.1∧∃ r,H2.next≤r∧r≠s.2.1∧EV s.2.2 s.2.2 s.1 r (lessP P k)) ?_ ?_
 ·conv=>whnf
  refine ⟨_,cellsAt_row a83' (by simp),?_⟩
  conv=>whnf
  refine CallP.mono (without_spec n P hl k hk _ h0 H2 (hv.ext (g0.trans g2))) ?_
  rintro rr H3 ⟨⟨a,c,rfl,hgb⟩,g3⟩
  have hof:=EV.of hgb
  obtain ⟨-,rfl,r,hr,hrne,hev⟩:=hof
  conv=>whnf
  refine ⟨rfl,_,storeAt_full (vs:=[int n,.slice a (P.length - 1) (P.length - 1)]) (Hp.at_lay_self _ _) rfl rfl rfl,?_⟩
  generalize hH4:(H3.lay (.row 83 true [int 0,.slice none 0 0])).set H3.next (.row 83 true [int n,.slice a (P.length - 1) (P.length - 1)]) = H4
  have a4:H4.at H3.next = some (.row 83 true [int n,.slice a (P.length - 1) (P.length - 1)]):=by rw [← hH4]; exact Hp.at_set_self _ (Hp.lt_of_at (Hp.at_lay_self _ _))
  have g4:Grows H3 H4:=by rw [← hH4]; exact (Grows.lay _ _).then_set _ (Nat.le_refl _)
  have hev4:=hev.ext g4
  conv=>whnf
  exact ⟨(a,H3.next,H4),⟨rfl,rfl,rfl,rfl,trivial⟩,⟨rfl,a4,g3.trans g4,g3.next,r,hr,hrne,⟨Nat.le_refl _,fun _ _ _ e=>e,hev4.obj⟩⟩,rfl⟩
 rintro ⟨a,G,_⟩ φ H4 ⟨rfl,aG,g4,hG,r,hr,hrG,hev⟩
 dsimp only at aG g4 hG hrG hev ⊢
 have hGlt:=Hp.lt_of_at aG
 have g04:=(g0.trans g2).trans g4
 have a834:=g4.at_ _ _ a83'
 have n2:=g2.next
 conv=>whnf
 refine SeqP.go ?_
 conv=>whnf
 refine SeqP.go ?_
 conv=>whnf
 refine ⟨_,cellsAt_row a834 (by simp),?_⟩
 conv=>whnf
 refine CallP.mono (isLoop_spec n P hl k hk _ H4 (hpv.ext g04)) ?_
 rintro rr H5 ⟨⟨b,rfl,hb⟩,g5⟩
 have ev5:=hev.ext g5
 have g05:=g04.trans g5
 have aR5:=g5.at_ _ _ (g4.at_ _ _ aR)
 have a835:=g5.at_ _ _ a834
 have aG5:=g5.at_ _ _ aG
 have elB:loopB P k = b:=by
  unfold loopB
  rw [hedg]
  cases b with
  | true=>exact decide_eq_true (hb.1 rfl)
  | false=>exact decide_eq_false fun e=>by cases hb.2 e
 cases b with
 | true =>
  have eJ:joinL P k = lessP P k:=by unfold joinL; rw [if_pos elB]
  have eN:joinN n P k = n:=by unfold joinN; rw [if_pos elB]
  rw [eJ,eN]
  conv=>whnf
  refine SeqP.go ?_
  conv=>whnf
  refine ⟨_,cellsAt_row aG5 (by simp),?_⟩
  conv=>whnf
  refine ⟨rfl,_,storeAt_full (vs:=[int n,.slice a (P.length - 1) (P.length - 1)]) aR5 rfl rfl rfl,?_⟩
  conv=>whnf
  refine leave_cell (i:=(tiOf Try.prog 83).get ty83) (r:=H0.next) (o:=0) (cs:=[int n,.slice a (P.length - 1) (P.length - 1)]) rfl te83 ag83 ?_ ?_
  ·rw [sz83,cellsAt_row (Hp.at_set_self _ (Hp.lt_of_at aR5)) (Nat.le_refl _)]
   rfl
  ·refine ⟨⟨a,rfl,?_⟩,g05.then_set _ nn⟩
   have:=EV.gb (h:=h) (ev5.over (q:=H0.next) (o:=.row 83 true [int n,.slice a (P.length - 1) (P.length - 1)]) (by omega)) (by omega)
   rw [hll] at this
   exact this
 | false =>
  have eJ:joinL P k = srt (mvP P k) (mvP P k).length:=by unfold joinL; rw [if_neg (by rw [elB]; simp)]
  have eN:joinN n P k = n - 1:=by unfold joinN; rw [if_neg (by rw [elB]; simp)]
  rw [eJ,eN]
  have hml:=mvP_len hk
  have q0:=g05.cell p0
  have q1:=g05.cell p1
  have hmP:mvP P k = (lessP P k).map (mvE (P[k]).1 (P[k]).2):=by unfold mvP; rw [hedg]
  conv=>whnf
  refine SeqP.cut (α:=Unit) (fun _=>[(6,int (P[k]).1),(7,int (P[k]).2),(5,ptr G 0),(4,ptr H0.next 0)]) (fun _ H=>H = H5) ?_ ?_
  ·conv=>whnf
   refine ⟨_,cellAt_row a835 rfl,?_⟩
   conv=>whnf
   refine ⟨rfl,⟨by omega,by omega⟩,?_⟩
   conv=>whnf
   refine ⟨⟨by omega,by omega⟩,?_⟩
   conv=>whnf
   refine ⟨_,q0,?_⟩
   conv=>whnf
   refine ⟨_,cellAt_row a835 rfl,?_⟩
   conv=>whnf
   refine ⟨rfl,⟨by omega,by omega⟩,?_⟩
   conv=>whnf
   refine ⟨⟨by omega,by omega⟩,?_⟩
   conv=>whnf
   refine ⟨_,q1,?_⟩
   conv=>whnf
   exact ⟨(),⟨rfl,rfl,rfl,rfl,trivial⟩,rfl,rfl⟩
  rintro _ φ H5 rfl
  have hokL:∀ x ∈ lessP P k,0≤x.1∧x.1≤x.2∧x.2 < n:=fun x hx=>hP.ok x (by unfold lessP at hx; rcases List.mem_append.1 hx with hx | hx; exact List.mem_of_mem_take hx; exact List.mem_of_mem_drop hx)
  have hexL:∃ L,lessP P k = L:=⟨_,rfl⟩
  obtain ⟨L,hL⟩:=hexL
  rw [hL] at hokL ev5 hmP hll
  conv=>whnf
  refine SeqP.cut (α:=Hp) (fun _=>[(5,ptr G 0),(4,ptr H0.next 0)]) (fun s H=>H = s∧EV H5 s a r (mvP P k)) ?_ ?_
  ·conv=>whnf
   refine SeqP.go ?_
   conv=>whnf
   refine ⟨_,cellAt_row aG5 rfl,?_⟩
   conv=>whnf
   refine loop_inv (α:=Nat×Hp) (fun s=>[(34,int s.1),(33,int ((P.length - 1:Nat):Int)),(32,.slice a (P.length - 1) (P.length - 1)),(6,int (P[k]).1),(7,int (P[k]).2),(5,ptr G 0),(4,ptr H0.next 0)]) (fun s=>s.2) (fun s=>s.1≤L.length∧EV H5 s.2 a r (mvK (P[k]).1 (P[k]).2 L s.1)) (fun s=>L.length - s.1) (0,H5) ⟨Nat.zero_le _,by rw [mvK_zero]; exact ⟨Nat.le_refl _,fun _ _ _ e=>e,ev5.obj⟩⟩ ⟨rfl,rfl,rfl,rfl,rfl,rfl,rfl,trivial⟩ (Hp.Le.refl _) ?_
   rintro ⟨e,H⟩ φ ⟨he,hk6⟩
   dsimp only at he hk6 ⊢
   conv=>whnf
   refine SeqP.go ?_
   conv=>whnf
   refine cmpB (fun c1=>?_) (fun c1=>?_)
   rotate_left
   ·have:e = L.length:=by omega
    subst this
    rw [mvK_all,← hmP] at hk6
    conv=>whnf
    exact ⟨H,⟨rfl,rfl,trivial⟩,⟨rfl,hk6⟩,rfl⟩
   have he':e < L.length:=by omega
   have hml6:=mvK_len (P[k]).1 (P[k]).2 L e
   have hge:=hk6.get (i:=e) (by omega)
   rw [mvK_get he'] at hge
   obtain ⟨rfl,ce⟩:=hge
   have hx:=hokL _ (List.getElem_mem he')
   have hse:=mvK_set (i:=(P[k]).1) (k:=(P[k]).2) he'
   generalize L[e] = x at ce hx hse
   conv=>whnf
   refine SeqP.go ?_
   conv=>whnf
   refine SeqP.go ?_
   conv=>whnf
   refine ⟨rfl,⟨by omega,by omega⟩,?_⟩
   conv=>whnf
   refine ⟨_,ce,?_⟩
   conv=>whnf
   refine ⟨rfl,_,store2,?_⟩
   have aD:(H.lay (.row 79 true [int x.1,int x.2])).at H.next = some (.row 79 true [int x.1,int x.2]):=Hp.at_lay_self _ _
   have k7:=hk6.ext (Grows.lay H (.row 79 true [int x.1,int x.2]))
   generalize hH7:H.lay (.row 79 true [int x.1,int x.2]) = H7 at aD k7
   have d0:cellAt H7 H.next (0 + 0) = some (int x.1):=cellAt_row aD rfl
   have d1:cellAt H7 H.next (1 + 0) = some (int x.2):=cellAt_row aD rfl
   generalize H.next = D at d0 d1
   conv=>whnf
   refine SeqP.cut (α:=Unit) (fun _=>[(10,int (mvd (P[k]).1 (P[k]).2 x.1)),(11,int (mvd (P[k]).1 (P[k]).2 x.2)),(8,int e),(34,int e),(33,int ((P.length - 1:Nat):Int)),(32,.slice (some ⟨r,0,none⟩) (P.length - 1) (P.length - 1)),(6,int (P[k]).1),(7,int (P[k]).2),(5,ptr G 0),(4,ptr H0.next 0)]) (fun _ H=>H = H7) ?_ ?_
   ·conv=>whnf
    refine ⟨⟨by omega,by omega⟩,?_⟩
    conv=>whnf
    refine ⟨_,d0,?_⟩
    conv=>whnf
    refine CallP.mono (renamed_spec x.1 _ _ (by omega) H7) ?_
    rintro rr H7 ⟨rfl,rfl⟩
    conv=>whnf
    refine ⟨⟨by omega,by omega⟩,?_⟩
    conv=>whnf
    refine ⟨_,d1,?_⟩
    conv=>whnf
    refine CallP.mono (renamed_spec x.2 _ _ (by omega) H7) ?_
    rintro rr H7 ⟨rfl,rfl⟩
    conv=>whnf
    refine ⟨?_,?_⟩
    rotate_left
    ·conv=>whnf
     exact ⟨(),⟨rfl,rfl,rfl,rfl,rfl,rfl,rfl,rfl,rfl,rfl,trivial⟩,rfl,rfl⟩
    repeat' (first | exact True.intro | (refine And.intro ?_ ?_ <;> (conv=>whnf)))
    all_goals first
     | exact sameAt_val (h2:=_) rfl (sameV_int _)
     | exact sameAt_val (h2:=_) rfl (sameV_ptr _ _)
     | exact sameAt_val (h2:=_) (congrArg (hval _) d1) (sameV_int _)
     | exact sameAt_val (h2:=_) (show hval _ (idxAV 2 1 (ptr _ _) (int 1)) = _ from idxA_val' ⟨by omega,by omega⟩) (sameV_ptr _ _)
   rintro _ φ H7 rfl
   have hlen7:=mvK_len (P[k]).1 (P[k]).2 L e
   have hs7:=k7.set (i:=e) (by omega) (mvE (P[k]).1 (P[k]).2 x)
   obtain ⟨H8,hst8,k8⟩:=hs7
   rw [hse] at k8
   have aG7:=k7.at_ _ _ (fun y=>hrG y.symm) aG5
   have hst8:storeAt H7 r (offAt 0 (e:Int).toNat 2) [int (min (mvd (P[k]).1 (P[k]).2 x.1) (mvd (P[k]).1 (P[k]).2 x.2)),int (max (mvd (P[k]).1 (P[k]).2 x.1) (mvd (P[k]).1 (P[k]).2 x.2))] = some H8:=hst8
   generalize mvd (P[k]).1 (P[k]).2 x.1 = y at hst8
   generalize mvd (P[k]).1 (P[k]).2 x.2 = z at hst8
   conv=>whnf
   refine ⟨_,cellAt_row aG7 rfl,?_⟩
   conv=>whnf
   refine resP_val (v:=int (min y z)) (h:=H7) ?_ ?_
   ·conv=>lhs; whnf
    refine congrArg (fun n=>HRes.val (Value.int .i64 n) H7) ?_
    split <;> omega
   conv=>whnf
   refine resP_val (v:=int (max y z)) (h:=H7) ?_ ?_
   ·conv=>lhs; whnf
    refine congrArg (fun n=>HRes.val (Value.int .i64 n) H7) ?_
    split <;> omega
   conv=>whnf
   refine ⟨rfl,⟨by omega,by omega⟩,?_⟩
   conv=>whnf
   refine ⟨rfl,H8,hst8,?_⟩
   conv=>whnf
   refine ⟨_,wid (by omega),?_⟩
   conv=>whnf
   exact Rnd.mk (e + 1,H8) ⟨by show e + 1≤L.length; omega,k8⟩ (by show L.length - (e + 1) < L.length - e; omega) ⟨rfl,rfl,rfl,rfl,rfl,rfl,rfl,trivial⟩ (Hp.Le.refl _) rfl
  rintro _ φ H6 ⟨rfl,k6⟩
  have aG6:=k6.at_ _ _ (fun y=>hrG y.symm) aG5
  have aR6:=k6.at_ _ _ (by omega) aR5
  have hso:=SortFunc_spec H5 a r (P.length - 1) (mvP P k) (by omega) H6 k6
  rw [hml] at hso ⊢
  conv=>whnf
  refine SeqP.go ?_
  conv=>whnf
  refine ⟨_,cellAt_row aG6 rfl,?_⟩
  conv=>whnf
  refine CallP.mono hso ?_
  intro vv H7 k7
  have aG7:=k7.at_ _ _ (fun y=>hrG y.symm) aG5
  have aR7:=k7.at_ _ _ (by omega) aR5
  have g7:=k7.grows g05 (by omega)
  have aG8:(H7.set G (.row 83 true [int ((n - 1:Nat):Int),.slice a (P.length - 1) (P.length - 1)])).at G = some (.row 83 true [int ((n - 1:Nat):Int),.slice a (P.length - 1) (P.length - 1)]):=Hp.at_set_self _ (Hp.lt_of_at aG7)
  have aR8:(H7.set G (.row 83 true [int ((n - 1:Nat):Int),.slice a (P.length - 1) (P.length - 1)])).at H0.next = some (.row 83 true [int 0,.slice none 0 0]):=by rw [Hp.at_set_ne _ (by omega)]; exact aR7
  have k8:=k7.over (q:=G) (o:=.row 83 true [int ((n - 1:Nat):Int),.slice a (P.length - 1) (P.length - 1)]) (fun y=>hrG y.symm)
  have g8:=g7.then_set (r:=G) (.row 83 true [int ((n - 1:Nat):Int),.slice a (P.length - 1) (P.length - 1)]) (by omega)
  conv=>whnf
  refine SeqP.go ?_
  conv=>whnf
  refine ⟨_,cellAt_row aG7 rfl,?_⟩
  conv=>whnf
  refine ⟨((n - 1:Nat):Int),wie (by omega) (by omega),?_⟩
  conv=>whnf
  have hst8:storeAt H7 G 0 [int ((n - 1:Nat):Int)] = some (H7.set G (.row 83 true [int ((n - 1:Nat):Int),.slice a (P.length - 1) (P.length - 1)])):=storeAt_row aG7 (by simp) rfl
  generalize H7.set G (.row 83 true [int ((n - 1:Nat):Int),.slice a (P.length - 1) (P.length - 1)]) = H8 at aG8 aR8 k8 g8 hst8
  refine ⟨rfl,H8,hst8,?_⟩
  conv=>whnf
  refine SeqP.go ?_
  conv=>whnf
  refine ⟨_,cellsAt_row aG8 (by simp),?_⟩
  conv=>whnf
  refine ⟨rfl,_,storeAt_full (vs:=[int ((n - 1:Nat):Int),.slice a (P.length - 1) (P.length - 1)]) aR8 rfl rfl rfl,?_⟩
  conv=>whnf
  repeat (refine SeqP.go ?_; conv=>whnf)
  refine leave_cell (i:=(tiOf Try.prog 83).get ty83) (r:=H0.next) (o:=0) (cs:=[int ((n - 1:Nat):Int),.slice a (P.length - 1) (P.length - 1)]) rfl te83 ag83 ?_ ?_
  ·rw [sz83,cellsAt_row (Hp.at_set_self _ (Hp.lt_of_at aR8)) (Nat.le_refl _)]
   rfl
  ·refine ⟨⟨a,rfl,?_⟩,g8.then_set _ nn⟩
   have:=EV.gb (h:=h) (k8.over (q:=H0.next) (o:=.row 83 true [int ((n - 1:Nat):Int),.slice a (P.length - 1) (P.length - 1)]) (by omega)) (by omega)
   rw [srt_len] at this
   exact this
end
end Go.Proofs.Ythgjnkdealdmoaa
namespace Go.Proofs.Ythgjnkdealdmoaa
open Go.Rx Go.RowKit
attribute [local irreducible] E idxN cellAt cellsAt storeAt callable helems hmoved lookIn findKey keyOk hentries Hp.at Hp.set Hp.lay arBits hupdated setAt CallP YieldP BoolOf IsWrap Rnd LoopP AppP CutP Int.tmod Int.tdiv Int.fdiv
section
variable [Unknowns]
attribute [local irreducible] ResP sameAt flat
theorem Without_spec (n:Nat) (P:List (Int×Int)) (hP:NetOk n P) (hl:P.length≤9) (k:Nat) (hk:k < P.length) (v:Value) (h0 h:Hp) (hv:GB h0 h v P) :
  CallP E 50 [int n,v,int k] h (fun r h'=>(∃ a,r = .tuple ⟨[int n,.slice a (P.length - 1) (P.length - 1),int 0]⟩∧GB h h' (.slice a (P.length - 1) (P.length - 1)) (lessP P k))∧Grows h h'):=by
 have hpv:=hv.pairs
 obtain ⟨av,cap,rfl⟩:=oneGB hv
 refine enter50 (by simp) ?_
 conv=>whnf
 repeat (refine SeqP.go ?_; conv=>whnf)
 refine CallP.mono (withEdge_spec n P hP hl k hk _ h hpv) ?_
 rintro r H1 ⟨rfl,g1⟩
 conv=>whnf
 refine ⟨rfl,_,storeAt_full (vs:=[int n,.slice av P.length cap]) (Hp.at_lay_self _ _) rfl rfl rfl,?_⟩
 generalize hH2:(H1.lay (.row 83 true [int 0,.slice none 0 0])).set H1.next (.row 83 true [int n,.slice av P.length cap]) = H2
 have a2:H2.at H1.next = some (.row 83 true [int n,.slice av P.length cap]):=by rw [← hH2]; exact Hp.at_set_self _ (Hp.lt_of_at (Hp.at_lay_self _ _))
 have g2:Grows H1 H2:=by rw [← hH2]; exact (Grows.lay _ _).then_set _ (Nat.le_refl _)
 conv=>whnf
 repeat (refine SeqP.go ?_; conv=>whnf)
 refine cmpF (by omega) ?_
 conv=>whnf
 repeat (refine SeqP.go ?_; conv=>whnf)
 refine ⟨_,cellsAt_row a2 (by simp),?_⟩
 conv=>whnf
 refine CallP.mono (without_spec n P hl k hk _ h0 H2 (hv.ext (g1.trans g2))) ?_
 rintro r H3 ⟨⟨a,c,rfl,hb3⟩,g3⟩
 have hof:=EV.of hb3
 obtain ⟨-,rfl,-⟩:=hof
 conv=>whnf
 refine ⟨rfl,_,storeAt_full (vs:=[int n,.slice a (P.length - 1) (P.length - 1)]) (Hp.at_lay_self _ _) rfl rfl rfl,?_⟩
 generalize hH4:(H3.lay (.row 83 true [int 0,.slice none 0 0])).set H3.next (.row 83 true [int n,.slice a (P.length - 1) (P.length - 1)]) = H4
 have a4:H4.at H3.next = some (.row 83 true [int n,.slice a (P.length - 1) (P.length - 1)]):=by rw [← hH4]; exact Hp.at_set_self _ (Hp.lt_of_at (Hp.at_lay_self _ _))
 have g4:Grows H3 H4:=by rw [← hH4]; exact (Grows.lay _ _).then_set _ (Nat.le_refl _)
 have g02:=g1.trans g2
 have hb4:GB h H4 (.slice a (P.length - 1) (P.length - 1)) (lessP P k):=by
  have hb:=hb3.ext g4
  unfold GB at hb ⊢
  exact hb.back g02.next
 conv=>whnf
 repeat (refine SeqP.go ?_; conv=>whnf)
 refine ⟨_,cellAt_row a4 rfl,?_⟩
 conv=>whnf
 refine ⟨_,cellAt_row a4 rfl,?_⟩
 conv=>whnf
 repeat (refine SeqP.go ?_; conv=>whnf)
 exact ⟨⟨a,rfl,hb4⟩,(g02.trans g3).trans g4⟩
theorem Joined_spec (n:Nat) (P:List (Int×Int)) (hP:NetOk n P) (hl:P.length≤9) (k:Nat) (hk:k < P.length) (v:Value) (h0 h:Hp) (hv:GB h0 h v P) :
  CallP E 51 [int n,v,int k] h (fun r h'=>(∃ a,r = .tuple ⟨[int (joinN n P k:Nat),.slice a (P.length - 1) (P.length - 1),int 0]⟩∧GB h h' (.slice a (P.length - 1) (P.length - 1)) (joinL P k))∧Grows h h'):=by
 have hpv:=hv.pairs
 obtain ⟨av,cap,rfl⟩:=oneGB hv
 refine enter51 (by simp) ?_
 conv=>whnf
 repeat (refine SeqP.go ?_; conv=>whnf)
 refine CallP.mono (withEdge_spec n P hP hl k hk _ h hpv) ?_
 rintro r H1 ⟨rfl,g1⟩
 conv=>whnf
 refine ⟨rfl,_,storeAt_full (vs:=[int n,.slice av P.length cap]) (Hp.at_lay_self _ _) rfl rfl rfl,?_⟩
 generalize hH2:(H1.lay (.row 83 true [int 0,.slice none 0 0])).set H1.next (.row 83 true [int n,.slice av P.length cap]) = H2
 have a2:H2.at H1.next = some (.row 83 true [int n,.slice av P.length cap]):=by rw [← hH2]; exact Hp.at_set_self _ (Hp.lt_of_at (Hp.at_lay_self _ _))
 have g2:Grows H1 H2:=by rw [← hH2]; exact (Grows.lay _ _).then_set _ (Nat.le_refl _)
 conv=>whnf
 repeat (refine SeqP.go ?_; conv=>whnf)
 refine cmpF (by omega) ?_
 conv=>whnf
 repeat (refine SeqP.go ?_; conv=>whnf)
 refine ⟨_,cellsAt_row a2 (by simp),?_⟩
 conv=>whnf
 refine CallP.mono (joined_spec n P hP hl k hk _ h0 H2 (hv.ext (g1.trans g2))) ?_
 rintro r H3 ⟨⟨a,rfl,hb3⟩,g3⟩
 conv=>whnf
 refine ⟨rfl,_,storeAt_full (vs:=[int (joinN n P k:Nat),.slice a (P.length - 1) (P.length - 1)]) (Hp.at_lay_self _ _) rfl rfl rfl,?_⟩
 generalize hH4:(H3.lay (.row 83 true [int 0,.slice none 0 0])).set H3.next (.row 83 true [int (joinN n P k:Nat),.slice a (P.length - 1) (P.length - 1)]) = H4
 have a4:H4.at H3.next = some (.row 83 true [int (joinN n P k:Nat),.slice a (P.length - 1) (P.length - 1)]):=by rw [← hH4]; exact Hp.at_set_self _ (Hp.lt_of_at (Hp.at_lay_self _ _))
 have g4:Grows H3 H4:=by rw [← hH4]; exact (Grows.lay _ _).then_set _ (Nat.le_refl _)
 have g02:=g1.trans g2
 have hb4:GB h H4 (.slice a (P.length - 1) (P.length - 1)) (joinL P k):=by
  have hb:=hb3.ext g4
  unfold GB at hb ⊢
  exact hb.back g02.next
 conv=>whnf
 repeat (refine SeqP.go ?_; conv=>whnf)
 refine ⟨_,cellAt_row a4 rfl,?_⟩
 conv=>whnf
 refine ⟨_,cellAt_row a4 rfl,?_⟩
 conv=>whnf
 repeat (refine SeqP.go ?_; conv=>whnf)
 exact ⟨⟨a,rfl,hb4⟩,(g02.trans g3).trans g4⟩
theorem RJoined_spec (n:Nat) (P:List (Int×Int)) (hP:NetOk n P) (hl:P.length≤9) (k:Nat) (hk:k < P.length) (v:Value) (h0 h:Hp) (hv:GB h0 h v P) :
  CallP E 52 [int n,v,int k] h (fun r h'=>(∃ w,r = .tuple ⟨[int (joinN n P k:Nat),w]⟩∧GB h h' w (joinL P k))∧Grows h h'):=by
 have hpv:=hv.pairs
 have hn:=hP.n1
 obtain ⟨av,cap,rfl⟩:=oneGB hv
 have hgt:=PairsV.get hpv hk
 obtain ⟨ro,oo,co,eP,p0,p1⟩:=hgt
 injection eP with eP1 _ eP2
 subst eP1; subst eP2
 have hll:=lessP_len hk
 have hok:=hP.ok _ (List.getElem_mem hk)
 have hedg:=edg_get hk
 refine enter52 (by simp) ?_
 conv=>whnf
 refine SeqP.go ?_
 conv=>whnf
 refine SeqP.cut (α:=Value×Hp) (fun s=>[(8,s.1),(0,int n),(1,.slice (some ⟨ro,oo,none⟩) P.length cap),(2,int k)]) (fun s H=>H = s.2∧GB h s.2 s.1 (lessP P k)∧Grows h s.2) ?_ ?_
 ·conv=>whnf
  refine CallP.mono (RWithout_spec h0 P hl k hk _ h hv) ?_
  rintro w H1 ⟨hb1,g1⟩
  conv=>whnf
  exact ⟨(w,H1),⟨rfl,rfl,rfl,rfl,trivial⟩,⟨rfl,hb1,g1⟩,rfl⟩
 rintro ⟨w,_⟩ φ H1 ⟨rfl,hb1,g1⟩
 dsimp only at hb1 g1 ⊢
 have hbs:=oneGB hb1
 obtain ⟨aw,cw,rfl⟩:=hbs
 have q0:=g1.cell p0
 have q1:=g1.cell p1
 conv=>whnf
 refine SeqP.cut (α:=Unit) (fun _=>[(9,int (P[k]).1),(10,int (P[k]).2),(8,.slice aw (lessP P k).length cw),(0,int n)]) (fun _ H=>H = H1) ?_ ?_
 ·conv=>whnf
  refine ⟨rfl,⟨by omega,by omega⟩,?_⟩
  conv=>whnf
  refine ⟨⟨by omega,by omega⟩,?_⟩
  conv=>whnf
  refine ⟨_,q0,?_⟩
  conv=>whnf
  refine ⟨rfl,⟨by omega,by omega⟩,?_⟩
  conv=>whnf
  refine ⟨⟨by omega,by omega⟩,?_⟩
  conv=>whnf
  refine ⟨_,q1,?_⟩
  conv=>whnf
  exact ⟨(),⟨rfl,rfl,rfl,rfl,trivial⟩,rfl,rfl⟩
 rintro _ φ H1 rfl
 conv=>whnf
 refine SeqP.go ?_
 conv=>whnf
 refine SeqP.go ?_
 conv=>whnf
 refine cmpB (fun hb=>?_) (fun hb=>?_)
 ·have elB:loopB P k = true:=by unfold loopB; rw [hedg]; exact decide_eq_true hb
  have eJ:joinL P k = lessP P k:=by unfold joinL; rw [if_pos elB]
  have eN:joinN n P k = n:=by unfold joinN; rw [if_pos elB]
  rw [eJ,eN]
  conv=>whnf
  repeat (refine SeqP.go ?_; conv=>whnf)
  exact ⟨⟨_,rfl,hb1⟩,g1⟩
 have elB:¬ loopB P k = true:=by unfold loopB; rw [hedg]; exact fun x=>hb (of_decide_eq_true x)
 have eJ:joinL P k = srt (mvP P k) (mvP P k).length:=by unfold joinL; rw [if_neg elB]
 have eN:joinN n P k = n - 1:=by unfold joinN; rw [if_neg elB]
 have hml:=mvP_len hk
 have hmP:mvP P k = (lessP P k).map (mvE (P[k]).1 (P[k]).2):=by unfold mvP; rw [hedg]
 have hokL:∀ x ∈ lessP P k,0≤x.1∧x.1≤x.2∧x.2 < n:=fun x hx=>hP.ok x (by unfold lessP at hx; rcases List.mem_append.1 hx with hx | hx; exact List.mem_of_mem_take hx; exact List.mem_of_mem_drop hx)
 rw [eJ,eN]
 generalize lessP P k = L at hb1 hll hmP hokL
 have hpL:=hb1.pairs
 conv=>whnf
 refine SeqP.go ?_
 conv=>whnf
 refine SeqP.cut (α:=Value×Hp) (fun s=>[(11,s.1),(0,int n)]) (fun s H=>H = s.2∧GB h s.2 s.1 (srt (mvP P k) (mvP P k).length)∧Grows h s.2) ?_ ?_
 ·conv=>whnf
  refine SeqP.go ?_
  conv=>whnf
  refine loop_inv (α:=Nat×Value×Hp) (fun s=>[(12,int s.1),(11,s.2.1),(9,int (P[k]).1),(10,int (P[k]).2),(8,.slice aw L.length cw),(0,int n)]) (fun s=>s.2.2) (fun s=>s.1≤L.length∧GB h s.2.2 s.2.1 (srt (mvP P k) s.1)∧Grows H1 s.2.2) (fun s=>L.length - s.1) (0,.slice none 0 0,H1) ⟨Nat.zero_le _,by show GB h H1 (.slice none 0 0) []; unfold GB; unfold flat; exact BuiltC.nil,.refl _⟩ ⟨rfl,rfl,rfl,rfl,rfl,rfl,trivial⟩ (Hp.Le.refl _) ?_
  rintro ⟨e,vo,H⟩ φ ⟨he,hbo,gH⟩
  dsimp only at he hbo gH ⊢
  conv=>whnf
  refine SeqP.go ?_
  conv=>whnf
  refine SeqP.go ?_
  conv=>whnf
  refine cmpB (fun c1=>?_) (fun c1=>?_)
  rotate_left
  ·have:e = (mvP P k).length:=by omega
   subst this
   conv=>whnf
   exact ⟨(vo,H),⟨rfl,rfl,trivial⟩,⟨rfl,hbo,g1.trans gH⟩,rfl⟩
  have he':e < L.length:=by omega
  have hSl:=srt_len (mvP P k) e
  have hsn:srt (mvP P k) (e + 1) = ins (mvE (P[k]).1 (P[k]).2 L[e]) (srt (mvP P k) e):=by
   show ins (edg (mvP P k) e) _ = _
   rw [edg_get (by omega)]
   congr 1
   simp only [hmP,List.getElem_map]
  generalize srt (mvP P k) e = S at hbo hSl hsn
  have hge:=PairsV.get (hpL.ext gH) he'
  obtain ⟨r,o,c',eL,c0,c1⟩:=hge
  injection eL with eL1 _ eL2
  subst eL1; subst eL2
  have hx:=hokL _ (List.getElem_mem he')
  have hexx:∃ x,L[e] = x:=⟨_,rfl⟩
  obtain ⟨x,hxe⟩:=hexx
  rw [hxe] at c0 c1 hx hsn
  conv=>whnf
  refine SeqP.go ?_
  conv=>whnf
  refine SeqP.cut (α:=Unit) (fun _=>[(13,int (mvd (P[k]).1 (P[k]).2 x.1)),(14,int (mvd (P[k]).1 (P[k]).2 x.2)),(12,int e),(11,vo),(9,int (P[k]).1),(10,int (P[k]).2),(8,.slice (some ⟨r,o,none⟩) L.length cw),(0,int n)]) (fun _ h'=>h' = H) ?_ ?_
  ·conv=>whnf
   refine ⟨rfl,⟨by omega,by omega⟩,?_⟩
   conv=>whnf
   refine ⟨⟨by omega,by omega⟩,?_⟩
   conv=>whnf
   refine ⟨_,c0,?_⟩
   conv=>whnf
   refine CallP.mono (moved_spec x.1 _ _ (by omega) H) ?_
   rintro rr H ⟨rfl,rfl⟩
   conv=>whnf
   refine ⟨rfl,⟨by omega,by omega⟩,?_⟩
   conv=>whnf
   refine ⟨⟨by omega,by omega⟩,?_⟩
   conv=>whnf
   refine ⟨_,c1,?_⟩
   conv=>whnf
   refine CallP.mono (moved_spec x.2 _ _ (by omega) H) ?_
   rintro rr H ⟨rfl,rfl⟩
   conv=>whnf
   refine ⟨?_,?_⟩
   rotate_left
   ·conv=>whnf
    exact ⟨(),⟨rfl,rfl,rfl,rfl,rfl,rfl,rfl,rfl,trivial⟩,rfl,rfl⟩
   repeat' (first | exact True.intro | (refine And.intro ?_ ?_ <;> (conv=>whnf)))
   all_goals first
    | exact sameAt_val (h2:=_) rfl (sameV_int _)
    | exact sameAt_val (h2:=_) rfl (sameV_ptr _ _)
    | exact sameAt_val (h2:=_) rfl (sameV_slice _ _ _)
    | exact sameAt_val (h2:=_) (congrArg (hval _) c1) (sameV_int _)
    | exact sameAt_val (h2:=_) (show hval _ (idxAV 2 1 (ptr _ _) (int 1)) = _ from idxA_val' ⟨by omega,by omega⟩) (sameV_ptr _ _)
    | exact sameAt_val (h2:=_) (show hval _ (idxSV 2 (.slice (some ⟨_,_,_⟩) _ _) (int _)) = _ from idxS_val' rfl ⟨by omega,by omega⟩) (sameV_ptr _ _)
  rintro _ φ H rfl
  have hmx:mvE (P[k]).1 (P[k]).2 x = (min (mvd (P[k]).1 (P[k]).2 x.1) (mvd (P[k]).1 (P[k]).2 x.2),max (mvd (P[k]).1 (P[k]).2 x.1) (mvd (P[k]).1 (P[k]).2 x.2)):=rfl
  rw [hmx] at hsn
  generalize mvd (P[k]).1 (P[k]).2 x.1 = y at hsn
  generalize mvd (P[k]).1 (P[k]).2 x.2 = z at hsn
  conv=>whnf
  refine SeqP.cut (α:=Hp) (fun s=>[(15,ptr H.next 0),(12,int e),(11,vo),(9,int (P[k]).1),(10,int (P[k]).2),(8,.slice (some ⟨r,o,none⟩) L.length cw),(0,int n)]) (fun s h'=>h' = s∧s.at H.next = some (.row 79 true [int (min y z),int (max y z)])∧Grows H s) ?_ ?_
  ·conv=>whnf
   refine resP_val (v:=int (min y z)) (h:=H) ?_ ?_
   ·conv=>lhs; whnf
    refine congrArg (fun n=>HRes.val (Value.int .i64 n) H) ?_
    split <;> omega
   conv=>whnf
   refine resP_val (v:=int (max y z)) (h:=H) ?_ ?_
   ·conv=>lhs; whnf
    refine congrArg (fun n=>HRes.val (Value.int .i64 n) H) ?_
    split <;> omega
   conv=>whnf
   refine ⟨rfl,_,store2,?_⟩
   conv=>whnf
   exact ⟨_,⟨rfl,rfl,rfl,rfl,rfl,rfl,rfl,trivial⟩,⟨rfl,Hp.at_lay_self _ _,Grows.lay _ _⟩,rfl⟩
  rintro _ φ H3 ⟨rfl,aD,gD⟩
  have hbo3:=hbo.ext gD
  have gH3:=gH.trans gD
  generalize H.next = D at aD
  have hexx:∃ X:Int×Int,(min y z,max y z) = X:=⟨_,rfl⟩
  obtain ⟨X,hX⟩:=hexx
  rw [hX] at hsn
  have hX1:min y z = X.1:=by rw [← hX]
  have hX2:max y z = X.2:=by rw [← hX]
  rw [hX1,hX2] at aD
  conv=>whnf
  refine SeqP.go ?_
  conv=>whnf
  refine SeqP.cut (α:=Nat×Hp) (fun s=>[(16,int s.1),(15,ptr D 0),(12,int e),(11,vo),(9,int (P[k]).1),(10,int (P[k]).2),(8,.slice (some ⟨r,o,none⟩) L.length cw),(0,int n)]) (fun s h'=>h' = s.2∧Grows H3 s.2∧s.1≤S.length∧(∀ i,(hi:i < S.length)→i < s.1→¬ PLess X S[i])∧(∀ h:s.1 < S.length,PLess X S[s.1])) ?_ ?_
  ·conv=>whnf
   have hbs:=oneGB hbo3
   obtain ⟨aS,cS',rfl⟩:=hbs
   refine loop_inv (α:=Nat×Hp) (fun s=>[(16,int s.1),(15,ptr D 0),(12,int e),(11,.slice aS S.length cS'),(9,int (P[k]).1),(10,int (P[k]).2),(8,.slice (some ⟨r,o,none⟩) L.length cw),(0,int n)]) (fun s=>s.2) (fun s=>s.1≤S.length∧Grows H3 s.2∧∀ i,(hi:i < S.length)→i < s.1→¬ PLess X S[i]) (fun s=>S.length - s.1) (0,H3) ⟨Nat.zero_le _,.refl _,fun i _ hi=>absurd hi (Nat.not_lt_zero _)⟩ ⟨rfl,rfl,rfl,rfl,rfl,rfl,rfl,rfl,trivial⟩ (Hp.Le.refl _) ?_
   rintro ⟨j,H4⟩ φ ⟨hj,g4,hlo⟩
   dsimp only at hj g4 hlo ⊢
   conv=>whnf
   refine SeqP.go ?_
   conv=>whnf
   refine SeqP.go ?_
   conv=>whnf
   refine cmpB (fun d1=>?_) (fun d1=>?_)
   rotate_left
   ·conv=>whnf
    exact ⟨(j,H4),⟨rfl,rfl,rfl,rfl,rfl,rfl,rfl,rfl,trivial⟩,⟨rfl,g4,hj,hlo,fun h=>absurd h (by show ¬ j < S.length; omega)⟩,rfl⟩
   have hj':j < S.length:=by omega
   have hgS:=PairsV.get (hbo3.ext g4).pairs hj'
   obtain ⟨rS,oS,cS2,eS,s0,s1⟩:=hgS
   injection eS with eS1 _ eS2
   subst eS1; subst eS2
   conv=>whnf
   refine ⟨_,cellsAt_row (g4.at_ _ _ aD) (by simp),?_⟩
   conv=>whnf
   refine ⟨rfl,⟨by omega,by omega⟩,?_⟩
   conv=>whnf
   refine ⟨[int (S[j]).1,int (S[j]).2],cellsAt_two (by rw [Nat.zero_add] at s0; exact s0) (by rw [Nat.add_comm] at s1; exact s1),?_⟩
   conv=>whnf
   refine CallP.mono (less_spec X S[j] H4) ?_
   rintro rr H5 ⟨⟨b,rfl,hb⟩,g5⟩
   cases b with
   | true =>
    conv=>whnf
    exact ⟨(j,H5),⟨rfl,rfl,rfl,rfl,rfl,rfl,rfl,rfl,trivial⟩,⟨rfl,g4.trans g5,hj,hlo,fun _=>hb.1 rfl⟩,rfl⟩
   | false =>
    conv=>whnf
    refine ⟨_,wid (by omega),?_⟩
    conv=>whnf
    exact Rnd.mk (j + 1,H5) ⟨by show j + 1≤S.length; omega,g4.trans g5,fun i hi hij=>by
     by_cases eij:i = j
     ·subst eij; exact fun hp=>by cases hb.2 hp
     ·exact hlo i hi (by have:i < j + 1:=hij; omega)⟩ (by show S.length - (j + 1) < S.length - j; omega) ⟨rfl,rfl,rfl,rfl,rfl,rfl,rfl,rfl,trivial⟩ (Hp.Le.refl _) rfl
  rintro ⟨j,_⟩ φ H4 ⟨rfl,g4,hj,hlo,hhi⟩
  dsimp only at g4 hj hlo hhi ⊢
  have hic:=ins_cut X S j hj hlo hhi
  have hlk:(S.take j).length = j:=take_getP hj
  have hbC:BuiltC h H4 79 2 vo S.length ((flat S).map int):=by have:=hbo3.ext g4; unfold GB at this; exact this
  have aD4:=g4.at_ _ _ aD
  have gH4:=gH3.trans g4
  conv=>whnf
  refine SeqP.go ?_
  conv=>whnf
  refine SeqP.cut (α:=Value×Hp) (fun s=>[(17,s.1),(16,int j),(15,ptr D 0),(12,int e),(11,vo),(9,int (P[k]).1),(10,int (P[k]).2),(8,.slice (some ⟨r,o,none⟩) L.length cw),(0,int n)]) (fun s h'=>h' = s.2∧GB H4 s.2 s.1 (S.take j)∧Grows H4 s.2) ?_ ?_
  ·conv=>whnf
   refine CutP.built (i:=0) (j:=j) hbC (flat_one _) ⟨.inl ⟨rfl,rfl⟩,.inr rfl⟩ (Nat.zero_le _) hj ?_
   intro v1 hv1
   conv=>whnf
   refine AppP.cells (h0:=H4) BuiltC.nil (.refl _) hv1 (by omega) (by omega) ?_
   intro v2 h3 b3 g3 _
   have e3:[] ++ ((flat S).map int |>.drop (0 * 2)).take ((j - 0) * 2) = (flat (S.take j)).map int:=by
    rw [flat_take,List.map_take]; simp
   rw [e3,show 0 + (j - 0) = (S.take j).length by omega] at b3
   conv=>whnf
   exact ⟨(v2,h3),⟨rfl,rfl,rfl,rfl,rfl,rfl,rfl,rfl,rfl,trivial⟩,⟨rfl,by unfold GB; exact b3,g3⟩,rfl⟩
  rintro ⟨v2,_⟩ φ h3 ⟨rfl,b3,g3⟩
  dsimp only at b3 g3 ⊢
  have aD3:=g3.at_ _ _ aD4
  conv=>whnf
  refine SeqP.cut (α:=Value×Hp) (fun s=>[(17,s.1),(16,int j),(12,int e),(11,vo),(9,int (P[k]).1),(10,int (P[k]).2),(8,.slice (some ⟨r,o,none⟩) L.length cw),(0,int n)]) (fun s h'=>h' = s.2∧GB H4 s.2 s.1 (S.take j ++ [X])∧Grows H4 s.2) ?_ ?_
  ·conv=>whnf
   refine ⟨_,cellsAt_row aD3 (by simp),?_⟩
   conv=>whnf
   have b3':BuiltC H4 h3 79 2 v2 (S.take j).length ((flat (S.take j)).map int):=by unfold GB at b3; exact b3
   refine AppP.cells (h0:=H4) (b3'.ext (Grows.lay _ _)) (g3.then_lay _) (elems_part (s:=2) (o:=0) (m:=1) (cs:=[int X.1,int X.2]) (Hp.at_lay_self _ _) (by simp) rfl 1) (by omega) (by omega) ?_
   intro v3 h4 b4 g4' _
   have e4:(flat (S.take j)).map int ++ ([int X.1,int X.2].drop 0).take (1 * 2) = (flat (S.take j ++ [X])).map int:=by
    rw [flat_app,List.map_append,flat_sing]
    rfl
   have e5:(S.take j).length + 1 = (S.take j ++ [X]).length:=by simp
   rw [e4,e5] at b4
   conv=>whnf
   exact ⟨(v3,h4),⟨rfl,rfl,rfl,rfl,rfl,rfl,rfl,rfl,trivial⟩,⟨rfl,by unfold GB; exact b4,g4'⟩,rfl⟩
  rintro ⟨v3,_⟩ φ h4 ⟨rfl,b4,g4'⟩
  dsimp only at b4 g4' ⊢
  have hbD:BuiltC h h4 79 2 vo S.length ((flat S).map int):=hbC.ext g4'
  conv=>whnf
  refine CutP.built (i:=j) (j:=S.length) hbD (flat_one _) ⟨.inr rfl,.inl ⟨rfl,rfl⟩⟩ hj (Nat.le_refl _) ?_
  intro v4 hv4
  conv=>whnf
  have b4':BuiltC H4 h4 79 2 v3 (S.take j ++ [X]).length ((flat (S.take j ++ [X])).map int):=by unfold GB at b4; exact b4
  refine AppP.cells (h0:=H4) b4' g4' hv4 (by simp; omega) (by simp; omega) ?_
  intro v5 h5 b5 g5 _
  conv=>whnf
  have e6:(flat (S.take j ++ [X])).map int ++ (((flat S).map int).drop (j * 2)).take ((S.length - j) * 2) = (flat (ins X S)).map int:=by
   have hz:(((flat S).map int).drop (j * 2)).take ((S.length - j) * 2) = ((flat S).map int).drop (j * 2):=List.take_of_length_le (by rw [List.length_drop,List.length_map,flat_length]; omega)
   rw [hz,← hic,show S.take j ++ X :: S.drop j = (S.take j ++ [X]) ++ S.drop j by simp,flat_app _ (S.drop j),List.map_append,flat_drop,List.map_drop]
  have e7:(S.take j ++ [X]).length + (S.length - j) = (ins X S).length:=by rw [ins_len]; simp; omega
  rw [e6,e7] at b5
  refine ⟨_,wid (by omega),?_⟩
  conv=>whnf
  exact Rnd.mk (e + 1,v5,h5) ⟨by show e + 1≤L.length; omega,by rw [hsn]; unfold GB; exact BuiltC.back (g1.trans gH4).next b5,gH4.trans g5⟩ (by show L.length - (e + 1) < L.length - e; omega) ⟨rfl,rfl,rfl,rfl,rfl,rfl,trivial⟩ (Hp.Le.refl _) rfl
 rintro ⟨w,_⟩ φ H2 ⟨rfl,hb2,g2⟩
 dsimp only at hb2 g2 ⊢
 have hbs:=oneGB hb2
 obtain ⟨a2,c2,rfl⟩:=hbs
 conv=>whnf
 repeat (refine SeqP.go ?_; conv=>whnf)
 refine ⟨((n - 1:Nat):Int),wie (by omega) (by omega),?_⟩
 conv=>whnf
 repeat (refine SeqP.go ?_; conv=>whnf)
 exact ⟨⟨_,rfl,hb2⟩,g2⟩
end
end Go.Proofs.Ythgjnkdealdmoaa
namespace Go.Proofs.Ythgjnkdealdmoaa
open Go.Rx Go.RowKit
attribute [local irreducible] E idxN cellAt cellsAt storeAt callable helems hmoved lookIn findKey keyOk hentries Hp.at Hp.set Hp.lay arBits hupdated setAt CallP YieldP BoolOf IsWrap Rnd LoopP AppP CutP Int.tmod Int.tdiv Int.fdiv
section
variable [Unknowns]
attribute [local irreducible] ResP sameAt flat
theorem smaller_law (n edge:Int) (L:List (Int×Int)) (hL:L.length < 9223372036854775808) (v:Value) (h:Hp) (hv:PairsV h v L) :
  CallP E 10 [int n,v,int edge] h (fun r _=>r = .bool true):=by
 obtain ⟨av,cap,rfl,-⟩:=id hv
 refine enter10 (by simp) ?_
 conv=>whnf
 repeat (refine SeqP.go ?_; conv=>whnf)
 refine CallP.mono (tame_spec n _ L 9 (by omega) h hv hL) ?_
 rintro r H1 ⟨m,v1,P,rfl,hP,hPl,hb,g1⟩
 have hpv:=hb.pairs
 obtain ⟨a1,c1,rfl,-⟩:=id hpv
 conv=>whnf
 refine SeqP.go ?_
 conv=>whnf
 refine SeqP.go ?_
 conv=>whnf
 refine cmpB (fun c0=>?_) (fun c0=>?_)
 ·conv=>whnf
  repeat (refine SeqP.go ?_; conv=>whnf)
  refine memo20 ?_
  conv=>whnf
  repeat (refine SeqP.go ?_; conv=>whnf)
  rfl
 have hpos:0 < P.length:=by omega
 have hux:=u64_of edge
 obtain ⟨u,u0,u1,hu⟩:=hux
 have b1:=tmod_bd u0 (show (0:Int) < (P.length:Int) by omega)
 obtain ⟨k,hk⟩:∃ k:Nat,u.tmod (P.length:Int) = (k:Int):=⟨(u.tmod (P.length:Int)).toNat,by omega⟩
 have hkl:k < P.length:=by omega
 have hlen:∀ Q:List (Int×Int),Q.length = P.length - 1→Q.length≤100:=fun Q h=>by omega
 have hll:=lessP_len hkl
 have hjl:=joinL_len hkl
 conv=>whnf
 refine SeqP.cut (α:=Unit) (fun _=>[(8,int k),(0,int m),(7,.slice a1 P.length c1)]) (fun _ h'=>h' = H1) ?_ ?_
 ·conv=>whnf
  refine ⟨u,hu,?_⟩
  conv=>whnf
  refine ⟨(P.length:Int),u64_id (by omega),?_⟩
  conv=>whnf
  refine ⟨by omega,?_⟩
  conv=>whnf
  refine ⟨(k:Int),wie hk (by omega),?_⟩
  conv=>whnf
  exact ⟨(),⟨rfl,rfl,rfl,trivial⟩,rfl,rfl⟩
 rintro _ φ H1 rfl
 conv=>whnf
 refine SeqP.cut (α:=Option Addr×Hp) (fun s=>[(9,int m),(10,.slice s.1 (P.length - 1) (P.length - 1)),(11,int 0),(8,int k),(0,int m),(7,.slice a1 P.length c1)]) (fun s h'=>h' = s.2∧Grows H1 s.2∧PairsV s.2 (.slice s.1 (P.length - 1) (P.length - 1)) (lessP P k)) ?_ ?_
 ·conv=>whnf
  refine CallP.mono (Without_spec m P hP hPl k hkl _ h H1 hb) ?_
  rintro r H2 ⟨⟨a,rfl,hb2⟩,g2⟩
  have hp2:=hb2.pairs
  conv=>whnf
  exact ⟨(a,H2),⟨rfl,rfl,rfl,rfl,rfl,rfl,trivial⟩,⟨rfl,g2,hp2⟩,rfl⟩
 rintro ⟨a,_⟩ φ H2 ⟨rfl,g2,hp2⟩
 dsimp only at g2 hp2 ⊢
 conv=>whnf
 refine SeqP.cut (α:=Option Addr×Hp) (fun s=>[(12,int (joinN m P k:Nat)),(13,.slice s.1 (P.length - 1) (P.length - 1)),(14,int 0),(9,int m),(10,.slice a (P.length - 1) (P.length - 1)),(11,int 0),(8,int k),(0,int m),(7,.slice a1 P.length c1)]) (fun s h'=>h' = s.2∧Grows H2 s.2∧PairsV s.2 (.slice s.1 (P.length - 1) (P.length - 1)) (joinL P k)) ?_ ?_
 ·conv=>whnf
  refine CallP.mono (Joined_spec m P hP hPl k hkl _ h H2 (hb.ext g2)) ?_
  rintro r H3 ⟨⟨a',rfl,hb3⟩,g3⟩
  have hp3:=hb3.pairs
  conv=>whnf
  exact ⟨(a',H3),⟨rfl,rfl,rfl,rfl,rfl,rfl,rfl,rfl,rfl,trivial⟩,⟨rfl,g3,hp3⟩,rfl⟩
 rintro ⟨a',_⟩ φ H3 ⟨rfl,g3,hp3⟩
 dsimp only at g3 hp3 ⊢
 have g13:=g2.trans g3
 conv=>whnf
 refine SeqP.cut (α:=Value×Hp) (fun s=>[(15,int (joinN m P k:Nat)),(16,s.1),(12,int (joinN m P k:Nat)),(13,.slice a' (P.length - 1) (P.length - 1)),(14,int 0),(9,int m),(10,.slice a (P.length - 1) (P.length - 1)),(11,int 0),(8,int k),(0,int m),(7,.slice a1 P.length c1)]) (fun s h'=>h' = s.2∧Grows H3 s.2∧PairsV s.2 s.1 (joinL P k)) ?_ ?_
 ·conv=>whnf
  refine CallP.mono (RJoined_spec m P hP hPl k hkl _ h H3 (hb.ext g13)) ?_
  rintro r H4 ⟨⟨w,rfl,hb4⟩,g4⟩
  have hp4:=hb4.pairs
  obtain ⟨aw,cw,rfl,-⟩:=id hp4
  conv=>whnf
  exact ⟨(_,H4),⟨rfl,rfl,rfl,rfl,rfl,rfl,rfl,rfl,rfl,rfl,rfl,trivial⟩,⟨rfl,g4,hp4⟩,rfl⟩
 rintro ⟨w,_⟩ φ H4 ⟨rfl,g4,hp4⟩
 dsimp only at g4 hp4 ⊢
 have g14:=g13.trans g4
 conv=>whnf
 refine SeqP.go ?_
 conv=>whnf
 refine cmpT (by omega) ?_
 conv=>whnf
 refine cmpT (by omega) ?_
 conv=>whnf
 refine CallP.mono (RWithout_spec h P hPl k hkl _ H4 (hb.ext g14)) ?_
 rintro r H5 ⟨hb5,g5⟩
 have hp5:=hb5.pairs
 have hp25:=(((hp2.ext g3).ext g4).ext g5)
 obtain ⟨a5,c5,rfl,-⟩:=id hp5
 conv=>whnf
 refine CallP.mono (pairs_spec _ _ (lessP P k) (hlen _ hll) H5 hp25 hp5) ?_
 rintro r H5 ⟨rfl,rfl⟩
 conv=>whnf
 refine cmpT (by omega) ?_
 conv=>whnf
 refine cmpT (by omega) ?_
 conv=>whnf
 refine CallP.mono (pairs_spec _ _ (joinL P k) (hlen _ hjl) H5 ((hp3.ext g4).ext g5) (hp4.ext g5)) ?_
 rintro r H5 ⟨rfl,rfl⟩
 conv=>whnf
 refine memo20 ?_
 conv=>whnf
 repeat (refine SeqP.go ?_; conv=>whnf)
 rfl
theorem smaller_spec (n:Int) (hn:-9223372036854775808≤n∧n < 9223372036854775808) (t:Tr) (ht:TyT Try.prog 22 [t]) (s:Int) (hs:-9223372036854775808≤s∧s < 9223372036854775808):∀ h vs,AllT h vs [.num n,t,.num s]→CallP E 10 vs h (fun r _=>r = .bool true):=by
 intro h vs hvs
 obtain ⟨P,rfl,hm,-⟩:=ty_pairs Try.underlying22 Try.underlying79 Try.underlying3 (by kernel_rfl) (by kernel_rfl) ht
 match vs,hvs with
 | [_,v,_],hvs =>
 obtain ⟨h1,h2,h3,-⟩:=hvs
 cases h1
 cases h3
 exact smaller_law n s P (by have:maxLen = 4294967296∨True:=.inr trivial; unfold maxLen at hm; omega) v h h2.lentV.pairs
end
end Go.Proofs.Ythgjnkdealdmoaa
