/- Contracts of the functions that PNCB comes to. -/
import Derived.Test.YthgjnkdealdmoaaPNCA
import Derived.Test.YthgjnkdealdmoaaNAwake
set_option maxRecDepth 100000
set_option maxHeartbeats 2000000
set_option linter.unusedVariables false
set_option linter.unusedSectionVars false
set_option linter.unusedSimpArgs false
namespace Go.Proofs.Ythgjnkdealdmoaa
open Go.Rx Go.RowKit
def csP (n:Nat) (P:List (Int×Int)) (v d:Nat):Bool:=srcB n P d v && rings n P d P.length == 0
theorem sub_val {x y r:Int} {h:Hp} (e:x - y = r) (b:-9223372036854775808≤r∧r < 9223372036854775808):hval h (arK .i64 .sub x y) = .val (int r) h:=by
 unfold arK
 dsimp only
 rw [e,wrapI_id b]
 rfl
theorem shl_val {k:Nat} {h:Hp} (hk:k < 63):hval h (shK .i64 .shl 1 (k:Int)) = .val (int ((2 ^ k:Nat):Int)) h:=by
 unfold shK
 dsimp only
 rw [if_neg (by omega)]
 have e:=shl_one hk
 exact congrArg (fun z=>HRes.val (Value.int .i64 z) h) e.symm
theorem countSource_eq {n:Nat} {P:List (Int×Int)} (hP:NetOk n P) (x:Nat):(fun d=>ent P d P.length == less (2 ^ n - 1) (2 ^ x) && rings n P d P.length == 0) = csP n P x:=by
 funext d
 unfold csP
 rw [src_iff hP]
attribute [local irreducible] E idxN cellAt cellsAt storeAt callable helems hmoved lookIn findKey keyOk hentries Hp.at Hp.set Hp.lay arBits hupdated setAt CallP YieldP BoolOf IsWrap Rnd LoopP AppP CutP Int.tmod Int.tdiv Int.fdiv
section
variable [Unknowns]
attribute [local irreducible] ResP sameAt flat
theorem CountSource_spec (n:Nat) (P:List (Int×Int)) (hP:NetOk n P) (hl:P.length≤9) (x:Nat) (hx:x < n) (v:Value) (h:Hp) (hv:PairsV h v P) :
  CallP E 43 [int n,v,int x] h (fun r h'=>r = .tuple ⟨[int (cntB (csP n P x) (2 ^ P.length):Nat),int 0]⟩∧Grows h h'):=by
 obtain ⟨av,cap,rfl,-⟩:=id hv
 have hn:=hP.n1
 have hp1:=Nat.one_le_two_pow (n:=n)
 have hp6:=Nat.pow_le_pow_right (n:=2) (by omega) hn.2
 have hx2:=Nat.pow_lt_pow_right (a:=2) (by decide) hx
 have hle:less (2 ^ n - 1) (2 ^ x) < 2 ^ n:=less_lt (by omega)
 have hand:=bits_andNot (a:=2 ^ n - 1) (b:=2 ^ x) (by omega) (by omega)
 refine enter43 (by simp) ?_
 conv=>whnf
 repeat (refine SeqP.go ?_; conv=>whnf)
 refine CallP.mono (Check_spec n P hP hl _ h hv) ?_
 rintro r H1 ⟨rfl,g1⟩
 conv=>whnf
 repeat (refine SeqP.go ?_; conv=>whnf)
 refine cmpF (by omega) ?_
 conv=>whnf
 repeat (refine SeqP.go ?_; conv=>whnf)
 refine cmpF (by omega) ?_
 conv=>whnf
 refine cmpF (by omega) ?_
 conv=>whnf
 refine SeqP.go ?_
 conv=>whnf
 refine ⟨rfl,_,storeAt_full (vs:=[int n,.slice av P.length cap]) (Hp.at_lay_self _ _) rfl rfl rfl,?_⟩
 generalize hH2:(H1.lay (.row 83 true [int 0,.slice none 0 0])).set H1.next (.row 83 true [int n,.slice av P.length cap]) = H2
 have a2:H2.at H1.next = some (.row 83 true [int n,.slice av P.length cap]):=by rw [← hH2]; exact Hp.at_set_self _ (Hp.lt_of_at (Hp.at_lay_self _ _))
 have g2:Grows H1 H2:=by rw [← hH2]; exact (Grows.lay _ _).then_set _ (Nat.le_refl _)
 conv=>whnf
 repeat (refine SeqP.go ?_; conv=>whnf)
 refine ⟨by omega,((2 ^ n:Nat):Int),shl_one (by omega),?_⟩
 conv=>whnf
 refine ⟨((2 ^ n - 1:Nat):Int),wie (by omega) (by omega),?_⟩
 conv=>whnf
 refine ⟨by omega,((2 ^ x:Nat):Int),shl_one (by omega),?_⟩
 conv=>whnf
 refine ⟨rfl,H2.lay (.row 3 true [int (less (2 ^ n - 1) (2 ^ x):Nat)]),?_,?_⟩
 ·rw [storeAt_lay (by simp) rfl]
  exact congrArg (fun z=>some (H2.lay (.row 3 true [int z]))) hand
 conv=>whnf
 refine ⟨?_,?_⟩
 rotate_left
 ·conv=>whnf
  repeat (refine SeqP.go ?_; conv=>whnf)
  have aG:=Hp.at_lay_old (.row 3 true [int (less (2 ^ n - 1) (2 ^ x):Nat)]) a2
  have aC:(H2.lay (.row 3 true [int (less (2 ^ n - 1) (2 ^ x):Nat)])).at H2.next = some (.row 3 true [int (less (2 ^ n - 1) (2 ^ x):Nat)]):=Hp.at_lay_self _ _
  have g3:Grows H2 (H2.lay (.row 3 true [int (less (2 ^ n - 1) (2 ^ x):Nat)])):=Grows.lay _ _
  generalize H2.lay (.row 3 true [int (less (2 ^ n - 1) (2 ^ x):Nat)]) = H3 at aG aC g3
  refine ⟨_,cellsAt_row aG (by simp),?_⟩
  conv=>whnf
  have hv3:=hv.ext ((g1.trans g2).trans g3)
  have hcs:=countSource_eq hP x
  refine CallP.mono (count_spec n P hl _ H3 hv3 85 [] [ptr H1.next 0,ptr H2.next 0] can85 (fun d=>ent P d P.length == less (2 ^ n - 1) (2 ^ x) && rings n P d P.length == 0) (fun d hd h' g=>hasSource_spec n P hP hl d hd _ _ h' (hv3.ext g) H1.next H2.next (g.at_ _ _ aG) (g.at_ _ _ aC))) ?_
  rw [hcs]
  rintro r H4 ⟨rfl,g4⟩
  conv=>whnf
  repeat (refine SeqP.go ?_; conv=>whnf)
  exact ⟨rfl,((g1.trans g2).trans g3).trans g4⟩
 repeat' (first | exact True.intro | (refine And.intro ?_ ?_ <;> (conv=>whnf)))
 all_goals first
  | exact sameAt_val (h2:=_) rfl (sameV_int _)
  | exact sameAt_val (h2:=_) rfl (sameV_ptr _ _)
  | exact sameAt_val (h2:=_) (show hval _ (shK .i64 .shl 1 ((n:Nat):Int)) = _ from shl_val (by omega)) (sameV_int _)
  | exact sameAt_val (h2:=_) (show hval _ (shK .i64 .shl 1 ((x:Nat):Int)) = _ from shl_val (by omega)) (sameV_int _)
  | exact sameAt_val (h2:=_) (show hval _ (arK .i64 .sub _ _) = _ from sub_val (by omega) (by omega)) (sameV_int _)
  | exact sameAt_val (h2:=_) (show hval _ (arK .i64 .andNot _ _) = _ from rfl) (sameV_int _)
end
end Go.Proofs.Ythgjnkdealdmoaa
namespace Go.Proofs.Ythgjnkdealdmoaa
open Go.Rx Go.RowKit
theorem all_false {p:Nat→Bool} {n k:Nat} (hk:k < n) (h:p k = false):(List.range n).all p = false:=by
 rw [List.all_eq_false]
 exact ⟨k,List.mem_range.2 hk,by rw [h]; simp⟩
theorem all_true {p:Nat→Bool} {n:Nat} (h:∀ k,k < n→p k = true):(List.range n).all p = true:=by
 rw [List.all_eq_true]
 exact fun k hk=>h k (List.mem_range.1 hk)
attribute [local irreducible] E idxN cellAt cellsAt storeAt callable helems hmoved lookIn findKey keyOk hentries Hp.at Hp.set Hp.lay arBits hupdated setAt CallP YieldP BoolOf IsWrap Rnd LoopP AppP CutP Int.tmod Int.tdiv Int.fdiv
section
variable [Unknowns]
attribute [local irreducible] ResP sameAt flat
theorem Rall_spec (P:List (Int×Int)) (hl:P.length≤9) (v:Value) (h:Hp) (hv:PairsV h v P):CallP E 69 [v] h (fun r h'=>r = int ((2 ^ P.length - 1:Nat):Int)∧h' = h):=by
 obtain ⟨av,cap,rfl,-⟩:=id hv
 have hp:=Nat.pow_le_pow_right (n:=2) (by omega) hl
 have hp1:=Nat.one_le_two_pow (n:=P.length)
 refine enter69 (by simp) ?_
 conv=>whnf
 repeat (refine SeqP.go ?_; conv=>whnf)
 refine ⟨by omega,((2 ^ P.length:Nat):Int),shl_one (by omega),?_⟩
 conv=>whnf
 refine ⟨((2 ^ P.length - 1:Nat):Int),wie (by omega) (by omega),?_⟩
 conv=>whnf
 repeat (refine SeqP.go ?_; conv=>whnf)
 exact ⟨rfl,rfl⟩
theorem Source_spec (n:Nat) (P:List (Int×Int)) (hP:NetOk n P) (hl:P.length≤9) (d:Nat) (hd:d < 2 ^ P.length) (x:Nat) (hx:x < n) (v:Value) (h:Hp) (hv:PairsV h v P) :
  CallP E 84 [int n,v,int d,int x] h (fun r h'=>r = .bool (srcB n P d x)∧Grows h h'):=by
 obtain ⟨av,cap,rfl,hcv⟩:=id hv
 have hn:=hP.n1
 have hp:=Nat.pow_le_pow_right (n:=2) (by omega) hl
 refine enter84 (by simp) ?_
 conv=>whnf
 refine SeqP.go ?_
 conv=>whnf
 refine SeqP.go ?_
 conv=>whnf
 refine ⟨⟨by omega,by omega,by omega,by omega⟩,?_⟩
 have e0:h.lay (.row 4 true (times [.bool false] (n:Int).toNat)) = h.lay (.row 4 true (rowB n (entX P d 0))):=by
  rw [Int.toNat_natCast,Go.Rx.times_one]
  rfl
 conv=>whnf
 refine SeqP.cut (α:=Unit) (fun _=>[(9,slc h.next 0 n n),(0,int n),(3,int x)]) (fun _ H=>H = h.lay (.row 4 true (rowB n (entX P d P.length)))) ?_ ?_
 ·conv=>whnf
  refine SeqP.go ?_
  conv=>whnf
  refine loop_inv (α:=Nat×Hp) (fun s=>[(10,int s.1),(9,slc h.next 0 n n),(0,int n),(1,.slice av P.length cap),(2,int d),(3,int x)]) (fun s=>s.2) (fun s=>s.1≤P.length∧s.2 = h.lay (.row 4 true (rowB n (entX P d s.1)))) (fun s=>P.length - s.1) (0,_) ⟨Nat.zero_le _,e0⟩ ⟨rfl,rfl,rfl,rfl,rfl,rfl,trivial⟩ (Hp.Le.refl _) ?_
  rintro ⟨j,H2⟩ φ ⟨hj,hH2⟩
  dsimp only at hj hH2 ⊢
  conv=>whnf
  refine SeqP.go ?_
  conv=>whnf
  refine SeqP.go ?_
  conv=>whnf
  refine cmpB (fun c2=>?_) (fun c2=>?_)
  rotate_left
  ·conv=>whnf
   have:j = P.length:=by omega
   subst this
   exact ⟨(),⟨rfl,rfl,rfl,trivial⟩,hH2,rfl⟩
  have hj':j < P.length:=by omega
  have hlt:=dir_lt hP d hj'
  have hsuc:entX P d (j + 1) = fun w=>entX P d j w || w == (dir P d j).2:=rfl
  generalize entX P d j = Y at hH2 hsuc
  have gr:Grows h H2:=by rw [hH2]; exact Grows.lay _ _
  have hgt:=PairsV.get hv hj'
  obtain ⟨r,o,c',eP,p0,p1⟩:=hgt
  injection eP with eP1 _ eP2
  subst eP1; subst eP2
  have q0:=gr.cell p0
  have q1:=gr.cell p1
  have hok:=hP.ok _ (List.getElem_mem hj')
  have esh:=shr_nat (a:=d) (k:=j) (by omega)
  have hle:d >>> j≤d:=by rw [Nat.shiftRight_eq_div_pow]; exact Nat.div_le_self _ _
  have cs:=layB_set (H:=h) (n:=n) (X:=Y) hlt.2
  rw [← hH2] at cs
  conv=>whnf
  refine SeqP.go ?_
  conv=>whnf
  refine SeqP.go ?_
  conv=>whnf
  refine ⟨by omega,?_⟩
  conv=>whnf
  refine ⟨by omega,?_⟩
  conv=>whnf
  refine cmpB (fun hb=>?_) (fun hb=>?_)
  ·have hb:((d:Int).fdiv (2 ^ (min (j:Int).toNat 64))).tmod 2 = 1:=hb
   rw [esh,show (2:Int) = ((2:Nat):Int) from rfl,tmod_nat] at hb
   have hbit:d.testBit j = true:=(bit_mod d j).1 (by omega)
   have e1:dir P d j = ((P[j]).2.toNat,(P[j]).1.toNat):=by unfold dir; rw [if_pos hbit,edg_get hj']
   rw [e1] at cs hsuc
   dsimp only at cs hsuc
   conv=>whnf
   refine ⟨rfl,⟨by omega,by omega⟩,?_⟩
   conv=>whnf
   refine ⟨⟨by omega,by omega⟩,?_⟩
   conv=>whnf
   refine ⟨_,q0,?_⟩
   conv=>whnf
   refine ⟨rfl,⟨by omega,by omega⟩,?_⟩
   conv=>whnf
   refine ⟨rfl,_,cs,?_⟩
   conv=>whnf
   refine ⟨_,wid (by omega),?_⟩
   conv=>whnf
   exact Rnd.mk (j + 1,_) ⟨by show j + 1≤P.length; omega,by rw [hsuc]⟩ (by show P.length - (j + 1) < P.length - j; omega) ⟨rfl,rfl,rfl,rfl,rfl,rfl,trivial⟩ (Hp.Le.refl _) rfl
  ·have hb:¬ ((d:Int).fdiv (2 ^ (min (j:Int).toNat 64))).tmod 2 = 1:=hb
   rw [esh,show (2:Int) = ((2:Nat):Int) from rfl,tmod_nat] at hb
   have hbit:¬ d.testBit j = true:=fun hx=>by have:=(bit_mod d j).2 hx; omega
   have e1:dir P d j = ((P[j]).1.toNat,(P[j]).2.toNat):=by unfold dir; rw [if_neg hbit,edg_get hj']
   rw [e1] at cs hsuc
   dsimp only at cs hsuc
   conv=>whnf
   refine ⟨rfl,⟨by omega,by omega⟩,?_⟩
   conv=>whnf
   refine ⟨⟨by omega,by omega⟩,?_⟩
   conv=>whnf
   refine ⟨_,q1,?_⟩
   conv=>whnf
   refine ⟨rfl,⟨by omega,by omega⟩,?_⟩
   conv=>whnf
   refine ⟨rfl,_,cs,?_⟩
   conv=>whnf
   refine ⟨_,wid (by omega),?_⟩
   conv=>whnf
   exact Rnd.mk (j + 1,_) ⟨by show j + 1≤P.length; omega,by rw [hsuc]⟩ (by show P.length - (j + 1) < P.length - j; omega) ⟨rfl,rfl,rfl,rfl,rfl,rfl,trivial⟩ (Hp.Le.refl _) rfl
 rintro _ φ H hH
 have gr:Grows h H:=by rw [hH]; exact Grows.lay _ _
 have cel:∀ {k:Nat},k < n→cellAt H h.next (offAt 0 (k:Int).toNat 1) = some (.bool (entX P d P.length k)):=by
  intro k hk
  rw [hH]
  exact layB_cell hk
 have hsf:∀ {k:Nat},k < n→(entX P d P.length k == (k == x)) = true→srcB n P d x = false:=fun hk e=>all_false hk (by rw [bne,e]; rfl)
 have hst:(∀ k,k < n→(entX P d P.length k == (k == x)) = false)→srcB n P d x = true:=fun e=>all_true fun k hk=>by rw [bne,e k hk]; rfl
 generalize entX P d P.length = Y at cel hsf hst
 generalize srcB n P d x = S at hsf hst
 conv=>whnf
 refine SeqP.go ?_
 conv=>whnf
 refine SeqP.go ?_
 conv=>whnf
 refine loop_inv (α:=Nat) (fun k=>[(11,int k),(9,slc h.next 0 n n),(0,int n),(3,int x)]) (fun _=>H) (fun k=>k≤n∧∀ j,j < k→(Y j == (j == x)) = false) (fun k=>n - k) 0 ⟨Nat.zero_le _,fun j hj=>by omega⟩ ⟨rfl,rfl,rfl,rfl,trivial⟩ (Hp.Le.refl _) ?_
 rintro k φ ⟨hk,hall⟩
 conv=>whnf
 refine SeqP.go ?_
 conv=>whnf
 refine SeqP.go ?_
 conv=>whnf
 refine cmpB (fun c1=>?_) (fun c1=>?_)
 rotate_left
 ·conv=>whnf
  repeat (refine SeqP.go ?_; conv=>whnf)
  exact ⟨by rw [hst fun j hj=>hall j (by omega)]; rfl,gr⟩
 have hk':k < n:=by omega
 conv=>whnf
 refine SeqP.go ?_
 conv=>whnf
 refine SeqP.go ?_
 conv=>whnf
 refine ⟨rfl,⟨by omega,by omega⟩,?_⟩
 conv=>whnf
 refine ⟨_,cel hk',?_⟩
 conv=>whnf
 intro b hb
 have eb:b = (k == x):=by
  cases b with
  | true=>have:=hb.t; rw [show k = x by omega]; simp
  | false=>have:=hb.f; rw [beq_eq_false_iff_ne.2 (show k≠x by omega)]
 subst eb
 conv=>whnf
 refine resP_val (v:=.bool (Y k == (k == x))) (h:=H) ?_ ?_
 ·show hval _ (aBin E .eql 4 _ _ (.bool _) (.bool _)) = _
  rw [bool_eq]
  rfl
 cases hY:(Y k == (k == x)) with
 | true =>
  conv=>whnf
  repeat (refine SeqP.go ?_; conv=>whnf)
  exact ⟨by rw [hsf hk' hY]; rfl,gr⟩
 | false =>
  conv=>whnf
  refine ⟨_,wid (by omega),?_⟩
  conv=>whnf
  exact Rnd.mk (k + 1) ⟨by omega,fun j hj=>by
   by_cases e:j = k
   ·subst e; exact hY
   ·exact hall j (by omega)⟩ (by omega) ⟨rfl,rfl,rfl,rfl,trivial⟩ (Hp.Le.refl _) rfl
end
end Go.Proofs.Ythgjnkdealdmoaa
namespace Go.Proofs.Ythgjnkdealdmoaa
open Go.Rx Go.RowKit
def cS (n:Nat) (P:List (Int×Int)) (d j:Nat):Nat→Int:=fun w=>((cntB (csP n P w) (if w < j then d + 1 else d):Nat):Int)
theorem cS_zero {n:Nat} {P:List (Int×Int)} {d:Nat}:rowF n (cS n P (d + 1) 0) = rowF n (cS n P d n):=rowF_congr fun w hw=>by unfold cS; rw [if_neg (by omega),if_pos hw]
theorem cS_skip {n:Nat} {P:List (Int×Int)} {d:Nat} (h:∀ w,csP n P w d = false):rowF n (cS n P (d + 1) 0) = rowF n (cS n P d 0):=rowF_congr fun w hw=>by unfold cS; rw [if_neg (by omega),if_neg (by omega),cntB_f (h w)]
theorem cS_t {n:Nat} {P:List (Int×Int)} {d j:Nat} (h:csP n P j d = true):(rowF n (cS n P d j)).set j (int ((cntB (csP n P j) d + 1:Nat):Int)) = rowF n (cS n P d (j + 1)):=by
 rw [rowF_set]
 refine rowF_congr fun w hw=>?_
 unfold cS
 by_cases e:w = j
 ·subst e; rw [if_pos rfl,if_pos (by omega),cntB_t h]
 ·rw [if_neg e]
  by_cases e2:w < j
  ·rw [if_pos e2,if_pos (by omega)]
  ·rw [if_neg e2,if_neg (by omega)]
theorem cS_f {n:Nat} {P:List (Int×Int)} {d j:Nat} (h:csP n P j d = false):rowF n (cS n P d (j + 1)) = rowF n (cS n P d j):=by
 refine rowF_congr fun w hw=>?_
 unfold cS
 by_cases e:w = j
 ·subst e; rw [if_pos (by omega),if_neg (by omega),cntB_f h]
 ·by_cases e2:w < j
  ·rw [if_pos e2,if_pos (by omega)]
  ·rw [if_neg e2,if_neg (by omega)]
attribute [local irreducible] E idxN cellAt cellsAt storeAt callable helems hmoved lookIn findKey keyOk hentries Hp.at Hp.set Hp.lay arBits hupdated setAt CallP YieldP BoolOf IsWrap Rnd LoopP AppP CutP Int.tmod Int.tdiv Int.fdiv
section
variable [Unknowns]
attribute [local irreducible] ResP sameAt flat
theorem Counts_spec (n:Nat) (P:List (Int×Int)) (hP:NetOk n P) (hl:P.length≤9) (v:Value) (h:Hp) (hv:PairsV h v P) :
  CallP E 42 [int n,v] h (fun r h'=>(∃ z,r = .tuple ⟨[int (cntB (fun d=>rings n P d P.length == 0) (2 ^ P.length):Nat),int (cntB (fun d=>rings n P d P.length == 2 ^ P.length - 1) (2 ^ P.length):Nat),slc z 0 n n]⟩∧h'.at z = some (.row 3 true (rowF n (cS n P (2 ^ P.length) 0))))∧Grows h h'):=by
 obtain ⟨av,cap,rfl,-⟩:=id hv
 have hn:=hP.n1
 have hp:=Nat.pow_le_pow_right (n:=2) (by omega) hl
 have hp1:=Nat.one_le_two_pow (n:=P.length)
 refine enter42 (by simp) ?_
 conv=>whnf
 refine SeqP.go ?_
 conv=>whnf
 refine SeqP.go ?_
 conv=>whnf
 refine SeqP.go ?_
 conv=>whnf
 refine ⟨⟨by omega,by omega,by omega,by omega⟩,?_⟩
 have e0:One (h.lay (.row 3 true (times [int 0] (n:Int).toNat))) (h.lay (.row 3 true (times [int 0] (n:Int).toNat))) h.next (.row 3 true (rowF n (cS n P 0 0))):=by
  refine One.start ?_
  rw [Int.toNat_natCast,times_zero]
  refine (Hp.at_lay_self _ _).trans (congrArg (fun l=>some (Obj.row 3 true l)) ?_)
  exact rowF_congr fun w hw=>rfl
 have gz:Grows h (h.lay (.row 3 true (times [int 0] (n:Int).toNat))):=Grows.lay _ _
 conv=>whnf
 generalize h.lay (.row 3 true (times [int 0] (n:Int).toNat)) = H0 at e0 gz
 generalize hA:(fun d=>rings n P d P.length == 0) = pA
 generalize hR:(fun d=>rings n P d P.length == 2 ^ P.length - 1) = pR
 refine SeqP.cut (α:=Hp) (fun _=>[(7,int (cntB pA (2 ^ P.length):Nat)),(8,int (cntB pR (2 ^ P.length):Nat)),(9,slc h.next 0 n n)]) (fun s H=>H = s∧One H0 s h.next (.row 3 true (rowF n (cS n P (2 ^ P.length) 0)))) ?_ ?_
 ·conv=>whnf
  refine SeqP.go ?_
  conv=>whnf
  refine loop_inv (α:=Nat×Hp) (fun s=>[(10,int s.1),(7,int (cntB pA s.1:Nat)),(8,int (cntB pR s.1:Nat)),(9,slc h.next 0 n n),(0,int n),(1,.slice av P.length cap)]) (fun s=>s.2) (fun s=>s.1≤2 ^ P.length∧One H0 s.2 h.next (.row 3 true (rowF n (cS n P s.1 0)))) (fun s=>2 ^ P.length - s.1) (0,H0) ⟨Nat.zero_le _,e0⟩ ⟨rfl,rfl,rfl,rfl,rfl,rfl,trivial⟩ (Hp.Le.refl _) ?_
  rintro ⟨d,H2⟩ φ ⟨hd,k2⟩
  dsimp only at hd k2 ⊢
  have gr2:=k2.grows gz (Nat.le_refl _)
  conv=>whnf
  refine SeqP.go ?_
  conv=>whnf
  refine SeqP.go ?_
  conv=>whnf
  refine CallP.mono (Rall_spec P hl _ H2 (hv.ext gr2)) ?_
  rintro r H3 ⟨rfl,rfl⟩
  conv=>whnf
  refine cmpB (fun c2=>?_) (fun c2=>?_)
  rotate_left
  ·conv=>whnf
   have:d = 2 ^ P.length:=by omega
   subst this
   exact ⟨H3,⟨rfl,rfl,rfl,trivial⟩,⟨rfl,k2⟩,rfl⟩
  have hd':d < 2 ^ P.length:=by omega
  have hat:=cntB_t (p:=pA) (k:=d)
  have haf:=cntB_f (p:=pA) (k:=d)
  have hrt:=cntB_t (p:=pR) (k:=d)
  have hrf:=cntB_f (p:=pR) (k:=d)
  have hal:=cntB_le pA d
  have hrl:=cntB_le pR d
  have hAd:pA d = (rings n P d P.length == 0):=by rw [← hA]
  have hRd:pR d = (rings n P d P.length == 2 ^ P.length - 1):=by rw [← hR]
  have hcs:∀ w,csP n P w d = (srcB n P d w && rings n P d P.length == 0):=fun w=>rfl
  generalize cntB pA d = ca at hat haf hal
  generalize cntB pR d = cr at hrt hrf hrl
  have hrb:=rings_lt n P d P.length
  conv=>whnf
  refine SeqP.go ?_
  conv=>whnf
  refine SeqP.go ?_
  conv=>whnf
  refine CallP.mono (Rings_spec n P hP hl d hd' _ H3 (hv.ext gr2)) ?_
  rintro r H4 ⟨rfl,g4⟩
  have k4:=k2.ext g4
  have gr4:=gr2.trans g4
  generalize rings n P d P.length = R at hAd hRd hcs hrb
  conv=>whnf
  refine SeqP.cut (α:=Unit) (fun _=>[(8,int (cntB pR (d + 1):Nat)),(11,int (R:Nat)),(7,int (ca:Nat)),(10,int d),(9,slc h.next 0 n n),(0,int n),(1,.slice av P.length cap)]) (fun _ H=>H = H4) ?_ ?_
  ·conv=>whnf
   refine SeqP.go ?_
   conv=>whnf
   refine CallP.mono (Rall_spec P hl _ H4 (hv.ext gr4)) ?_
   rintro r _ ⟨rfl,rfl⟩
   conv=>whnf
   refine cmpB (fun hb=>?_) (fun hb=>?_)
   ·have e1:=hrt (by rw [hRd,beq_iff_eq]; omega)
    conv=>whnf
    refine ⟨((cr + 1:Nat):Int),wie (by omega) (by omega),?_⟩
    conv=>whnf
    exact ⟨(),⟨by rw [e1]; rfl,rfl,rfl,rfl,rfl,rfl,rfl,trivial⟩,rfl,rfl⟩
   ·have e1:=hrf (by rw [hRd,beq_eq_false_iff_ne]; omega)
    conv=>whnf
    exact ⟨(),⟨by rw [e1]; rfl,rfl,rfl,rfl,rfl,rfl,rfl,trivial⟩,rfl,rfl⟩
  rintro _ φ H4 rfl
  conv=>whnf
  refine SeqP.go ?_
  conv=>whnf
  refine SeqP.go ?_
  conv=>whnf
  refine cmpB (fun hb=>?_) (fun hb=>?_)
  ·have e2:=haf (by rw [hAd,beq_eq_false_iff_ne]; omega)
   have e3:∀ w,csP n P w d = false:=fun w=>by rw [hcs,beq_eq_false_iff_ne.2 (show R≠0 by omega),Bool.and_false]
   conv=>whnf
   refine ⟨_,wid (by omega),?_⟩
   conv=>whnf
   exact Rnd.mk (d + 1,H4) ⟨by show d + 1≤2 ^ P.length; omega,by rw [cS_skip e3]; exact k4⟩ (by show 2 ^ P.length - (d + 1) < 2 ^ P.length - d; omega) ⟨rfl,by rw [e2]; rfl,rfl,rfl,rfl,rfl,trivial⟩ (Hp.Le.refl _) rfl
  have hR0:R = 0:=by omega
  have e2:=hat (by rw [hAd,hR0]; rfl)
  have e3:∀ w,csP n P w d = srcB n P d w:=fun w=>by rw [hcs,hR0]; simp
  conv=>whnf
  refine SeqP.go ?_
  conv=>whnf
  refine ⟨((ca + 1:Nat):Int),wie (by omega) (by omega),?_⟩
  conv=>whnf
  refine SeqP.go ?_
  conv=>whnf
  refine loop_inv (α:=Nat×Hp) (fun s=>[(12,int s.1),(7,int ((ca + 1:Nat):Int)),(8,int (cntB pR (d + 1):Nat)),(10,int d),(9,slc h.next 0 n n),(0,int n),(1,.slice av P.length cap)]) (fun s=>s.2) (fun s=>s.1≤n∧One H0 s.2 h.next (.row 3 true (rowF n (cS n P d s.1)))) (fun s=>n - s.1) (0,H4) ⟨Nat.zero_le _,k4⟩ ⟨rfl,rfl,rfl,rfl,rfl,rfl,rfl,trivial⟩ (Hp.Le.refl _) ?_
  rintro ⟨j,H5⟩ φ ⟨hj,k5⟩
  dsimp only at hj k5 ⊢
  have gr5:=k5.grows gz (Nat.le_refl _)
  conv=>whnf
  refine SeqP.go ?_
  conv=>whnf
  refine SeqP.go ?_
  conv=>whnf
  refine cmpB (fun c3=>?_) (fun c3=>?_)
  rotate_left
  ·conv=>whnf
   have:j = n:=by omega
   subst this
   refine ⟨_,wid (by omega),?_⟩
   conv=>whnf
   exact Rnd.mk (d + 1,H5) ⟨by show d + 1≤2 ^ P.length; omega,by rw [cS_zero]; exact k5⟩ (by show 2 ^ P.length - (d + 1) < 2 ^ P.length - d; omega) ⟨rfl,by rw [e2]; rfl,rfl,rfl,rfl,rfl,trivial⟩ (Hp.Le.refl _) rfl
  have hj':j < n:=by omega
  conv=>whnf
  refine SeqP.go ?_
  conv=>whnf
  refine SeqP.go ?_
  conv=>whnf
  refine CallP.mono (Source_spec n P hP hl d hd' j hj' _ H5 (hv.ext gr5)) ?_
  rintro r H6 ⟨rfl,g6⟩
  have k6:=k5.ext g6
  have ej:=e3 j
  have ct:=cS_t (n:=n) (P:=P) (d:=d) (j:=j)
  have cf:=cS_f (n:=n) (P:=P) (d:=d) (j:=j)
  have clj:(rowF n (cS n P d j))[j]? = some (int ((cntB (csP n P j) d:Nat):Int)):=by
   rw [rowF_get hj']
   unfold cS
   rw [if_neg (Nat.lt_irrefl _)]
  have hcl:=cntB_le (csP n P j) d
  have hc:cellAt H6 h.next (offAt 0 (j:Int).toNat 1) = some (int ((cntB (csP n P j) d:Nat):Int)):=by
   rw [offAt_eq,show 0 + (j:Int).toNat * 1 = j by omega]
   exact cellAt_row k6.obj clj
  have hst:storeAt H6 h.next (offAt 0 (j:Int).toNat 1) [int ((cntB (csP n P j) d + 1:Nat):Int)] = some (H6.set h.next (.row 3 true ((rowF n (cS n P d j)).set j (int ((cntB (csP n P j) d + 1:Nat):Int))))):=by
   rw [offAt_eq,show 0 + (j:Int).toNat * 1 = j by omega]
   exact storeAt_row k6.obj (by rw [rowF_length]; exact hj') rfl
  generalize hS:srcB n P d j = S at ej
  cases S with
  | true =>
   have ct:=ct ej
   rw [ct] at hst
   have k7:=k6.set (o':=.row 3 true (rowF n (cS n P d (j + 1))))
   conv=>whnf
   refine ⟨rfl,⟨by omega,by omega⟩,?_⟩
   conv=>whnf
   refine ⟨_,hc,?_⟩
   conv=>whnf
   refine ⟨((cntB (csP n P j) d + 1:Nat):Int),wie (by omega) (by omega),?_⟩
   conv=>whnf
   refine ⟨rfl,⟨by omega,by omega⟩,?_⟩
   conv=>whnf
   refine ⟨rfl,_,hst,?_⟩
   conv=>whnf
   refine ⟨_,wid (by omega),?_⟩
   conv=>whnf
   exact Rnd.mk (j + 1,_) ⟨by show j + 1≤n; omega,k7⟩ (by show n - (j + 1) < n - j; omega) ⟨rfl,rfl,rfl,rfl,rfl,rfl,rfl,trivial⟩ (Hp.Le.refl _) rfl
  | false =>
   have cf:=cf ej
   rw [← cf] at k6
   conv=>whnf
   refine ⟨_,wid (by omega),?_⟩
   conv=>whnf
   exact Rnd.mk (j + 1,_) ⟨by show j + 1≤n; omega,k6⟩ (by show n - (j + 1) < n - j; omega) ⟨rfl,rfl,rfl,rfl,rfl,rfl,rfl,trivial⟩ (Hp.Le.refl _) rfl
 rintro _ φ H3 ⟨rfl,k3⟩
 conv=>whnf
 repeat (refine SeqP.go ?_; conv=>whnf)
 exact ⟨⟨h.next,rfl,k3.obj⟩,k3.grows gz (Nat.le_refl _)⟩
end
end Go.Proofs.Ythgjnkdealdmoaa
namespace Go.Proofs.Ythgjnkdealdmoaa
open Go.Rx Go.RowKit
attribute [local irreducible] E idxN cellAt cellsAt storeAt callable helems hmoved lookIn findKey keyOk hentries Hp.at Hp.set Hp.lay arBits hupdated setAt CallP YieldP BoolOf IsWrap Rnd LoopP AppP CutP Int.tmod Int.tdiv Int.fdiv
section
variable [Unknowns]
attribute [local irreducible] ResP sameAt flat
theorem counts_law (n:Int) (L:List (Int×Int)) (hL:L.length < 9223372036854775808) (v:Value) (h:Hp) (hv:PairsV h v L) :
  CallP E 8 [int n,v] h (fun r _=>r = .bool true):=by
 obtain ⟨av,cap,rfl,-⟩:=id hv
 refine enter8 (by simp) ?_
 conv=>whnf
 repeat (refine SeqP.go ?_; conv=>whnf)
 refine CallP.mono (tame_spec n _ L 9 (by omega) h hv hL) ?_
 rintro r H1 ⟨m,v1,P,rfl,hP,hPl,hb,g1⟩
 have hn:=hP.n1
 have hpv:=hb.pairs
 obtain ⟨a1,c1,rfl,-⟩:=id hpv
 conv=>whnf
 have hA:∃ A,cntB (fun d=>rings m P d P.length == 0) (2 ^ P.length) = A:=⟨_,rfl⟩
 obtain ⟨A,hA⟩:=hA
 have hR:∃ R,cntB (fun d=>rings m P d P.length == 2 ^ P.length - 1) (2 ^ P.length) = R:=⟨_,rfl⟩
 obtain ⟨R,hR⟩:=hR
 refine SeqP.cut (α:=Hp) (fun _=>[(6,int (A:Nat)),(7,int 0),(0,int m),(5,.slice a1 P.length c1)]) (fun x h'=>h' = x∧Grows H1 x) ?_ ?_
 ·conv=>whnf
  refine CallP.mono (CountAcyclic_spec m P hP hPl _ H1 hpv) ?_
  rw [hA]
  rintro r H2 ⟨rfl,g2⟩
  conv=>whnf
  exact ⟨H2,⟨rfl,rfl,rfl,rfl,trivial⟩,⟨rfl,g2⟩,rfl⟩
 rintro _ φ H2 ⟨rfl,g2⟩
 conv=>whnf
 refine SeqP.cut (α:=Hp) (fun _=>[(6,int (A:Nat)),(7,int 0),(8,int (R:Nat)),(9,int 0),(0,int m),(5,.slice a1 P.length c1)]) (fun x h'=>h' = x∧Grows H1 x) ?_ ?_
 ·conv=>whnf
  refine CallP.mono (CountRound_spec m P hP hPl _ H2 (hpv.ext g2)) ?_
  rw [hR]
  rintro r H3 ⟨rfl,g3⟩
  conv=>whnf
  exact ⟨H3,⟨rfl,rfl,rfl,rfl,rfl,rfl,trivial⟩,⟨rfl,g2.trans g3⟩,rfl⟩
 rintro _ φ H3 ⟨rfl,g3⟩
 conv=>whnf
 refine SeqP.cut (α:=Hp×Nat) (fun s=>[(6,int (A:Nat)),(7,int 0),(8,int (R:Nat)),(9,int 0),(10,int (A:Nat)),(11,int (R:Nat)),(12,slc s.2 0 m m),(0,int m),(5,.slice a1 P.length c1)]) (fun x h'=>h' = x.1∧Grows H1 x.1∧x.1.at x.2 = some (.row 3 true (rowF m (cS m P (2 ^ P.length) 0)))) ?_ ?_
 ·conv=>whnf
  refine CallP.mono (Counts_spec m P hP hPl _ H3 (hpv.ext g3)) ?_
  rw [hA,hR]
  rintro r H4 ⟨⟨z,rfl,hz⟩,g4⟩
  conv=>whnf
  exact ⟨(H4,z),⟨rfl,rfl,rfl,rfl,rfl,rfl,rfl,rfl,rfl,trivial⟩,⟨rfl,g3.trans g4,hz⟩,rfl⟩
 rintro ⟨_,z⟩ φ H4 ⟨rfl,g4,hz⟩
 dsimp only at g4 hz ⊢
 conv=>whnf
 refine SeqP.cut (α:=Hp) (fun s=>[(6,int (A:Nat)),(7,int 0),(8,int (R:Nat)),(9,int 0),(10,int (A:Nat)),(11,int (R:Nat))]) (fun x h'=>h' = x) ?_ ?_
 ·conv=>whnf
  refine SeqP.go ?_
  conv=>whnf
  refine loop_inv (α:=Nat×Hp) (fun s=>[(13,int s.1),(6,int (A:Nat)),(7,int 0),(8,int (R:Nat)),(9,int 0),(10,int (A:Nat)),(11,int (R:Nat)),(12,slc z 0 m m),(0,int m),(5,.slice a1 P.length c1)]) (fun s=>s.2) (fun s=>s.1≤m∧Grows H4 s.2) (fun s=>m - s.1) (0,H4) ⟨Nat.zero_le _,.refl _⟩ ⟨rfl,rfl,rfl,rfl,rfl,rfl,rfl,rfl,rfl,rfl,trivial⟩ (Hp.Le.refl _) ?_
  rintro ⟨k,H⟩ φ ⟨hk,gk⟩
  dsimp only at hk gk ⊢
  conv=>whnf
  refine SeqP.go ?_
  conv=>whnf
  refine SeqP.go ?_
  conv=>whnf
  refine cmpB (fun c2=>?_) (fun c2=>?_)
  rotate_left
  ·conv=>whnf
   exact ⟨H,⟨rfl,rfl,rfl,rfl,rfl,rfl,trivial⟩,rfl,rfl⟩
  have hk':k < m:=by omega
  have hS:∃ S,cntB (csP m P k) (2 ^ P.length) = S:=⟨_,rfl⟩
  obtain ⟨S,hS⟩:=hS
  conv=>whnf
  refine SeqP.go ?_
  conv=>whnf
  refine SeqP.go ?_
  conv=>whnf
  refine CallP.mono (CountSource_spec m P hP hPl k hk' _ H (hpv.ext (g4.trans gk))) ?_
  rw [hS]
  rintro r H5 ⟨rfl,g5⟩
  have gk5:=gk.trans g5
  have hc:cellAt H5 z (offAt 0 (k:Int).toNat 1) = some (int (S:Nat)):=by
   rw [offAt_eq,show 0 + (k:Int).toNat * 1 = k by omega]
   refine cellAt_row (gk5.at_ _ _ hz) ?_
   rw [rowF_get hk']
   unfold cS
   rw [if_neg (Nat.not_lt_zero _),hS]
  conv=>whnf
  repeat (refine SeqP.go ?_; conv=>whnf)
  refine cmpF (by omega) ?_
  conv=>whnf
  refine ⟨rfl,⟨by omega,by omega⟩,?_⟩
  conv=>whnf
  refine ⟨_,hc,?_⟩
  conv=>whnf
  refine cmpF (by omega) ?_
  conv=>whnf
  refine ⟨_,wid (by omega),?_⟩
  conv=>whnf
  exact Rnd.mk (k + 1,H5) ⟨by show k + 1≤m; omega,gk5⟩ (by show m - (k + 1) < m - k; omega) ⟨rfl,rfl,rfl,rfl,rfl,rfl,rfl,rfl,rfl,rfl,trivial⟩ (Hp.Le.refl _) rfl
 rintro _ φ H6 rfl
 conv=>whnf
 refine SeqP.go ?_
 conv=>whnf
 refine cmpT (by omega) ?_
 conv=>whnf
 refine cmpT (by omega) ?_
 conv=>whnf
 refine cmpT (by omega) ?_
 conv=>whnf
 refine cmpT (by omega) ?_
 conv=>whnf
 refine memo20 ?_
 conv=>whnf
 repeat (refine SeqP.go ?_; conv=>whnf)
 rfl
theorem counts_spec (n:Int) (hn:-9223372036854775808≤n∧n < 9223372036854775808) (t:Tr) (ht:TyT Try.prog 22 [t]):∀ h vs,AllT h vs [.num n,t]→CallP E 8 vs h (fun r _=>r = .bool true):=by
 intro h vs hvs
 obtain ⟨P,rfl,hm,-⟩:=ty_pairs Try.underlying22 Try.underlying79 Try.underlying3 (by kernel_rfl) (by kernel_rfl) ht
 match vs,hvs with
 | [_,v],hvs =>
 obtain ⟨h1,h2,-⟩:=hvs
 cases h1
 exact counts_law n P (by have:maxLen = 4294967296∨True:=.inr trivial; unfold maxLen at hm; omega) v h h2.lentV.pairs
end
end Go.Proofs.Ythgjnkdealdmoaa
