/- Contracts of the functions that PZCA comes to. -/
import Derived.Test.YthgjnkdealdmoaaGreatCodePZCA
import Derived.Test.YthgjnkdealdmoaaGreatWx16
import Derived.Test.YthgjnkdealdmoaaGreatWx18
import Derived.Test.YthgjnkdealdmoaaGreatWx23
import Derived.Test.YthgjnkdealdmoaaGreatWx29
import Derived.Test.YthgjnkdealdmoaaGreatWx17
import Derived.Test.YthgjnkdealdmoaaGreatZAwake
import Derived.Test.YthgjnkdealdmoaaGreatWx20
set_option maxRecDepth 100000
set_option maxHeartbeats 2000000
set_option linter.unusedVariables false
set_option linter.unusedSectionVars false
set_option linter.unusedSimpArgs false
namespace Go.Proofs.YthgjnkdealdmoaaGreat
open Go.Rx Go.RowKit
attribute [local irreducible] E idxN cellAt cellsAt storeAt callable helems hmoved lookIn findKey keyOk hentries Hp.at Hp.set Hp.lay arBits hupdated setAt CallP YieldP BoolOf IsWrap Rnd LoopP AppP CutP Int.tmod Int.tdiv Int.fdiv
section
variable [Unknowns]
theorem isnan_spec (a:Int) (h:Hp):CallP E 93 [int a] h (fun r h'=>r = .bool false∧h' = h):=by
 refine enter93 (by simp) ?_
 ((conv=>whnf); repeat (refine SeqP.go ?_; conv=>whnf))
 refine cmpF (by omega) ?_
 ((conv=>whnf); repeat (refine SeqP.go ?_; conv=>whnf))
 exact ⟨rfl,rfl⟩
def cmpI (a b:Int):Int:=if a < b then -1 else if b < a then 1 else 0
theorem cmp_spec (a b:Int) (h:Hp):CallP E 80 [int a,int b] h (fun r h'=>r = int (cmpI a b)∧h' = h):=by
 refine enter80 (by simp) ?_
 ((conv=>whnf); repeat (refine SeqP.go ?_; conv=>whnf))
 refine CallP.mono (isnan_spec a h) ?_
 rintro r h1 ⟨rfl,rfl⟩
 ((conv=>whnf); repeat (refine SeqP.go ?_; conv=>whnf))
 refine CallP.mono (isnan_spec b h1) ?_
 rintro r h2 ⟨rfl,rfl⟩
 ((conv=>whnf); repeat (refine SeqP.go ?_; conv=>whnf))
 by_cases h3:a < b
 ·refine cmpT h3 ?_
  ((conv=>whnf); repeat (refine SeqP.go ?_; conv=>whnf))
  exact ⟨by unfold cmpI; rw [if_pos h3]; rfl,rfl⟩
 refine cmpF h3 ?_
 ((conv=>whnf); repeat (refine SeqP.go ?_; conv=>whnf))
 by_cases h4:b < a
 ·refine cmpT h4 ?_
  ((conv=>whnf); repeat (refine SeqP.go ?_; conv=>whnf))
  exact ⟨by unfold cmpI; rw [if_neg h3,if_pos h4]; rfl,rfl⟩
 refine cmpF h4 ?_
 ((conv=>whnf); repeat (refine SeqP.go ?_; conv=>whnf))
 exact ⟨by unfold cmpI; rw [if_neg h3,if_neg h4]; rfl,rfl⟩
def PLess (x y:Int×Int):Prop:=x.1 < y.1∨x.1 = y.1∧x.2 < y.2
theorem compare_spec (v w:Value) (x y:Int×Int) (h:Hp) (hv:Ints h v [x.1,x.2]) (hw:Ints h w [y.1,y.2]):CallP E 56 [v,w] h (fun r h'=>(∃ c:Int,r = int c∧(c < 0↔PLess x y)∧(c = 0↔x = y))∧h' = h):=by
 obtain ⟨a,b⟩:=x
 obtain ⟨c,d⟩:=y
 obtain ⟨av,cap,rfl,hc⟩:=id hv
 obtain ⟨aw,cap',rfl,hd⟩:=id hw
 obtain ⟨r,o,sp,e,hsp,hc0⟩:=hc 0 (by simp)
 subst e
 obtain ⟨r',o',sp',e,hsp',hd0⟩:=hd 0 (by simp)
 subst e
 have hc1:cellAt h r (1 + o) = some (int b):=by
  obtain ⟨_,_,_,e,_,h1⟩:=hc 1 (by simp)
  cases e
  exact h1
 have hd1:cellAt h r' (1 + o') = some (int d):=by
  obtain ⟨_,_,_,e,_,h1⟩:=hd 1 (by simp)
  cases e
  exact h1
 refine enter56 (by simp) ?_
 ((conv=>whnf); repeat (refine SeqP.go ?_; conv=>whnf))
 refine loop_inv (α:=Nat) (fun k=>[(11,int k),(10,int 2),(9,.slice (some ⟨r,o,sp⟩) 2 cap),(0,.slice (some ⟨r,o,sp⟩) 2 cap),(1,.slice (some ⟨r',o',sp'⟩) 2 cap')]) (fun _=>h) (fun k=>k≤2∧(1≤k→a = c)∧(2≤k→b = d)) (fun k=>2 - k) 0 ⟨by omega,by omega,by omega⟩ ⟨rfl,rfl,rfl,rfl,rfl,trivial⟩ (Hp.Le.refl _) ?_
 rintro k φ ⟨hk,h1,h2⟩
 have hk3:k = 0∨k = 1∨k = 2:=by omega
 ((conv=>whnf); repeat (refine SeqP.go ?_; conv=>whnf))
 refine cmpB (fun hb=>?_) (fun hb=>?_)
 rotate_left
 ·have:k = 2:=by omega
  subst this
  ((conv=>whnf); repeat (refine SeqP.go ?_; conv=>whnf))
  refine cmpF (by omega) ?_
  ((conv=>whnf); repeat (refine SeqP.go ?_; conv=>whnf))
  refine ⟨⟨0,rfl,?_,?_⟩,rfl⟩
  ·unfold PLess; dsimp only; omega
  ·rw [Prod.mk.injEq]; omega
 have hx:∃ x:Int,cellAt h r (k + o) = some (int x)∧(k = 0∧x = a∨k = 1∧x = b):=by
  rcases hk3 with rfl | rfl | rfl
  ·exact ⟨a,hc0,.inl ⟨rfl,rfl⟩⟩
  ·exact ⟨b,hc1,.inr ⟨rfl,rfl⟩⟩
  ·omega
 have hy:∃ y:Int,cellAt h r' (k + o') = some (int y)∧(k = 0∧y = c∨k = 1∧y = d):=by
  rcases hk3 with rfl | rfl | rfl
  ·exact ⟨c,hd0,.inl ⟨rfl,rfl⟩⟩
  ·exact ⟨d,hd1,.inr ⟨rfl,rfl⟩⟩
  ·omega
 obtain ⟨x,hx1,hx2⟩:=hx
 obtain ⟨y,hy1,hy2⟩:=hy
 ((conv=>whnf); repeat (refine SeqP.go ?_; conv=>whnf))
 refine ⟨hsp,⟨by omega,by omega⟩,?_⟩
 ((conv=>whnf); repeat (refine SeqP.go ?_; conv=>whnf))
 refine ⟨_,hx1,?_⟩
 ((conv=>whnf); repeat (refine SeqP.go ?_; conv=>whnf))
 refine cmpF (by omega) ?_
 ((conv=>whnf); repeat (refine SeqP.go ?_; conv=>whnf))
 refine ⟨hsp',⟨by omega,by omega⟩,?_⟩
 ((conv=>whnf); repeat (refine SeqP.go ?_; conv=>whnf))
 refine ⟨_,hy1,?_⟩
 ((conv=>whnf); repeat (refine SeqP.go ?_; conv=>whnf))
 refine CallP.mono (cmp_spec x y h) ?_
 rintro rr h3 ⟨rfl,rfl⟩
 ((conv=>whnf); repeat (refine SeqP.go ?_; conv=>whnf))
 by_cases hxy:x = y
 ·refine cmpF (fun hn=>hn (by unfold cmpI; rw [if_neg (by omega),if_neg (by omega)])) ?_
  ((conv=>whnf); repeat (refine SeqP.go ?_; conv=>whnf))
  refine ⟨_,wid (by omega),?_⟩
  ((conv=>whnf); repeat (refine SeqP.go ?_; conv=>whnf))
  exact Rnd.mk (k + 1) ⟨by omega,by omega,by omega⟩ (by omega) ⟨rfl,rfl,rfl,rfl,rfl,trivial⟩ (Hp.Le.refl _) rfl
 ·refine cmpT (fun hn=>by
   unfold cmpI at hn
   split at hn
   ·omega
   ·split at hn <;> omega) ?_
  ((conv=>whnf); repeat (refine SeqP.go ?_; conv=>whnf))
  refine ⟨⟨cmpI x y,rfl,?_,?_⟩,rfl⟩
  ·unfold PLess cmpI; dsimp only
   constructor
   ·intro h
    split at h
    ·omega
    ·split at h <;> omega
   ·intro h
    rw [if_pos (by omega)]
    omega
  ·rw [Prod.mk.injEq]
   constructor
   ·intro h
    unfold cmpI at h
    split at h
    ·omega
    ·split at h <;> omega
   ·intro h; exfalso; omega
end
theorem store2 {H:Hp} {e:Nat} {a b:Value} {c d:Int}:storeAt (H.lay (.row e true [a,b])) H.next 0 [int c,int d] = some (H.lay (.row e true [int c,int d])):=by
 unfold storeAt
 rw [Hp.at_lay_self]
 dsimp only
 rw [if_pos ⟨by simp,rfl⟩,Hp.set_lay_self]
 rfl
def edg (P:List (Int×Int)) (k:Nat):Int×Int:=P.getD k (0,0)
theorem edg_get {P:List (Int×Int)} {k:Nat} (hk:k < P.length):edg P k = P[k]:=by unfold edg; simp [List.getD,hk]
def lessB (x y:Int×Int):Bool:=decide (x.1 < y.1∨x.1 = y.1∧x.2 < y.2)
theorem lessB_t {x y:Int×Int} (h:PLess x y):lessB x y = true:=decide_eq_true h
theorem lessB_f {x y:Int×Int} (h:¬ PLess x y):lessB x y = false:=decide_eq_false h
def bad1 (n:Int) (P:List (Int×Int)) (i:Nat):Bool:=decide ((edg P i).1 < 0∨(edg P i).1 > (edg P i).2∨(edg P i).2 ≥ n) || (decide (0 < i) && lessB (edg P i) (edg P (i - 1)))
def badK (n:Int) (P:List (Int×Int)):Nat→Bool
 | 0=>false
 | k + 1=>badK n P k || bad1 n P k
theorem badK_mono {n:Int} {P:List (Int×Int)} {k:Nat} (h:badK n P k = true):∀ d,badK n P (k + d) = true
 | 0=>h
 | d + 1=>by show (badK n P (k + d) || _) = true; rw [badK_mono h d]; rfl
theorem badK_of {n:Int} {P:List (Int×Int)} {k m:Nat} (h:bad1 n P k = true) (hk:k < m):badK n P m = true:=by
 have:badK n P (k + 1) = true:=by show (badK n P k || _) = true; rw [h,Bool.or_true]
 have:=badK_mono this (m - (k + 1))
 rwa [show k + 1 + (m - (k + 1)) = m by omega] at this
def chk (n:Int) (P:List (Int×Int)):Int:=if n < 1∨n > 6 then 1 else if badK n P P.length = true∨9 < P.length then 10 else 0
theorem chk_one {n:Int} {P:List (Int×Int)} (h:n < 1∨n > 6):chk n P = 1:=by unfold chk; rw [if_pos h]
theorem chk_ten {n:Int} {P:List (Int×Int)} (h:¬ (n < 1∨n > 6)) (k:badK n P P.length = true∨9 < P.length):chk n P = 10:=by unfold chk; rw [if_neg h,if_pos k]
theorem chk_ok {n:Int} {P:List (Int×Int)} (h:¬ (n < 1∨n > 6)) (k:badK n P P.length = false) (l:P.length≤9):chk n P = 0:=by unfold chk; rw [if_neg h,if_neg (by rw [k]; simp; omega)]
theorem chk_vals (n:Int) (P:List (Int×Int)):(chk n P = 1∧(n < 1∨n > 6))∨(chk n P = 10∧1≤n∧n≤6)∨(chk n P = 0∧1≤n∧n≤6∧P.length≤9):=by
 by_cases h:n < 1∨n > 6
 ·exact .inl ⟨chk_one h,h⟩
 ·by_cases k:badK n P P.length = true∨9 < P.length
  ·exact .inr (.inl ⟨chk_ten h k,by omega,by omega⟩)
  ·have k1:badK n P P.length = false:=by cases hb:badK n P P.length with
    | true=>exact absurd (.inl hb) k
    | false=>rfl
   have k2:P.length≤9:=by
    rcases Nat.lt_or_ge 9 P.length with h | h
    ·exact absurd (.inr h) k
    ·exact h
   exact .inr (.inr ⟨chk_ok h k1 k2,by omega,by omega,k2⟩)

section
variable [Unknowns]
attribute [local irreducible] ResP sameAt flat
theorem edges_spec (x y:Int×Int) (h:Hp):CallP E 26 [.agg ⟨[int x.1,int x.2]⟩,.agg ⟨[int y.1,int y.2]⟩] h (fun r h'=>(∃ c:Int,r = int c∧(c < 0↔PLess x y)∧(c = 0↔x = y))∧Grows h h'):=by
 refine enter26 (by simp) ?_
 conv=>whnf
 repeat (refine SeqP.go ?_; conv=>whnf)
 have a1:((h.lay (.row 52 true [int x.1,int x.2])).lay (.row 52 true [int y.1,int y.2])).at h.next = some (.row 52 true ([x.1,x.2].map int)):=Hp.at_lay_old _ (Hp.at_lay_self _ _)
 have a2:((h.lay (.row 52 true [int x.1,int x.2])).lay (.row 52 true [int y.1,int y.2])).at (h.lay (.row 52 true [int x.1,int x.2])).next = some (.row 52 true ([y.1,y.2].map int)):=Hp.at_lay_self _ _
 refine resP_cutA ?_ (by omega)
 conv=>whnf
 refine resP_cutA ?_ (by omega)
 conv=>whnf
 refine CallP.mono (compare_spec _ _ x y _ ?_ ?_) ?_
 ·exact ints_spot (l:=[x.1,x.2]) a1 (fun j hj=>by
   have hj2:j = 0∨j = 1:=by simp at hj; omega
   rcases hj2 with rfl | rfl <;> rfl)
 ·exact ints_spot (l:=[y.1,y.2]) a2 (fun j hj=>by
   have hj2:j = 0∨j = 1:=by simp at hj; omega
   rcases hj2 with rfl | rfl <;> rfl)
 rintro r h2 ⟨⟨c,rfl,hc⟩,rfl⟩
 conv=>whnf
 exact ⟨⟨c,rfl,hc⟩,(Grows.lay _ _).then_lay _⟩
theorem less_spec (x y:Int×Int) (h:Hp):CallP E 25 [.agg ⟨[int x.1,int x.2]⟩,.agg ⟨[int y.1,int y.2]⟩] h (fun r h'=>(∃ b,r = .bool b∧(b = true↔PLess x y))∧Grows h h'):=by
 refine enter25 (by simp) ?_
 conv=>whnf
 repeat (refine SeqP.go ?_; conv=>whnf)
 have a1:((h.lay (.row 52 true [int x.1,int x.2])).lay (.row 52 true [int y.1,int y.2])).at h.next = some (.row 52 true [int x.1,int x.2]):=Hp.at_lay_old _ (Hp.at_lay_self _ _)
 have a2:((h.lay (.row 52 true [int x.1,int x.2])).lay (.row 52 true [int y.1,int y.2])).at (h.lay (.row 52 true [int x.1,int x.2])).next = some (.row 52 true [int y.1,int y.2]):=Hp.at_lay_self _ _
 have g:Grows h ((h.lay (.row 52 true [int x.1,int x.2])).lay (.row 52 true [int y.1,int y.2])):=(Grows.lay _ _).then_lay _
 refine ⟨⟨by omega,by omega⟩,?_⟩
 conv=>whnf
 refine ⟨_,cellAt_row a1 rfl,?_⟩
 conv=>whnf
 refine ⟨⟨by omega,by omega⟩,?_⟩
 conv=>whnf
 refine ⟨_,cellAt_row a2 rfl,?_⟩
 conv=>whnf
 refine cmpB (fun c1=>?_) (fun c1=>?_)
 ·conv=>whnf
  repeat (refine SeqP.go ?_; conv=>whnf)
  exact ⟨⟨true,rfl,fun _=>.inl c1,fun _=>rfl⟩,g⟩
 conv=>whnf
 refine ⟨⟨by omega,by omega⟩,?_⟩
 conv=>whnf
 refine ⟨_,cellAt_row a1 rfl,?_⟩
 conv=>whnf
 refine ⟨⟨by omega,by omega⟩,?_⟩
 conv=>whnf
 refine ⟨_,cellAt_row a2 rfl,?_⟩
 conv=>whnf
 refine cmpB (fun c2=>?_) (fun c2=>?_)
 rotate_left
 ·conv=>whnf
  repeat (refine SeqP.go ?_; conv=>whnf)
  exact ⟨⟨false,rfl,fun e=>(by cases e),fun e=>by unfold PLess at e; omega⟩,g⟩
 conv=>whnf
 refine ⟨⟨by omega,by omega⟩,?_⟩
 conv=>whnf
 refine ⟨_,cellAt_row a1 rfl,?_⟩
 conv=>whnf
 refine ⟨⟨by omega,by omega⟩,?_⟩
 conv=>whnf
 refine ⟨_,cellAt_row a2 rfl,?_⟩
 conv=>whnf
 refine cmpB (fun c3=>?_) (fun c3=>?_)
 ·conv=>whnf
  repeat (refine SeqP.go ?_; conv=>whnf)
  exact ⟨⟨true,rfl,fun _=>.inr ⟨c2,c3⟩,fun _=>rfl⟩,g⟩
 ·conv=>whnf
  repeat (refine SeqP.go ?_; conv=>whnf)
  exact ⟨⟨false,rfl,fun e=>(by cases e),fun e=>by unfold PLess at e; omega⟩,g⟩
theorem own_spec (v:Value) (P:List (Int×Int)) (h:Hp) (hv:LentV h v P.length (flat P)) (hl:P.length < 9223372036854775808):CallP E 4 [v] h (fun r h'=>BuiltC h h' 52 2 r (P.take 10).length ((flat (P.take 10)).map int)∧Grows h h'):=by
 obtain ⟨a,c,rfl,-⟩:=id hv.pairs
 refine enter4 (by simp) ?_
 conv=>whnf
 repeat (refine SeqP.go ?_; conv=>whnf)
 refine resP_val (v:=int ((min P.length 10:Nat):Int)) (h:=h) ?_ ?_
 ·conv=>lhs; whnf
  refine congrArg (fun n=>HRes.val (Value.int .i64 n) h) ?_
  split <;> omega
 conv=>whnf
 refine CutP.lentV (k:=min P.length 10) hv (flat_length P) (by omega) rfl ?_
 intro x hx
 conv=>whnf
 refine AppP.cells (h0:=h) BuiltC.nil (.refl _) hx (by omega) (by omega) ?_
 intro v2 h2 hb hg _
 have e1:(flat P).take (min P.length 10 * 2) = flat (P.take 10):=by
  rw [← flat_take,show P.take (min P.length 10) = P.take 10 by
   by_cases h:P.length≤10
   ·rw [Nat.min_eq_left h,List.take_of_length_le (Nat.le_refl _),List.take_of_length_le h]
   ·rw [Nat.min_eq_right (by omega)]]
 rw [List.nil_append,e1,Nat.zero_add,show min P.length 10 = (P.take 10).length by rw [List.length_take]; omega] at hb
 have hbk:=hb.slice
 obtain ⟨a2,rfl,-⟩:=hbk
 conv=>whnf
 repeat (refine SeqP.go ?_; conv=>whnf)
 exact ⟨hb,hg⟩
theorem Check_spec (n:Int) (P:List (Int×Int)) (hl:P.length≤10) (v:Value) (h:Hp) (hv:PairsV h v P):CallP E 6 [int n,v] h (fun r h'=>r = int (chk n P)∧Grows h h'):=by
 obtain ⟨av,cap,rfl,hcv⟩:=id hv
 refine enter6 (by simp) ?_
 conv=>whnf
 repeat (refine SeqP.go ?_; conv=>whnf)
 refine cmpB (fun c1=>?_) (fun c1=>?_)
 ·conv=>whnf
  repeat (refine SeqP.go ?_; conv=>whnf)
  exact ⟨by rw [chk_one (.inl c1)]; rfl,.refl _⟩
 conv=>whnf
 refine cmpB (fun c2=>?_) (fun c2=>?_)
 ·conv=>whnf
  repeat (refine SeqP.go ?_; conv=>whnf)
  exact ⟨by rw [chk_one (.inr c2)]; rfl,.refl _⟩
 have hn:¬ (n < 1∨n > 6):=by omega
 conv=>whnf
 repeat (refine SeqP.go ?_; conv=>whnf)
 refine cmpB (fun c3=>?_) (fun c3=>?_)
 ·conv=>whnf
  repeat (refine SeqP.go ?_; conv=>whnf)
  exact ⟨by rw [chk_ten hn (.inr (by omega))]; rfl,.refl _⟩
 conv=>whnf
 repeat (refine SeqP.go ?_; conv=>whnf)
 refine loop_inv (α:=Nat×Hp) (fun s=>[(18,int s.1),(17,int P.length),(16,.slice av P.length cap),(0,int n),(1,.slice av P.length cap)]) (fun s=>s.2) (fun s=>s.1≤P.length∧badK n P s.1 = false∧Grows h s.2) (fun s=>P.length - s.1) (0,h) ⟨Nat.zero_le _,rfl,.refl _⟩ ⟨rfl,rfl,rfl,rfl,rfl,trivial⟩ (Hp.Le.refl _) ?_
 rintro ⟨k,H⟩ φ ⟨hk,hbk,hg⟩
 dsimp only at hk hbk hg ⊢
 conv=>whnf
 repeat (refine SeqP.go ?_; conv=>whnf)
 refine cmpB (fun d1=>?_) (fun d1=>?_)
 rotate_left
 ·have:k = P.length:=by omega
  subst this
  conv=>whnf
  repeat (refine SeqP.go ?_; conv=>whnf)
  exact ⟨by rw [chk_ok hn hbk (by omega)]; rfl,hg⟩
 have hk':k < P.length:=by omega
 obtain ⟨r,o,rfl,hc0,hc1⟩:=hcv k hk'
 have hek:=edg_get hk'
 have b1:bad1 n P k = (decide ((P[k]).1 < 0∨(P[k]).1 > (P[k]).2∨(P[k]).2 ≥ n) || (decide (0 < k) && lessB (P[k]) (edg P (k - 1)))):=by unfold bad1; rw [hek]
 have hsu:badK n P (k + 1) = (badK n P k || bad1 n P k):=rfl
 rw [hbk,Bool.false_or] at hsu
 have bad:((P[k]).1 < 0∨(P[k]).1 > (P[k]).2∨(P[k]).2 ≥ n)→chk n P = 10:=fun h=>chk_ten hn (.inl (badK_of (by rw [b1,decide_eq_true h]; rfl) hk'))
 conv=>whnf
 repeat (refine SeqP.go ?_; conv=>whnf)
 refine ⟨rfl,⟨by omega,by omega⟩,?_⟩
 conv=>whnf
 refine ⟨[int (P[k]).1,int (P[k]).2],cellsAt_two (hg.cell hc0) (hg.cell hc1),?_⟩
 conv=>whnf
 refine ⟨rfl,_,store2,?_⟩
 have aD:(H.lay (.row 52 true [int (P[k]).1,int (P[k]).2])).at H.next = some (.row 52 true [int (P[k]).1,int (P[k]).2]):=Hp.at_lay_self _ _
 have q0:cellAt (H.lay (.row 52 true [int (P[k]).1,int (P[k]).2])) H.next (0 + 0) = some (int (P[k]).1):=cellAt_row aD rfl
 have q1:cellAt (H.lay (.row 52 true [int (P[k]).1,int (P[k]).2])) H.next (1 + 0) = some (int (P[k]).2):=cellAt_row aD rfl
 have hg':Grows h (H.lay (.row 52 true [int (P[k]).1,int (P[k]).2])):=hg.then_lay _
 conv=>whnf
 repeat (refine SeqP.go ?_; conv=>whnf)
 refine ⟨⟨by omega,by omega⟩,?_⟩
 conv=>whnf
 refine ⟨_,q0,?_⟩
 conv=>whnf
 refine cmpB (fun d2=>?_) (fun d2=>?_)
 ·conv=>whnf
  repeat (refine SeqP.go ?_; conv=>whnf)
  exact ⟨by rw [bad (.inl d2)]; rfl,hg'⟩
 conv=>whnf
 refine ⟨⟨by omega,by omega⟩,?_⟩
 conv=>whnf
 refine ⟨_,q0,?_⟩
 conv=>whnf
 refine ⟨⟨by omega,by omega⟩,?_⟩
 conv=>whnf
 refine ⟨_,q1,?_⟩
 conv=>whnf
 refine cmpB (fun d3=>?_) (fun d3=>?_)
 ·conv=>whnf
  repeat (refine SeqP.go ?_; conv=>whnf)
  exact ⟨by rw [bad (.inr (.inl d3))]; rfl,hg'⟩
 conv=>whnf
 refine ⟨⟨by omega,by omega⟩,?_⟩
 conv=>whnf
 refine ⟨_,q1,?_⟩
 conv=>whnf
 refine cmpB (fun d4=>?_) (fun d4=>?_)
 ·conv=>whnf
  repeat (refine SeqP.go ?_; conv=>whnf)
  exact ⟨by rw [bad (.inr (.inr d4))]; rfl,hg'⟩
 rw [decide_eq_false (by omega),Bool.false_or] at b1
 conv=>whnf
 repeat (refine SeqP.go ?_; conv=>whnf)
 refine cmpB (fun c2=>?_) (fun c2=>?_)
 rotate_left
 ·rw [decide_eq_false (by omega),Bool.false_and] at b1
  conv=>whnf
  repeat (refine SeqP.go ?_; conv=>whnf)
  refine ⟨_,wid (by omega),?_⟩
  conv=>whnf
  exact Rnd.mk (k + 1,_) ⟨by show k + 1≤P.length; omega,by rw [hsu,b1],hg'⟩ (by show P.length - (k + 1) < P.length - k; omega) ⟨rfl,rfl,rfl,rfl,rfl,trivial⟩ (Hp.Le.refl _) rfl
 rw [decide_eq_true (show 0 < k by omega),Bool.true_and] at b1
 have hk1:k - 1 < P.length:=by omega
 have hek1:=edg_get hk1
 rw [hek1] at b1
 have hcc:=hcv (k - 1) hk1
 obtain ⟨r',o',e',hd0,hd1⟩:=hcc
 obtain ⟨rfl,rfl⟩:r' = r∧o' = o:=by cases e'; exact ⟨rfl,rfl⟩
 have kd:cellsAt (H.lay (.row 52 true [int (P[k]).1,int (P[k]).2])) r' (offAt o' ((k - 1:Nat):Int).toNat 2) 2 = some [int (P[k - 1]).1,int (P[k - 1]).2]:=by
  rw [offAt_eq,show o' + ((k - 1:Nat):Int).toNat * 2 = (k - 1) * 2 + o' by omega]
  exact cellsAt_two (hg'.cell hd0) (hg'.cell (by rw [show (k - 1) * 2 + o' + 1 = (k - 1) * 2 + o' + 1 from rfl]; exact hd1))
 conv=>whnf
 refine ⟨_,cellsAt_row aD (by simp),?_⟩
 conv=>whnf
 refine ⟨((k - 1:Nat):Int),wie (by omega) (by omega),?_⟩
 conv=>whnf
 refine ⟨rfl,⟨by omega,by omega⟩,?_⟩
 conv=>whnf
 refine ⟨_,kd,?_⟩
 conv=>whnf
 refine CallP.mono (edges_spec P[k] P[k - 1] _) ?_
 rintro rr H2 ⟨⟨z,rfl,hz1,-⟩,g2⟩
 conv=>whnf
 refine cmpB (fun d5=>?_) (fun d5=>?_)
 ·rw [lessB_t (hz1.1 d5)] at b1
  conv=>whnf
  repeat (refine SeqP.go ?_; conv=>whnf)
  exact ⟨by rw [chk_ten hn (.inl (badK_of b1 hk'))]; rfl,hg'.trans g2⟩
 ·rw [lessB_f (fun h=>d5 (hz1.2 h))] at b1
  conv=>whnf
  repeat (refine SeqP.go ?_; conv=>whnf)
  refine ⟨_,wid (by omega),?_⟩
  conv=>whnf
  exact Rnd.mk (k + 1,H2) ⟨by show k + 1≤P.length; omega,by rw [hsu,b1],hg'.trans g2⟩ (by show P.length - (k + 1) < P.length - k; omega) ⟨rfl,rfl,rfl,rfl,rfl,trivial⟩ (Hp.Le.refl _) rfl
end
end Go.Proofs.YthgjnkdealdmoaaGreat
namespace Go.Proofs.YthgjnkdealdmoaaGreat
open Go.Rx Go.RowKit
theorem ty56:(tiOf Tryz.prog 56).isSome = true:=by kernel_rfl
theorem sz56:((tiOf Tryz.prog 56).get ty56).size = 2:=by kernel_rfl
theorem ag56:((tiOf Tryz.prog 56).get ty56).agg = true:=by kernel_rfl
theorem te56:E.ty 56 = some ((tiOf Tryz.prog 56).get ty56):=ty_get (by kernel_rfl) (Option.some_get ty56).symm
def gval (n:Int) (v:Value):Value:=.agg ⟨[int n,v]⟩
def noNet:Value:=.agg ⟨[int 0,.slice none 0 0]⟩
attribute [local irreducible] E idxN cellAt cellsAt storeAt callable helems hmoved lookIn findKey keyOk hentries Hp.at Hp.set Hp.lay arBits hupdated setAt CallP YieldP BoolOf IsWrap Rnd LoopP AppP CutP Int.tmod Int.tdiv Int.fdiv
section
variable [Unknowns]
attribute [local irreducible] ResP sameAt flat
theorem RCheck_spec (n:Int) (P:List (Int×Int)) (hl:P.length≤10) (v:Value) (h:Hp) (hv:PairsV h v P):CallP E 5 [int n,v] h (fun r h'=>r = int (chk n P)∧Grows h h'):=by
 obtain ⟨av,cap,rfl,hcv⟩:=id hv
 refine enter5 (by simp) ?_
 conv=>whnf
 repeat (refine SeqP.go ?_; conv=>whnf)
 refine cmpB (fun c1=>?_) (fun c1=>?_)
 ·conv=>whnf
  repeat (refine SeqP.go ?_; conv=>whnf)
  exact ⟨by rw [chk_one (.inl c1)]; rfl,.refl _⟩
 conv=>whnf
 refine cmpB (fun c2=>?_) (fun c2=>?_)
 ·conv=>whnf
  repeat (refine SeqP.go ?_; conv=>whnf)
  exact ⟨by rw [chk_one (.inr c2)]; rfl,.refl _⟩
 have hn:¬ (n < 1∨n > 6):=by omega
 conv=>whnf
 repeat (refine SeqP.go ?_; conv=>whnf)
 refine loop_inv (α:=Nat×Hp) (fun s=>[(5,int s.1),(0,int n),(1,.slice av P.length cap)]) (fun s=>s.2) (fun s=>s.1≤P.length∧badK n P s.1 = false∧Grows h s.2) (fun s=>P.length - s.1) (0,h) ⟨Nat.zero_le _,rfl,.refl _⟩ ⟨rfl,rfl,rfl,trivial⟩ (Hp.Le.refl _) ?_
 rintro ⟨k,H⟩ φ ⟨hk,hbk,hg⟩
 dsimp only at hk hbk hg ⊢
 conv=>whnf
 repeat (refine SeqP.go ?_; conv=>whnf)
 refine cmpB (fun d1=>?_) (fun d1=>?_)
 rotate_left
 ·have:k = P.length:=by omega
  subst this
  conv=>whnf
  repeat (refine SeqP.go ?_; conv=>whnf)
  refine cmpB (fun c3=>?_) (fun c3=>?_)
  ·conv=>whnf
   repeat (refine SeqP.go ?_; conv=>whnf)
   exact ⟨by rw [chk_ten hn (.inr (by omega))]; rfl,hg⟩
  ·conv=>whnf
   repeat (refine SeqP.go ?_; conv=>whnf)
   exact ⟨by rw [chk_ok hn hbk (by omega)]; rfl,hg⟩
 have hk':k < P.length:=by omega
 obtain ⟨r,o,rfl,hc0,hc1⟩:=hcv k hk'
 have hek:=edg_get hk'
 have b1:bad1 n P k = (decide ((P[k]).1 < 0∨(P[k]).1 > (P[k]).2∨(P[k]).2 ≥ n) || (decide (0 < k) && lessB (P[k]) (edg P (k - 1)))):=by unfold bad1; rw [hek]
 have hsu:badK n P (k + 1) = (badK n P k || bad1 n P k):=rfl
 rw [hbk,Bool.false_or] at hsu
 have bad:((P[k]).1 < 0∨(P[k]).1 > (P[k]).2∨(P[k]).2 ≥ n)→chk n P = 10:=fun h=>chk_ten hn (.inl (badK_of (by rw [b1,decide_eq_true h]; rfl) hk'))
 have q0:cellAt H r (0 + (k * 2 + o)) = some (int (P[k]).1):=by rw [Nat.zero_add]; exact hg.cell hc0
 have q1:cellAt H r (1 + (k * 2 + o)) = some (int (P[k]).2):=by rw [Nat.add_comm]; exact hg.cell hc1
 conv=>whnf
 refine SeqP.go ?_
 conv=>whnf
 refine SeqP.cut (α:=Unit) (fun _=>[(6,int (P[k]).1),(7,int (P[k]).2),(5,int k),(0,int n),(1,.slice (some ⟨r,o,none⟩) P.length cap)]) (fun _ H'=>H' = H) ?_ ?_
 ·conv=>whnf
  refine ⟨rfl,⟨by omega,by omega⟩,?_⟩
  conv=>whnf
  refine ⟨⟨by omega,by omega⟩,?_⟩
  conv=>whnf
  refine ⟨_,q0,?_⟩
  conv=>whnf
  refine ⟨rfl,⟨by omega,by omega⟩,?_⟩
  conv=>whnf
  refine ⟨⟨by omega,by omega⟩,?_⟩
  conv=>whnf
  refine ⟨_,q1,?_⟩
  conv=>whnf
  exact ⟨(),⟨rfl,rfl,rfl,rfl,rfl,trivial⟩,rfl,rfl⟩
 rintro _ φ H rfl
 conv=>whnf
 refine SeqP.go ?_
 conv=>whnf
 refine cmpB (fun d2=>?_) (fun d2=>?_)
 ·conv=>whnf
  repeat (refine SeqP.go ?_; conv=>whnf)
  exact ⟨by rw [bad (.inl d2)]; rfl,hg⟩
 conv=>whnf
 refine cmpB (fun d3=>?_) (fun d3=>?_)
 ·conv=>whnf
  repeat (refine SeqP.go ?_; conv=>whnf)
  exact ⟨by rw [bad (.inr (.inl d3))]; rfl,hg⟩
 conv=>whnf
 refine cmpB (fun d4=>?_) (fun d4=>?_)
 ·conv=>whnf
  repeat (refine SeqP.go ?_; conv=>whnf)
  exact ⟨by rw [bad (.inr (.inr d4))]; rfl,hg⟩
 rw [decide_eq_false (by omega),Bool.false_or] at b1
 conv=>whnf
 refine cmpB (fun c2=>?_) (fun c2=>?_)
 rotate_left
 ·rw [decide_eq_false (by omega),Bool.false_and] at b1
  conv=>whnf
  refine ⟨_,wid (by omega),?_⟩
  conv=>whnf
  exact Rnd.mk (k + 1,_) ⟨by show k + 1≤P.length; omega,by rw [hsu,b1],hg⟩ (by show P.length - (k + 1) < P.length - k; omega) ⟨rfl,rfl,rfl,trivial⟩ (Hp.Le.refl _) rfl
 rw [decide_eq_true (show 0 < k by omega),Bool.true_and] at b1
 have hk1:k - 1 < P.length:=by omega
 have hek1:=edg_get hk1
 rw [hek1] at b1
 have hcc:=hcv (k - 1) hk1
 obtain ⟨r',o',e',hd0,hd1⟩:=hcc
 obtain ⟨rfl,rfl⟩:r' = r∧o' = o:=by cases e'; exact ⟨rfl,rfl⟩
 have ka:cellsAt H r' (offAt o' (k:Int).toNat 2) 2 = some [int (P[k]).1,int (P[k]).2]:=by
  rw [offAt_eq,show o' + (k:Int).toNat * 2 = k * 2 + o' by omega]
  exact cellsAt_two (hg.cell hc0) (hg.cell hc1)
 have kd:cellsAt H r' (offAt o' ((k - 1:Nat):Int).toNat 2) 2 = some [int (P[k - 1]).1,int (P[k - 1]).2]:=by
  rw [offAt_eq,show o' + ((k - 1:Nat):Int).toNat * 2 = (k - 1) * 2 + o' by omega]
  exact cellsAt_two (hg.cell hd0) (hg.cell hd1)
 conv=>whnf
 refine ⟨rfl,⟨by omega,by omega⟩,?_⟩
 conv=>whnf
 refine ⟨_,ka,?_⟩
 conv=>whnf
 refine ⟨((k - 1:Nat):Int),wie (by omega) (by omega),?_⟩
 conv=>whnf
 refine ⟨rfl,⟨by omega,by omega⟩,?_⟩
 conv=>whnf
 refine ⟨_,kd,?_⟩
 conv=>whnf
 refine CallP.mono (less_spec P[k] P[k - 1] _) ?_
 rintro rr H2 ⟨⟨b,rfl,hb⟩,g2⟩
 cases b with
 | true =>
  rw [lessB_t (hb.1 rfl)] at b1
  conv=>whnf
  repeat (refine SeqP.go ?_; conv=>whnf)
  exact ⟨by rw [chk_ten hn (.inl (badK_of b1 hk'))]; rfl,hg.trans g2⟩
 | false =>
  rw [lessB_f (fun h=>by cases hb.2 h)] at b1
  conv=>whnf
  refine ⟨_,wid (by omega),?_⟩
  conv=>whnf
  exact Rnd.mk (k + 1,H2) ⟨by show k + 1≤P.length; omega,by rw [hsu,b1],hg.trans g2⟩ (by show P.length - (k + 1) < P.length - k; omega) ⟨rfl,rfl,rfl,trivial⟩ (Hp.Le.refl _) rfl
theorem Great_err (n:Int) (P:List (Int×Int)) (hl:P.length≤10) (hz:chk n P≠0) (v:Value) (h:Hp) (hv:PairsV h v P):CallP E 9 [int n,v] h (fun r h'=>r = .tuple ⟨[.slice none 0 0,int (chk n P)]⟩∧Grows h h'):=by
 obtain ⟨av,cap,rfl,-⟩:=id hv
 refine enter9 (by simp) ?_
 conv=>whnf
 repeat (refine SeqP.go ?_; conv=>whnf)
 refine CallP.mono (Check_spec n P hl _ h hv) ?_
 rintro r H1 ⟨rfl,g1⟩
 conv=>whnf
 repeat (refine SeqP.go ?_; conv=>whnf)
 refine cmpT hz ?_
 conv=>whnf
 repeat (refine SeqP.go ?_; conv=>whnf)
 exact ⟨rfl,g1⟩
theorem CountAcyclic_err (n:Int) (P:List (Int×Int)) (hl:P.length≤10) (hz:chk n P≠0) (v:Value) (h:Hp) (hv:PairsV h v P):CallP E 14 [int n,v] h (fun r h'=>r = .tuple ⟨[int 0,int (chk n P)]⟩∧Grows h h'):=by
 obtain ⟨av,cap,rfl,-⟩:=id hv
 refine enter14 (by simp) ?_
 conv=>whnf
 repeat (refine SeqP.go ?_; conv=>whnf)
 refine CallP.mono (Check_spec n P hl _ h hv) ?_
 rintro r H1 ⟨rfl,g1⟩
 conv=>whnf
 repeat (refine SeqP.go ?_; conv=>whnf)
 refine cmpT hz ?_
 conv=>whnf
 repeat (refine SeqP.go ?_; conv=>whnf)
 exact ⟨rfl,g1⟩
theorem CountRound_err (n:Int) (P:List (Int×Int)) (hl:P.length≤10) (hz:chk n P≠0) (v:Value) (h:Hp) (hv:PairsV h v P):CallP E 15 [int n,v] h (fun r h'=>r = .tuple ⟨[int 0,int (chk n P)]⟩∧Grows h h'):=by
 obtain ⟨av,cap,rfl,-⟩:=id hv
 refine enter15 (by simp) ?_
 conv=>whnf
 repeat (refine SeqP.go ?_; conv=>whnf)
 refine CallP.mono (Check_spec n P hl _ h hv) ?_
 rintro r H1 ⟨rfl,g1⟩
 conv=>whnf
 repeat (refine SeqP.go ?_; conv=>whnf)
 refine cmpT hz ?_
 conv=>whnf
 repeat (refine SeqP.go ?_; conv=>whnf)
 exact ⟨rfl,g1⟩
theorem Trees_err (n:Int) (P:List (Int×Int)) (hl:P.length≤10) (hz:chk n P≠0) (v:Value) (h:Hp) (hv:PairsV h v P):CallP E 16 [int n,v] h (fun r h'=>r = .tuple ⟨[.slice none 0 0,int (chk n P)]⟩∧Grows h h'):=by
 obtain ⟨av,cap,rfl,-⟩:=id hv
 refine enter16 (by simp) ?_
 conv=>whnf
 repeat (refine SeqP.go ?_; conv=>whnf)
 refine CallP.mono (Check_spec n P hl _ h hv) ?_
 rintro r H1 ⟨rfl,g1⟩
 conv=>whnf
 repeat (refine SeqP.go ?_; conv=>whnf)
 refine cmpT hz ?_
 conv=>whnf
 repeat (refine SeqP.go ?_; conv=>whnf)
 exact ⟨rfl,g1⟩
theorem Colour_err (n:Int) (P:List (Int×Int)) (hl:P.length≤10) (hz:chk n P≠0) (q:Int) (v:Value) (h:Hp) (hv:PairsV h v P):CallP E 11 [int n,v,int q] h (fun r h'=>r = .tuple ⟨[.slice none 0 0,.bool false,int (chk n P)]⟩∧Grows h h'):=by
 obtain ⟨av,cap,rfl,-⟩:=id hv
 refine enter11 (by simp) ?_
 conv=>whnf
 repeat (refine SeqP.go ?_; conv=>whnf)
 refine CallP.mono (Check_spec n P hl _ h hv) ?_
 rintro r H1 ⟨rfl,g1⟩
 conv=>whnf
 repeat (refine SeqP.go ?_; conv=>whnf)
 refine cmpT hz ?_
 conv=>whnf
 repeat (refine SeqP.go ?_; conv=>whnf)
 exact ⟨rfl,g1⟩
theorem CountSource_err (n:Int) (P:List (Int×Int)) (hl:P.length≤10) (hz:chk n P≠0) (q:Int) (v:Value) (h:Hp) (hv:PairsV h v P):CallP E 21 [int n,v,int q] h (fun r h'=>r = .tuple ⟨[int 0,int (chk n P)]⟩∧Grows h h'):=by
 obtain ⟨av,cap,rfl,-⟩:=id hv
 refine enter21 (by simp) ?_
 conv=>whnf
 repeat (refine SeqP.go ?_; conv=>whnf)
 refine CallP.mono (Check_spec n P hl _ h hv) ?_
 rintro r H1 ⟨rfl,g1⟩
 conv=>whnf
 repeat (refine SeqP.go ?_; conv=>whnf)
 refine cmpT hz ?_
 conv=>whnf
 repeat (refine SeqP.go ?_; conv=>whnf)
 exact ⟨rfl,g1⟩
theorem checkFlow_err (n:Int) (P:List (Int×Int)) (hl:P.length≤10) (hz:chk n P≠0) (q:Int) (v:Value) (h:Hp) (hv:PairsV h v P):CallP E 38 [int n,v,int q] h (fun r h'=>r = int (chk n P)∧Grows h h'):=by
 obtain ⟨av,cap,rfl,-⟩:=id hv
 refine enter38 (by simp) ?_
 conv=>whnf
 repeat (refine SeqP.go ?_; conv=>whnf)
 refine CallP.mono (Check_spec n P hl _ h hv) ?_
 rintro r H1 ⟨rfl,g1⟩
 conv=>whnf
 repeat (refine SeqP.go ?_; conv=>whnf)
 refine cmpT hz ?_
 conv=>whnf
 repeat (refine SeqP.go ?_; conv=>whnf)
 exact ⟨rfl,g1⟩
theorem Flow_err (n:Int) (P:List (Int×Int)) (hl:P.length≤10) (hz:chk n P≠0) (q:Int) (v:Value) (h:Hp) (hv:PairsV h v P):CallP E 12 [int n,v,int q] h (fun r h'=>r = .tuple ⟨[.slice none 0 0,.bool false,int (chk n P)]⟩∧Grows h h'):=by
 obtain ⟨av,cap,rfl,-⟩:=id hv
 refine enter12 (by simp) ?_
 conv=>whnf
 repeat (refine SeqP.go ?_; conv=>whnf)
 refine CallP.mono (checkFlow_err n P hl hz q _ h hv) ?_
 rintro r H1 ⟨rfl,g1⟩
 conv=>whnf
 repeat (refine SeqP.go ?_; conv=>whnf)
 refine cmpT hz ?_
 conv=>whnf
 repeat (refine SeqP.go ?_; conv=>whnf)
 exact ⟨rfl,g1⟩
theorem IsFlow_err (n:Int) (P:List (Int×Int)) (hl:P.length≤10) (hz:chk n P≠0) (q:Int) (w:Value) (v:Value) (h:Hp) (hv:PairsV h v P):CallP E 13 [int n,v,int q,w] h (fun r h'=>r = .tuple ⟨[.bool false,int (chk n P)]⟩∧Grows h h'):=by
 obtain ⟨av,cap,rfl,-⟩:=id hv
 refine enter13 (by simp) ?_
 conv=>whnf
 repeat (refine SeqP.go ?_; conv=>whnf)
 refine CallP.mono (checkFlow_err n P hl hz q _ h hv) ?_
 rintro r H1 ⟨rfl,g1⟩
 conv=>whnf
 repeat (refine SeqP.go ?_; conv=>whnf)
 refine cmpT hz ?_
 conv=>whnf
 repeat (refine SeqP.go ?_; conv=>whnf)
 exact ⟨rfl,g1⟩
theorem Value_err (n:Int) (P:List (Int×Int)) (hl:P.length≤10) (hz:chk n P≠0) (x y:Int) (v:Value) (h:Hp) (hv:PairsV h v P):CallP E 10 [int n,v,int x,int y] h (fun r h'=>r = .tuple ⟨[int 0,int (chk n P)]⟩∧Grows h h'):=by
 obtain ⟨av,cap,rfl,-⟩:=id hv
 refine enter10 (by simp) ?_
 conv=>whnf
 repeat (refine SeqP.go ?_; conv=>whnf)
 refine CallP.mono (Great_err n P hl hz _ h hv) ?_
 rintro r H1 ⟨rfl,g1⟩
 conv=>whnf
 repeat (refine SeqP.go ?_; conv=>whnf)
 refine cmpT hz ?_
 conv=>whnf
 repeat (refine SeqP.go ?_; conv=>whnf)
 exact ⟨rfl,g1⟩
theorem Colours_err (n:Int) (P:List (Int×Int)) (hl:P.length≤10) (hz:chk n P≠0) (v:Value) (h:Hp) (hv:PairsV h v P):CallP E 7 [int n,v] h (fun r h'=>r = .tuple ⟨[.slice none 0 0,int (chk n P)]⟩∧Grows h h'):=by
 obtain ⟨av,cap,rfl,-⟩:=id hv
 have g0:=Grows.lay h (.row 3 true [int n])
 refine enter7 (by simp) ?_
 conv=>whnf
 repeat (refine SeqP.go ?_; conv=>whnf)
 refine ⟨_,cellAt_row (Hp.at_lay_self _ _) rfl,?_⟩
 conv=>whnf
 refine CallP.mono (Check_spec n P hl _ _ (hv.ext g0)) ?_
 rintro r H1 ⟨rfl,g1⟩
 conv=>whnf
 repeat (refine SeqP.go ?_; conv=>whnf)
 refine cmpT hz ?_
 conv=>whnf
 repeat (refine SeqP.go ?_; conv=>whnf)
 exact ⟨rfl,g0.trans g1⟩
theorem Flows_err (n:Int) (P:List (Int×Int)) (hl:P.length≤10) (hz:chk n P≠0) (v:Value) (h:Hp) (hv:PairsV h v P):CallP E 8 [int n,v] h (fun r h'=>r = .tuple ⟨[.slice none 0 0,int (chk n P)]⟩∧Grows h h'):=by
 obtain ⟨av,cap,rfl,-⟩:=id hv
 have g0:=Grows.lay h (.row 22 true [.slice av P.length cap])
 refine enter8 (by simp) ?_
 conv=>whnf
 repeat (refine SeqP.go ?_; conv=>whnf)
 refine ⟨_,cellAt_row (Hp.at_lay_self _ _) rfl,?_⟩
 conv=>whnf
 refine CallP.mono (Check_spec n P hl _ _ (hv.ext g0)) ?_
 rintro r H1 ⟨rfl,g1⟩
 conv=>whnf
 repeat (refine SeqP.go ?_; conv=>whnf)
 refine cmpT hz ?_
 conv=>whnf
 repeat (refine SeqP.go ?_; conv=>whnf)
 exact ⟨rfl,g0.trans g1⟩
theorem CountSource_arg (n:Int) (P:List (Int×Int)) (hl:P.length≤10) (hz:chk n P = 0) (q:Int) (hq:q < 0∨n≤q) (v:Value) (h:Hp) (hv:PairsV h v P):CallP E 21 [int n,v,int q] h (fun r h'=>r = .tuple ⟨[int 0,int 1]⟩∧Grows h h'):=by
 obtain ⟨av,cap,rfl,-⟩:=id hv
 refine enter21 (by simp) ?_
 conv=>whnf
 repeat (refine SeqP.go ?_; conv=>whnf)
 refine CallP.mono (Check_spec n P hl _ h hv) ?_
 rintro r H1 ⟨rfl,g1⟩
 conv=>whnf
 repeat (refine SeqP.go ?_; conv=>whnf)
 refine cmpF (by omega) ?_
 conv=>whnf
 repeat (refine SeqP.go ?_; conv=>whnf)
 refine cmpB (fun c1=>?_) (fun c1=>?_)
 ·conv=>whnf
  repeat (refine SeqP.go ?_; conv=>whnf)
  exact ⟨rfl,g1⟩
 conv=>whnf
 refine cmpT (by omega) ?_
 conv=>whnf
 repeat (refine SeqP.go ?_; conv=>whnf)
 exact ⟨rfl,g1⟩
theorem all_spec (n:Int) (P:List (Int×Int)) (hl:P.length≤10) (v:Value) (h:Hp) (hv:PairsV h v P):CallP E 72 [gval n v] h (fun r h'=>r = int ((2 ^ P.length - 1:Nat):Int)∧Grows h h'):=by
 obtain ⟨av,cap,rfl,-⟩:=id hv
 have hp:=Nat.pow_le_pow_right (n:=2) (by omega) hl
 have hp1:=Nat.one_le_two_pow (n:=P.length)
 refine enter72 (by simp) ?_
 conv=>whnf
 refine SeqP.go ?_
 conv=>whnf
 repeat (refine SeqP.go ?_; conv=>whnf)
 refine ⟨.slice av P.length cap,cellAt_row (Hp.at_lay_self _ _) rfl,?_⟩
 conv=>whnf
 refine ⟨by omega,((2 ^ P.length:Nat):Int),shl_one (by omega),?_⟩
 conv=>whnf
 refine ⟨((2 ^ P.length - 1:Nat):Int),wie (by omega) (by omega),?_⟩
 conv=>whnf
 repeat (refine SeqP.go ?_; conv=>whnf)
 exact ⟨rfl,Grows.lay _ _⟩
theorem isSet_no (n:Int) (P:List (Int×Int)) (hl:P.length≤10) (q:Int) (hq:q < 0∨((2 ^ P.length:Nat):Int)≤q) (v:Value) (h:Hp) (hv:PairsV h v P):CallP E 74 [gval n v,int q] h (fun r h'=>r = .bool false∧Grows h h'):=by
 obtain ⟨av,cap,rfl,-⟩:=id hv
 have hp:=Nat.pow_le_pow_right (n:=2) (by omega) hl
 have hp1:=Nat.one_le_two_pow (n:=P.length)
 refine enter74 (by simp) ?_
 conv=>whnf
 repeat (refine SeqP.go ?_; conv=>whnf)
 refine cmpB (fun c1=>?_) (fun c1=>?_)
 rotate_left
 ·conv=>whnf
  repeat (refine SeqP.go ?_; conv=>whnf)
  exact ⟨rfl,Grows.lay _ _⟩
 conv=>whnf
 refine ⟨_,cellsAt_row (Hp.at_lay_self _ _) (by simp),?_⟩
 conv=>whnf
 refine CallP.mono (all_spec n P hl _ _ (hv.ext (Grows.lay _ _))) ?_
 rintro r h1 ⟨rfl,hg⟩
 conv=>whnf
 refine cmpF (by omega) ?_
 conv=>whnf
 repeat (refine SeqP.go ?_; conv=>whnf)
 exact ⟨rfl,(Grows.lay _ _).trans hg⟩
end
section
variable [Unknowns]
attribute [local irreducible] ResP sameAt flat finP
theorem withSet_err (n:Int) (P:List (Int×Int)) (hl:P.length≤10) (q:Int) (hq:chk n P≠0∨q < 0∨((2 ^ P.length:Nat):Int)≤q) (v:Value) (h:Hp) (hv:PairsV h v P) :
  CallP E 46 [int n,v,int q] h (fun r h'=>r = .tuple ⟨[noNet,int (if chk n P = 0 then 1 else chk n P)]⟩∧Grows h h'):=by
 obtain ⟨av,cap,rfl,-⟩:=id hv
 refine enter46 (by simp) ?_
 conv=>whnf
 refine SeqP.go ?_
 conv=>whnf
 generalize hH1:h.lay (.row 56 true [int 0,.slice none 0 0]) = H1
 have a1:H1.at h.next = some (.row 56 true [int 0,.slice none 0 0]):=by rw [← hH1]; exact Hp.at_lay_self _ _
 have g1:Grows h H1:=by rw [← hH1]; exact Grows.lay _ _
 have l1:=Hp.lt_of_at a1
 repeat (refine SeqP.go ?_; conv=>whnf)
 refine ⟨rfl,_,storeAt_full (vs:=[int n,.slice av P.length cap]) (Hp.at_lay_self _ _) rfl rfl rfl,?_⟩
 generalize hH2:(H1.lay (.row 56 true [int 0,.slice none 0 0])).set H1.next (.row 56 true [int n,.slice av P.length cap]) = H2
 have a2:H2.at H1.next = some (.row 56 true [int n,.slice av P.length cap]):=by rw [← hH2]; exact Hp.at_set_self _ (Hp.lt_of_at (Hp.at_lay_self _ _))
 have g2:Grows H1 H2:=by rw [← hH2]; exact (Grows.lay _ _).then_set _ (Nat.le_refl _)
 conv=>whnf
 repeat (refine SeqP.go ?_; conv=>whnf)
 refine CallP.mono (Check_spec n P hl _ H2 (hv.ext (g1.trans g2))) ?_
 rintro r H3 ⟨rfl,g3⟩
 have a13:=g3.at_ _ _ (g2.at_ _ _ a1)
 have g13:=(g1.trans g2).trans g3
 conv=>whnf
 repeat (refine SeqP.go ?_; conv=>whnf)
 refine cmpB (fun hz=>?_) (fun hz=>?_)
 ·rw [if_neg hz]
  conv=>whnf
  repeat (refine SeqP.go ?_; conv=>whnf)
  refine ⟨rfl,_,storeAt_full (vs:=[int 0,.slice none 0 0]) a13 rfl rfl rfl,?_⟩
  conv=>whnf
  repeat (refine SeqP.go ?_; conv=>whnf)
  refine leave_cell2 (r:=h.next) (o:=0) (cs:=[int 0,.slice none 0 0]) rfl rfl rfl te56 ag56 ?_ ?_
  ·rw [sz56,cellsAt_row (Hp.at_set_self _ (Hp.lt_of_at a13)) (Nat.le_refl _)]
   rfl
  ·exact ⟨rfl,g13.then_set _ (Nat.le_refl _)⟩
 have hz0:chk n P = 0:=Classical.byContradiction hz
 rw [if_pos hz0]
 conv=>whnf
 repeat (refine SeqP.go ?_; conv=>whnf)
 refine ⟨_,cellsAt_row (g3.at_ _ _ a2) (by simp),?_⟩
 conv=>whnf
 refine CallP.mono (isSet_no n P hl q (by rcases hq with h | h; exact absurd hz0 h; exact h) _ H3 (hv.ext g13)) ?_
 rintro r H4 ⟨rfl,g4⟩
 have a14:=g4.at_ _ _ a13
 conv=>whnf
 repeat (refine SeqP.go ?_; conv=>whnf)
 refine ⟨rfl,_,storeAt_full (vs:=[int 0,.slice none 0 0]) a14 rfl rfl rfl,?_⟩
 conv=>whnf
 repeat (refine SeqP.go ?_; conv=>whnf)
 refine leave_cell2 (r:=h.next) (o:=0) (cs:=[int 0,.slice none 0 0]) rfl rfl rfl te56 ag56 ?_ ?_
 ·rw [sz56,cellsAt_row (Hp.at_set_self _ (Hp.lt_of_at a14)) (Nat.le_refl _)]
  rfl
 ·exact ⟨rfl,(g13.trans g4).then_set _ (Nat.le_refl _)⟩
theorem withEdge_err (n:Int) (P:List (Int×Int)) (hl:P.length≤10) (q:Int) (hq:chk n P≠0∨q < 0∨(P.length:Int)≤q) (v:Value) (h:Hp) (hv:PairsV h v P) :
  CallP E 53 [int n,v,int q] h (fun r h'=>r = .tuple ⟨[noNet,int (if chk n P = 0 then 1 else chk n P)]⟩∧Grows h h'):=by
 obtain ⟨av,cap,rfl,-⟩:=id hv
 refine enter53 (by simp) ?_
 conv=>whnf
 refine SeqP.go ?_
 conv=>whnf
 generalize hH1:h.lay (.row 56 true [int 0,.slice none 0 0]) = H1
 have a1:H1.at h.next = some (.row 56 true [int 0,.slice none 0 0]):=by rw [← hH1]; exact Hp.at_lay_self _ _
 have g1:Grows h H1:=by rw [← hH1]; exact Grows.lay _ _
 repeat (refine SeqP.go ?_; conv=>whnf)
 refine CallP.mono (Check_spec n P hl _ H1 (hv.ext g1)) ?_
 rintro r H3 ⟨rfl,g3⟩
 have a13:=g3.at_ _ _ a1
 have g13:=g1.trans g3
 conv=>whnf
 repeat (refine SeqP.go ?_; conv=>whnf)
 refine cmpB (fun hz=>?_) (fun hz=>?_)
 ·rw [if_neg hz]
  conv=>whnf
  repeat (refine SeqP.go ?_; conv=>whnf)
  refine ⟨rfl,_,storeAt_full (vs:=[int 0,.slice none 0 0]) a13 rfl rfl rfl,?_⟩
  conv=>whnf
  repeat (refine SeqP.go ?_; conv=>whnf)
  refine leave_cell2 (r:=h.next) (o:=0) (cs:=[int 0,.slice none 0 0]) rfl rfl rfl te56 ag56 ?_ ?_
  ·rw [sz56,cellsAt_row (Hp.at_set_self _ (Hp.lt_of_at a13)) (Nat.le_refl _)]
   rfl
  ·exact ⟨rfl,g13.then_set _ (Nat.le_refl _)⟩
 have hz0:chk n P = 0:=Classical.byContradiction hz
 rw [if_pos hz0]
 conv=>whnf
 repeat (refine SeqP.go ?_; conv=>whnf)
 refine cmpB (fun c1=>?_) (fun c1=>?_)
 ·conv=>whnf
  repeat (refine SeqP.go ?_; conv=>whnf)
  refine ⟨rfl,_,storeAt_full (vs:=[int 0,.slice none 0 0]) a13 rfl rfl rfl,?_⟩
  conv=>whnf
  repeat (refine SeqP.go ?_; conv=>whnf)
  refine leave_cell2 (r:=h.next) (o:=0) (cs:=[int 0,.slice none 0 0]) rfl rfl rfl te56 ag56 ?_ ?_
  ·rw [sz56,cellsAt_row (Hp.at_set_self _ (Hp.lt_of_at a13)) (Nat.le_refl _)]
   rfl
  ·exact ⟨rfl,g13.then_set _ (Nat.le_refl _)⟩
 conv=>whnf
 refine cmpT (by omega) ?_
 conv=>whnf
 repeat (refine SeqP.go ?_; conv=>whnf)
 refine ⟨rfl,_,storeAt_full (vs:=[int 0,.slice none 0 0]) a13 rfl rfl rfl,?_⟩
 conv=>whnf
 repeat (refine SeqP.go ?_; conv=>whnf)
 refine leave_cell2 (r:=h.next) (o:=0) (cs:=[int 0,.slice none 0 0]) rfl rfl rfl te56 ag56 ?_ ?_
 ·rw [sz56,cellsAt_row (Hp.at_set_self _ (Hp.lt_of_at a13)) (Nat.le_refl _)]
  rfl
 ·exact ⟨rfl,g13.then_set _ (Nat.le_refl _)⟩
end
section
variable [Unknowns]
attribute [local irreducible] ResP sameAt flat
theorem Rank_err (n:Int) (P:List (Int×Int)) (hl:P.length≤10) (q:Int) (hq:chk n P≠0∨q < 0∨((2 ^ P.length:Nat):Int)≤q) (v:Value) (h:Hp) (hv:PairsV h v P) :
  CallP E 17 [int n,v,int q] h (fun r h'=>r = .tuple ⟨[int 0,int (if chk n P = 0 then 1 else chk n P)]⟩∧Grows h h'):=by
 obtain ⟨av,cap,rfl,-⟩:=id hv
 have hcl:=withSet_err n P hl q hq _ h hv
 have hW:(if chk n P = 0 then 1 else chk n P)≠0:=by split <;> omega
 generalize (if chk n P = 0 then 1 else chk n P) = W at hcl hW
 refine enter17 (by simp) ?_
 conv=>whnf
 repeat (refine SeqP.go ?_; conv=>whnf)
 refine CallP.mono hcl ?_
 rintro r H1 ⟨rfl,g1⟩
 conv=>whnf
 refine ⟨rfl,_,storeAt_full (vs:=[int 0,.slice none 0 0]) (Hp.at_lay_self _ _) rfl rfl rfl,?_⟩
 have g2:Grows H1 ((H1.lay (.row 56 true [int 0,.slice none 0 0])).set H1.next (.row 56 true [int 0,.slice none 0 0])):=(Grows.lay _ _).then_set _ (Nat.le_refl _)
 conv=>whnf
 repeat (refine SeqP.go ?_; conv=>whnf)
 refine cmpT hW ?_
 conv=>whnf
 repeat (refine SeqP.go ?_; conv=>whnf)
 exact ⟨rfl,g1.trans g2⟩
theorem Acyclic_err (n:Int) (P:List (Int×Int)) (hl:P.length≤10) (q:Int) (hq:chk n P≠0∨q < 0∨((2 ^ P.length:Nat):Int)≤q) (v:Value) (h:Hp) (hv:PairsV h v P) :
  CallP E 18 [int n,v,int q] h (fun r h'=>r = .tuple ⟨[.bool false,int (if chk n P = 0 then 1 else chk n P)]⟩∧Grows h h'):=by
 obtain ⟨av,cap,rfl,-⟩:=id hv
 have hcl:=withSet_err n P hl q hq _ h hv
 have hW:(if chk n P = 0 then 1 else chk n P)≠0:=by split <;> omega
 generalize (if chk n P = 0 then 1 else chk n P) = W at hcl hW
 refine enter18 (by simp) ?_
 conv=>whnf
 repeat (refine SeqP.go ?_; conv=>whnf)
 refine CallP.mono hcl ?_
 rintro r H1 ⟨rfl,g1⟩
 conv=>whnf
 refine ⟨rfl,_,storeAt_full (vs:=[int 0,.slice none 0 0]) (Hp.at_lay_self _ _) rfl rfl rfl,?_⟩
 have g2:Grows H1 ((H1.lay (.row 56 true [int 0,.slice none 0 0])).set H1.next (.row 56 true [int 0,.slice none 0 0])):=(Grows.lay _ _).then_set _ (Nat.le_refl _)
 conv=>whnf
 repeat (refine SeqP.go ?_; conv=>whnf)
 refine cmpT hW ?_
 conv=>whnf
 repeat (refine SeqP.go ?_; conv=>whnf)
 exact ⟨rfl,g1.trans g2⟩
theorem Round_err (n:Int) (P:List (Int×Int)) (hl:P.length≤10) (q:Int) (hq:chk n P≠0∨q < 0∨((2 ^ P.length:Nat):Int)≤q) (v:Value) (h:Hp) (hv:PairsV h v P) :
  CallP E 19 [int n,v,int q] h (fun r h'=>r = .tuple ⟨[.bool false,int (if chk n P = 0 then 1 else chk n P)]⟩∧Grows h h'):=by
 obtain ⟨av,cap,rfl,-⟩:=id hv
 have hcl:=withSet_err n P hl q hq _ h hv
 have hW:(if chk n P = 0 then 1 else chk n P)≠0:=by split <;> omega
 generalize (if chk n P = 0 then 1 else chk n P) = W at hcl hW
 refine enter19 (by simp) ?_
 conv=>whnf
 repeat (refine SeqP.go ?_; conv=>whnf)
 refine CallP.mono hcl ?_
 rintro r H1 ⟨rfl,g1⟩
 conv=>whnf
 refine ⟨rfl,_,storeAt_full (vs:=[int 0,.slice none 0 0]) (Hp.at_lay_self _ _) rfl rfl rfl,?_⟩
 have g2:Grows H1 ((H1.lay (.row 56 true [int 0,.slice none 0 0])).set H1.next (.row 56 true [int 0,.slice none 0 0])):=(Grows.lay _ _).then_set _ (Nat.le_refl _)
 conv=>whnf
 repeat (refine SeqP.go ?_; conv=>whnf)
 refine cmpT hW ?_
 conv=>whnf
 repeat (refine SeqP.go ?_; conv=>whnf)
 exact ⟨rfl,g1.trans g2⟩
theorem Active_err (n:Int) (P:List (Int×Int)) (hl:P.length≤10) (q:Int) (hq:chk n P≠0∨q < 0∨((2 ^ P.length:Nat):Int)≤q) (v:Value) (h:Hp) (hv:PairsV h v P) :
  CallP E 20 [int n,v,int q] h (fun r h'=>r = .tuple ⟨[int 0,int 0,int (if chk n P = 0 then 1 else chk n P)]⟩∧Grows h h'):=by
 obtain ⟨av,cap,rfl,-⟩:=id hv
 have hcl:=withSet_err n P hl q hq _ h hv
 have hW:(if chk n P = 0 then 1 else chk n P)≠0:=by split <;> omega
 generalize (if chk n P = 0 then 1 else chk n P) = W at hcl hW
 refine enter20 (by simp) ?_
 conv=>whnf
 repeat (refine SeqP.go ?_; conv=>whnf)
 refine CallP.mono hcl ?_
 rintro r H1 ⟨rfl,g1⟩
 conv=>whnf
 refine ⟨rfl,_,storeAt_full (vs:=[int 0,.slice none 0 0]) (Hp.at_lay_self _ _) rfl rfl rfl,?_⟩
 have g2:Grows H1 ((H1.lay (.row 56 true [int 0,.slice none 0 0])).set H1.next (.row 56 true [int 0,.slice none 0 0])):=(Grows.lay _ _).then_set _ (Nat.le_refl _)
 conv=>whnf
 repeat (refine SeqP.go ?_; conv=>whnf)
 refine cmpT hW ?_
 conv=>whnf
 repeat (refine SeqP.go ?_; conv=>whnf)
 exact ⟨rfl,g1.trans g2⟩
theorem Without_err (n:Int) (P:List (Int×Int)) (hl:P.length≤10) (q:Int) (hq:chk n P≠0∨q < 0∨(P.length:Int)≤q) (v:Value) (h:Hp) (hv:PairsV h v P) :
  CallP E 23 [int n,v,int q] h (fun r h'=>r = .tuple ⟨[int 0,.slice none 0 0,int (if chk n P = 0 then 1 else chk n P)]⟩∧Grows h h'):=by
 obtain ⟨av,cap,rfl,-⟩:=id hv
 have hcl:=withEdge_err n P hl q hq _ h hv
 have hW:(if chk n P = 0 then 1 else chk n P)≠0:=by split <;> omega
 generalize (if chk n P = 0 then 1 else chk n P) = W at hcl hW
 refine enter23 (by simp) ?_
 conv=>whnf
 repeat (refine SeqP.go ?_; conv=>whnf)
 refine CallP.mono hcl ?_
 rintro r H1 ⟨rfl,g1⟩
 conv=>whnf
 refine ⟨rfl,_,storeAt_full (vs:=[int 0,.slice none 0 0]) (Hp.at_lay_self _ _) rfl rfl rfl,?_⟩
 have g2:Grows H1 ((H1.lay (.row 56 true [int 0,.slice none 0 0])).set H1.next (.row 56 true [int 0,.slice none 0 0])):=(Grows.lay _ _).then_set _ (Nat.le_refl _)
 conv=>whnf
 repeat (refine SeqP.go ?_; conv=>whnf)
 refine cmpT hW ?_
 conv=>whnf
 repeat (refine SeqP.go ?_; conv=>whnf)
 exact ⟨rfl,g1.trans g2⟩
theorem Joined_err (n:Int) (P:List (Int×Int)) (hl:P.length≤10) (q:Int) (hq:chk n P≠0∨q < 0∨(P.length:Int)≤q) (v:Value) (h:Hp) (hv:PairsV h v P) :
  CallP E 24 [int n,v,int q] h (fun r h'=>r = .tuple ⟨[int 0,.slice none 0 0,int (if chk n P = 0 then 1 else chk n P)]⟩∧Grows h h'):=by
 obtain ⟨av,cap,rfl,-⟩:=id hv
 have hcl:=withEdge_err n P hl q hq _ h hv
 have hW:(if chk n P = 0 then 1 else chk n P)≠0:=by split <;> omega
 generalize (if chk n P = 0 then 1 else chk n P) = W at hcl hW
 refine enter24 (by simp) ?_
 conv=>whnf
 repeat (refine SeqP.go ?_; conv=>whnf)
 refine CallP.mono hcl ?_
 rintro r H1 ⟨rfl,g1⟩
 conv=>whnf
 refine ⟨rfl,_,storeAt_full (vs:=[int 0,.slice none 0 0]) (Hp.at_lay_self _ _) rfl rfl rfl,?_⟩
 have g2:Grows H1 ((H1.lay (.row 56 true [int 0,.slice none 0 0])).set H1.next (.row 56 true [int 0,.slice none 0 0])):=(Grows.lay _ _).then_set _ (Nat.le_refl _)
 conv=>whnf
 repeat (refine SeqP.go ?_; conv=>whnf)
 refine cmpT hW ?_
 conv=>whnf
 repeat (refine SeqP.go ?_; conv=>whnf)
 exact ⟨rfl,g1.trans g2⟩
end
end Go.Proofs.YthgjnkdealdmoaaGreat
namespace Go.Proofs.YthgjnkdealdmoaaGreat
open Go.Rx Go.RowKit
theorem wqOps_app {E:Env}:∀ (l m:List G) (φ:Rx.Frame) (h:Hp) (Q:Rx.Frame→Hp→Prop),wqOps E (l ++ m) φ h Q = wqOps E l φ h fun φ h=>wqOps E m φ h Q
 | [],m,φ,h,Q=>rfl
 | ⟨d,op,g⟩ :: l,m,φ,h,Q=>by
  have ih:=wqOps_app (E:=E) l m
  show wqOps E (⟨d,op,g⟩ :: (l ++ m)) φ h Q = _
  rw [wqOps_cons,wqOps_cons]
  simp only [ih]
theorem SeqP.splitN {E:Env} [TyOk E] {z:Nat} {rd:Option Nat} {b:C} {l:List G} {φ:Rx.Frame} {h:Hp} {m:List Nat} {Q:Pq} (n:Nat)
  (k:SeqP z rd (.ops (l.take n)) (.seq (.ops (l.drop n)) b) (wq E z rd (.ops (l.take n))) (wq E z rd (.seq (.ops (l.drop n)) b)) φ h m Q):SeqP z rd (.ops l) b (wq E z rd (.ops l)) (wq E z rd b) φ h m Q:=by
 refine SeqP.mk ?_
 show wqOps E l φ h (fun φ h=>wq E z rd b φ h m Q)
 rw [show l = l.take n ++ l.drop n from (List.take_append_drop n l).symm,wqOps_app]
 have h1:=k.out
 have h2:=wq_mono (Q':=seqQ Q fun φ h m=>wqOps E (l.drop n) φ h fun φ h=>wq E z rd b φ h m Q) (fun e φ' h' m' hq=>?_) h1
 ·exact h2
 ·cases e with
  | normal=>exact SeqP.out hq
  | _=>exact hq
def wnt (n:Int) (P:List (Int×Int)):Int:=if chk n P = 0 then 1 else chk n P
attribute [local irreducible] E idxN cellAt cellsAt storeAt callable helems hmoved lookIn findKey keyOk hentries Hp.at Hp.set Hp.lay arBits hupdated setAt CallP YieldP BoolOf IsWrap Rnd LoopP AppP CutP Int.tmod Int.tdiv Int.fdiv
section
variable [Unknowns]
attribute [local irreducible] ResP sameAt flat
theorem CountSource_all (n:Int) (P:List (Int×Int)) (hl:P.length≤10) (q:Int) (hq:chk n P≠0∨q < 0∨n≤q) (v:Value) (h:Hp) (hv:PairsV h v P):CallP E 21 [int n,v,int q] h (fun r h'=>r = .tuple ⟨[int 0,int (wnt n P)]⟩∧Grows h h'):=by
 unfold wnt
 by_cases hz:chk n P = 0
 ·rw [if_pos hz]
  exact CountSource_arg n P hl hz q (by rcases hq with h | h; exact absurd hz h; exact h) v h hv
 ·rw [if_neg hz]
  exact CountSource_err n P hl hz q v h hv
theorem checks_law (n x:Int) (L:List (Int×Int)) (hL:L.length < 9223372036854775808) (v:Value) (h:Hp) (hv:LentV h v L.length (flat L)) :
  CallP E 3 [int n,v,int x] h (fun r _=>r = .bool true):=by
 have hpv0:=hv.pairs
 obtain ⟨av0,cap0,rfl,-⟩:=hpv0
 refine enter3 (by simp) ?_
 conv=>whnf
 refine SeqP.go ?_
 conv=>whnf
 refine SeqP.cut (α:=Value×Hp) (fun s=>[(7,s.1),(0,int n),(2,int x)]) (fun s H=>H = s.2∧PairsV s.2 s.1 (L.take 10)) ?_ ?_
 ·conv=>whnf
  refine CallP.mono (own_spec _ L h hv hL) ?_
  rintro w H1 ⟨hb,g1⟩
  have hp:=hb.pairs
  conv=>whnf
  exact ⟨(w,H1),⟨rfl,rfl,rfl,trivial⟩,⟨rfl,hp⟩,rfl⟩
 rintro ⟨w,_⟩ φ H1 ⟨rfl,hpv⟩
 dsimp only at hpv ⊢
 have hexP:∃ P,L.take 10 = P∧P.length≤10:=⟨_,rfl,by rw [List.length_take]; omega⟩
 obtain ⟨P,hPe,hl⟩:=hexP
 rw [hPe] at hpv
 have hkn:∃ a c,w = .slice a P.length c:=by
  obtain ⟨a,c,e,-⟩:=hpv
  exact ⟨a,c,e⟩
 obtain ⟨av,cap,rfl⟩:=hkn
 have hp2:=Nat.pow_le_pow_right (n:=2) (by omega) hl
 have hp1:=Nat.one_le_two_pow (n:=P.length)
 have hvals:=chk_vals n P
 conv=>whnf
 refine SeqP.cut (α:=Hp) (fun _=>[(8,int (chk n P)),(7,.slice av P.length cap),(0,int n),(2,int x)]) (fun s H=>H = s∧Grows H1 s) ?_ ?_
 ·conv=>whnf
  refine CallP.mono (RCheck_spec n P hl _ H1 hpv) ?_
  rintro r H2 ⟨rfl,g2⟩
  conv=>whnf
  exact ⟨H2,⟨rfl,rfl,rfl,rfl,trivial⟩,⟨rfl,g2⟩,rfl⟩
 rintro _ φ H2 ⟨rfl,g2⟩
 conv=>whnf
 refine SeqP.cut (α:=Hp) (fun _=>[(8,int (chk n P)),(7,.slice av P.length cap),(0,int n),(2,int x)]) (fun s H=>H = s∧Grows H1 s) ?_ ?_
 ·conv=>whnf
  refine SeqP.go ?_
  conv=>whnf
  refine CallP.mono (Check_spec n P hl _ H2 (hpv.ext g2)) ?_
  rintro r H3 ⟨rfl,g3⟩
  conv=>whnf
  refine cmpF (by omega) ?_
  conv=>whnf
  exact ⟨H3,⟨rfl,rfl,rfl,rfl,trivial⟩,⟨rfl,g2.trans g3⟩,rfl⟩
 clear g2
 rintro _ φ H2 ⟨rfl,g2⟩
 have hW1:chk n P≠0→wnt n P = chk n P:=fun h=>by unfold wnt; rw [if_neg h]
 have hW0:chk n P = 0→wnt n P = 1:=fun h=>by unfold wnt; rw [if_pos h]
 conv=>whnf
 refine SeqP.cut (α:=Hp) (fun _=>[(8,int (wnt n P)),(7,.slice av P.length cap),(0,int n),(2,int x)]) (fun s H=>H = s∧Grows H1 s) ?_ ?_
 ·conv=>whnf
  refine SeqP.go ?_
  conv=>whnf
  refine cmpB (fun hz=>?_) (fun hz=>?_)
  rotate_left
  ·have hz0:chk n P = 0:=Classical.byContradiction hz
   conv=>whnf
   exact ⟨H2,⟨by rw [hW0 hz0]; rfl,rfl,rfl,rfl,trivial⟩,⟨rfl,g2⟩,rfl⟩
  rw [hW1 hz]
  conv=>whnf
  refine SeqP.cut (α:=Hp) (fun _=>[(8,int (chk n P)),(7,.slice av P.length cap),(0,int n),(2,int x),(9,.slice none 0 0),(10,int (chk n P))]) (fun s H=>H = s∧Grows H1 s) ?_ ?_
  ·conv=>whnf
   refine CallP.mono (Colours_err n P hl hz _ H2 (hpv.ext g2)) ?_
   rintro r H3 ⟨rfl,g3⟩
   conv=>whnf
   exact ⟨H3,⟨rfl,rfl,rfl,rfl,rfl,rfl,trivial⟩,⟨rfl,g2.trans g3⟩,rfl⟩
  clear g2
  rintro _ φ H2 ⟨rfl,g2⟩
  conv=>whnf
  refine SeqP.cut (α:=Hp) (fun _=>[(8,int (chk n P)),(7,.slice av P.length cap),(0,int n),(2,int x),(9,.slice none 0 0),(10,int (chk n P)),(11,.slice none 0 0),(12,int (chk n P))]) (fun s H=>H = s∧Grows H1 s) ?_ ?_
  ·conv=>whnf
   refine CallP.mono (Flows_err n P hl hz _ H2 (hpv.ext g2)) ?_
   rintro r H3 ⟨rfl,g3⟩
   conv=>whnf
   exact ⟨H3,⟨rfl,rfl,rfl,rfl,rfl,rfl,rfl,rfl,trivial⟩,⟨rfl,g2.trans g3⟩,rfl⟩
  clear g2
  rintro _ φ H2 ⟨rfl,g2⟩
  conv=>whnf
  refine SeqP.cut (α:=Hp) (fun _=>[(8,int (chk n P)),(7,.slice av P.length cap),(0,int n),(2,int x),(9,.slice none 0 0),(10,int (chk n P)),(11,.slice none 0 0),(12,int (chk n P)),(13,.slice none 0 0),(14,int (chk n P))]) (fun s H=>H = s∧Grows H1 s) ?_ ?_
  ·conv=>whnf
   refine CallP.mono (Great_err n P hl hz _ H2 (hpv.ext g2)) ?_
   rintro r H3 ⟨rfl,g3⟩
   conv=>whnf
   exact ⟨H3,⟨rfl,rfl,rfl,rfl,rfl,rfl,rfl,rfl,rfl,rfl,trivial⟩,⟨rfl,g2.trans g3⟩,rfl⟩
  clear g2
  rintro _ φ H2 ⟨rfl,g2⟩
  conv=>whnf
  refine SeqP.cut (α:=Hp) (fun _=>[(8,int (chk n P)),(7,.slice av P.length cap),(0,int n),(2,int x),(9,.slice none 0 0),(10,int (chk n P)),(11,.slice none 0 0),(12,int (chk n P)),(13,.slice none 0 0),(14,int (chk n P)),(15,int 0),(16,int (chk n P))]) (fun s H=>H = s∧Grows H1 s) ?_ ?_
  ·conv=>whnf
   refine CallP.mono (Value_err n P hl hz 99 0 _ H2 (hpv.ext g2)) ?_
   rintro r H3 ⟨rfl,g3⟩
   conv=>whnf
   exact ⟨H3,⟨rfl,rfl,rfl,rfl,rfl,rfl,rfl,rfl,rfl,rfl,rfl,rfl,trivial⟩,⟨rfl,g2.trans g3⟩,rfl⟩
  clear g2
  rintro _ φ H2 ⟨rfl,g2⟩
  conv=>whnf
  refine SeqP.cut (α:=Hp) (fun _=>[(8,int (chk n P)),(7,.slice av P.length cap),(0,int n),(2,int x),(9,.slice none 0 0),(10,int (chk n P)),(11,.slice none 0 0),(12,int (chk n P)),(13,.slice none 0 0),(14,int (chk n P)),(15,int 0),(16,int (chk n P)),(17,.slice none 0 0),(18,.bool false),(19,int (chk n P))]) (fun s H=>H = s∧Grows H1 s) ?_ ?_
  ·conv=>whnf
   refine CallP.mono (Colour_err n P hl hz (-1) _ H2 (hpv.ext g2)) ?_
   rintro r H3 ⟨rfl,g3⟩
   conv=>whnf
   exact ⟨H3,⟨rfl,rfl,rfl,rfl,rfl,rfl,rfl,rfl,rfl,rfl,rfl,rfl,rfl,rfl,rfl,trivial⟩,⟨rfl,g2.trans g3⟩,rfl⟩
  clear g2
  rintro _ φ H2 ⟨rfl,g2⟩
  conv=>whnf
  refine SeqP.cut (α:=Hp) (fun _=>[(8,int (chk n P)),(7,.slice av P.length cap),(0,int n),(2,int x),(9,.slice none 0 0),(10,int (chk n P)),(11,.slice none 0 0),(12,int (chk n P)),(13,.slice none 0 0),(14,int (chk n P)),(15,int 0),(16,int (chk n P)),(17,.slice none 0 0),(18,.bool false),(19,int (chk n P)),(20,.slice none 0 0),(21,.bool false),(22,int (chk n P))]) (fun s H=>H = s∧Grows H1 s) ?_ ?_
  ·conv=>whnf
   refine CallP.mono (Flow_err n P hl hz 0 _ H2 (hpv.ext g2)) ?_
   rintro r H3 ⟨rfl,g3⟩
   conv=>whnf
   exact ⟨H3,⟨rfl,rfl,rfl,rfl,rfl,rfl,rfl,rfl,rfl,rfl,rfl,rfl,rfl,rfl,rfl,rfl,rfl,rfl,trivial⟩,⟨rfl,g2.trans g3⟩,rfl⟩
  clear g2
  rintro _ φ H2 ⟨rfl,g2⟩
  conv=>whnf
  refine SeqP.cut (α:=Hp) (fun _=>[(8,int (chk n P)),(7,.slice av P.length cap),(0,int n),(2,int x),(9,.slice none 0 0),(10,int (chk n P)),(11,.slice none 0 0),(12,int (chk n P)),(13,.slice none 0 0),(14,int (chk n P)),(15,int 0),(16,int (chk n P)),(17,.slice none 0 0),(18,.bool false),(19,int (chk n P)),(20,.slice none 0 0),(21,.bool false),(22,int (chk n P)),(23,.bool false),(24,int (chk n P))]) (fun s H=>H = s∧Grows H1 s) ?_ ?_
  ·conv=>whnf
   refine CallP.mono (IsFlow_err n P hl hz 0 (.slice none 0 0) _ H2 (hpv.ext g2)) ?_
   rintro r H3 ⟨rfl,g3⟩
   conv=>whnf
   exact ⟨H3,⟨rfl,rfl,rfl,rfl,rfl,rfl,rfl,rfl,rfl,rfl,rfl,rfl,rfl,rfl,rfl,rfl,rfl,rfl,rfl,rfl,trivial⟩,⟨rfl,g2.trans g3⟩,rfl⟩
  clear g2
  rintro _ φ H2 ⟨rfl,g2⟩
  conv=>whnf
  refine SeqP.cut (α:=Hp) (fun _=>[(8,int (chk n P)),(7,.slice av P.length cap),(0,int n),(2,int x),(9,.slice none 0 0),(10,int (chk n P)),(11,.slice none 0 0),(12,int (chk n P)),(13,.slice none 0 0),(14,int (chk n P)),(15,int 0),(16,int (chk n P)),(17,.slice none 0 0),(18,.bool false),(19,int (chk n P)),(20,.slice none 0 0),(21,.bool false),(22,int (chk n P)),(23,.bool false),(24,int (chk n P)),(25,int 0),(26,int (chk n P))]) (fun s H=>H = s∧Grows H1 s) ?_ ?_
  ·conv=>whnf
   refine CallP.mono (CountAcyclic_err n P hl hz _ H2 (hpv.ext g2)) ?_
   rintro r H3 ⟨rfl,g3⟩
   conv=>whnf
   exact ⟨H3,⟨rfl,rfl,rfl,rfl,rfl,rfl,rfl,rfl,rfl,rfl,rfl,rfl,rfl,rfl,rfl,rfl,rfl,rfl,rfl,rfl,rfl,rfl,trivial⟩,⟨rfl,g2.trans g3⟩,rfl⟩
  clear g2
  rintro _ φ H2 ⟨rfl,g2⟩
  conv=>whnf
  refine SeqP.cut (α:=Hp) (fun _=>[(8,int (chk n P)),(7,.slice av P.length cap),(0,int n),(2,int x),(9,.slice none 0 0),(10,int (chk n P)),(11,.slice none 0 0),(12,int (chk n P)),(13,.slice none 0 0),(14,int (chk n P)),(15,int 0),(16,int (chk n P)),(17,.slice none 0 0),(18,.bool false),(19,int (chk n P)),(20,.slice none 0 0),(21,.bool false),(22,int (chk n P)),(23,.bool false),(24,int (chk n P)),(25,int 0),(26,int (chk n P)),(27,int 0),(28,int (chk n P))]) (fun s H=>H = s∧Grows H1 s) ?_ ?_
  ·conv=>whnf
   refine CallP.mono (CountRound_err n P hl hz _ H2 (hpv.ext g2)) ?_
   rintro r H3 ⟨rfl,g3⟩
   conv=>whnf
   exact ⟨H3,⟨rfl,rfl,rfl,rfl,rfl,rfl,rfl,rfl,rfl,rfl,rfl,rfl,rfl,rfl,rfl,rfl,rfl,rfl,rfl,rfl,rfl,rfl,rfl,rfl,trivial⟩,⟨rfl,g2.trans g3⟩,rfl⟩
  clear g2
  rintro _ φ H2 ⟨rfl,g2⟩
  conv=>whnf
  refine SeqP.cut (α:=Hp) (fun _=>[(8,int (chk n P)),(7,.slice av P.length cap),(0,int n),(2,int x),(9,.slice none 0 0),(10,int (chk n P)),(11,.slice none 0 0),(12,int (chk n P)),(13,.slice none 0 0),(14,int (chk n P)),(15,int 0),(16,int (chk n P)),(17,.slice none 0 0),(18,.bool false),(19,int (chk n P)),(20,.slice none 0 0),(21,.bool false),(22,int (chk n P)),(23,.bool false),(24,int (chk n P)),(25,int 0),(26,int (chk n P)),(27,int 0),(28,int (chk n P)),(29,.slice none 0 0),(30,int (chk n P))]) (fun s H=>H = s∧Grows H1 s) ?_ ?_
  ·conv=>whnf
   refine CallP.mono (Trees_err n P hl hz _ H2 (hpv.ext g2)) ?_
   rintro r H3 ⟨rfl,g3⟩
   conv=>whnf
   exact ⟨H3,⟨rfl,rfl,rfl,rfl,rfl,rfl,rfl,rfl,rfl,rfl,rfl,rfl,rfl,rfl,rfl,rfl,rfl,rfl,rfl,rfl,rfl,rfl,rfl,rfl,rfl,rfl,trivial⟩,⟨rfl,g2.trans g3⟩,rfl⟩
  clear g2
  rintro _ φ H2 ⟨rfl,g2⟩
  conv=>whnf
  refine SeqP.splitN 9 ?_
  refine SeqP.cut (α:=Unit) (fun _=>[(130,.bool false),(8,int (chk n P)),(7,.slice av P.length cap),(0,int n),(2,int x),(9,.slice none 0 0),(10,int (chk n P)),(11,.slice none 0 0),(12,int (chk n P)),(13,.slice none 0 0),(14,int (chk n P)),(15,int 0),(16,int (chk n P)),(17,.slice none 0 0),(18,.bool false),(19,int (chk n P)),(20,.slice none 0 0),(21,.bool false),(22,int (chk n P)),(23,.bool false),(24,int (chk n P)),(25,int 0),(26,int (chk n P)),(27,int 0),(28,int (chk n P)),(29,.slice none 0 0),(30,int (chk n P))]) (fun _ H=>H = H2) ?_ ?_
  ·conv=>whnf
   refine cmpF (by omega) ?_
   conv=>whnf
   refine cmpF (by omega) ?_
   conv=>whnf
   exact ⟨(),⟨rfl,rfl,rfl,rfl,rfl,rfl,rfl,rfl,rfl,rfl,rfl,rfl,rfl,rfl,rfl,rfl,rfl,rfl,rfl,rfl,rfl,rfl,rfl,rfl,rfl,rfl,rfl,trivial⟩,rfl,rfl⟩
  rintro _ φ H2 rfl
  conv=>whnf
  refine SeqP.splitN 15 ?_
  refine SeqP.cut (α:=Unit) (fun _=>[(145,.bool false),(8,int (chk n P)),(7,.slice av P.length cap),(0,int n),(2,int x),(9,.slice none 0 0),(10,int (chk n P)),(11,.slice none 0 0),(12,int (chk n P)),(13,.slice none 0 0),(14,int (chk n P)),(15,int 0),(16,int (chk n P)),(17,.slice none 0 0),(18,.bool false),(19,int (chk n P)),(20,.slice none 0 0),(21,.bool false),(22,int (chk n P)),(23,.bool false),(24,int (chk n P)),(25,int 0),(26,int (chk n P)),(27,int 0),(28,int (chk n P)),(29,.slice none 0 0),(30,int (chk n P))]) (fun _ H=>H = H2) ?_ ?_
  ·conv=>whnf
   refine cmpF (by omega) ?_
   conv=>whnf
   refine cmpF (by omega) ?_
   conv=>whnf
   refine cmpF (by omega) ?_
   conv=>whnf
   exact ⟨(),⟨rfl,rfl,rfl,rfl,rfl,rfl,rfl,rfl,rfl,rfl,rfl,rfl,rfl,rfl,rfl,rfl,rfl,rfl,rfl,rfl,rfl,rfl,rfl,rfl,rfl,rfl,rfl,trivial⟩,rfl,rfl⟩
  rintro _ φ H2 rfl
  conv=>whnf
  refine SeqP.splitN 15 ?_
  refine SeqP.cut (α:=Unit) (fun _=>[(160,.bool false),(8,int (chk n P)),(7,.slice av P.length cap),(0,int n),(2,int x),(9,.slice none 0 0),(10,int (chk n P)),(11,.slice none 0 0),(12,int (chk n P)),(13,.slice none 0 0),(14,int (chk n P)),(15,int 0),(16,int (chk n P)),(17,.slice none 0 0),(18,.bool false),(19,int (chk n P)),(20,.slice none 0 0),(21,.bool false),(22,int (chk n P)),(23,.bool false),(24,int (chk n P)),(25,int 0),(26,int (chk n P)),(27,int 0),(28,int (chk n P)),(29,.slice none 0 0),(30,int (chk n P))]) (fun _ H=>H = H2) ?_ ?_
  ·conv=>whnf
   refine cmpF (by omega) ?_
   conv=>whnf
   refine cmpF (by omega) ?_
   conv=>whnf
   refine cmpF (by omega) ?_
   conv=>whnf
   exact ⟨(),⟨rfl,rfl,rfl,rfl,rfl,rfl,rfl,rfl,rfl,rfl,rfl,rfl,rfl,rfl,rfl,rfl,rfl,rfl,rfl,rfl,rfl,rfl,rfl,rfl,rfl,rfl,rfl,trivial⟩,rfl,rfl⟩
  rintro _ φ H2 rfl
  conv=>whnf
  refine SeqP.splitN 13 ?_
  refine SeqP.cut (α:=Unit) (fun _=>[(173,.bool false),(8,int (chk n P)),(7,.slice av P.length cap),(0,int n),(2,int x),(9,.slice none 0 0),(10,int (chk n P)),(11,.slice none 0 0),(12,int (chk n P)),(13,.slice none 0 0),(14,int (chk n P)),(15,int 0),(16,int (chk n P)),(17,.slice none 0 0),(18,.bool false),(19,int (chk n P)),(20,.slice none 0 0),(21,.bool false),(22,int (chk n P)),(23,.bool false),(24,int (chk n P)),(25,int 0),(26,int (chk n P)),(27,int 0),(28,int (chk n P)),(29,.slice none 0 0),(30,int (chk n P))]) (fun _ H=>H = H2) ?_ ?_
  ·conv=>whnf
   refine cmpF (by omega) ?_
   conv=>whnf
   refine cmpF (by omega) ?_
   conv=>whnf
   exact ⟨(),⟨rfl,rfl,rfl,rfl,rfl,rfl,rfl,rfl,rfl,rfl,rfl,rfl,rfl,rfl,rfl,rfl,rfl,rfl,rfl,rfl,rfl,rfl,rfl,rfl,rfl,rfl,rfl,trivial⟩,rfl,rfl⟩
  rintro _ φ H2 rfl
  conv=>whnf
  refine SeqP.splitN 10 ?_
  refine SeqP.cut (α:=Unit) (fun _=>[(183,.bool false),(8,int (chk n P)),(7,.slice av P.length cap),(0,int n),(2,int x),(9,.slice none 0 0),(10,int (chk n P)),(11,.slice none 0 0),(12,int (chk n P)),(13,.slice none 0 0),(14,int (chk n P)),(15,int 0),(16,int (chk n P)),(17,.slice none 0 0),(18,.bool false),(19,int (chk n P)),(20,.slice none 0 0),(21,.bool false),(22,int (chk n P)),(23,.bool false),(24,int (chk n P)),(25,int 0),(26,int (chk n P)),(27,int 0),(28,int (chk n P)),(29,.slice none 0 0),(30,int (chk n P))]) (fun _ H=>H = H2) ?_ ?_
  ·conv=>whnf
   refine cmpF (by omega) ?_
   conv=>whnf
   exact ⟨(),⟨rfl,rfl,rfl,rfl,rfl,rfl,rfl,rfl,rfl,rfl,rfl,rfl,rfl,rfl,rfl,rfl,rfl,rfl,rfl,rfl,rfl,rfl,rfl,rfl,rfl,rfl,rfl,trivial⟩,rfl,rfl⟩
  rintro _ φ H2 rfl
  conv=>whnf
  refine SeqP.go ?_
  conv=>whnf
  refine ⟨0,wie (by omega) (by omega),?_⟩
  conv=>whnf
  refine ⟨0,wie (by omega) (by omega),?_⟩
  conv=>whnf
  refine ⟨0,wie (by omega) (by omega),?_⟩
  conv=>whnf
  refine ⟨0,wie (by omega) (by omega),?_⟩
  conv=>whnf
  refine ⟨0,wie (by omega) (by omega),?_⟩
  conv=>whnf
  refine ⟨0,wie (by omega) (by omega),?_⟩
  conv=>whnf
  refine ⟨0,wie (by omega) (by omega),?_⟩
  conv=>whnf
  refine cmpF (by omega) ?_
  conv=>whnf
  exact ⟨H2,⟨rfl,rfl,rfl,rfl,trivial⟩,⟨rfl,g2⟩,rfl⟩
 clear g2
 rintro _ φ H2 ⟨rfl,g2⟩
 have hWv:(wnt n P = 1∧(n < 1∨n > 6∨chk n P = 0))∨(wnt n P = 10∧chk n P = 10):=by
  rcases hvals with ⟨e,h⟩ | ⟨e,h⟩ | ⟨e,h⟩
  ·exact .inl ⟨by rw [hW1 (by omega),e],by omega⟩
  ·exact .inr ⟨by rw [hW1 (by omega),e],e⟩
  ·exact .inl ⟨hW0 e,.inr (.inr e)⟩
 have hwdef:wnt n P = if chk n P = 0 then 1 else chk n P:=rfl
 generalize wnt n P = W at hW1 hW0 hWv hwdef
 conv=>whnf
 refine SeqP.cut (α:=Hp) (fun _=>[(8,int W),(7,.slice av P.length cap),(0,int n),(2,int x)]) (fun s H=>H = s∧Grows H1 s) ?_ ?_
 ·conv=>whnf
  refine SeqP.cut (α:=Bool) (fun b=>[(227,.bool b),(8,int W),(7,.slice av P.length cap),(0,int n),(2,int x)]) (fun b H=>H = H2∧(b = true→chk n P≠0∨x < 0∨((2 ^ P.length:Nat):Int)≤x)) ?_ ?_
  ·conv=>whnf
   refine cmpB (fun d1=>?_) (fun d1=>?_)
   ·have hh:chk n P≠0:=by omega
    conv=>whnf
    exact ⟨true,⟨rfl,rfl,rfl,rfl,rfl,trivial⟩,⟨rfl,fun _=>.inl hh⟩,rfl⟩
   have dW:W = 1:=Classical.byContradiction d1
   conv=>whnf
   refine cmpB (fun d2=>?_) (fun d2=>?_)
   ·have hh:chk n P≠0:=by omega
    conv=>whnf
    exact ⟨true,⟨rfl,rfl,rfl,rfl,rfl,trivial⟩,⟨rfl,fun _=>.inl hh⟩,rfl⟩
   conv=>whnf
   refine cmpB (fun d3=>?_) (fun d3=>?_)
   ·have hh:chk n P≠0:=by omega
    conv=>whnf
    exact ⟨true,⟨rfl,rfl,rfl,rfl,rfl,trivial⟩,⟨rfl,fun _=>.inl hh⟩,rfl⟩
   conv=>whnf
   refine cmpB (fun d4=>?_) (fun d4=>?_)
   ·conv=>whnf
    exact ⟨true,⟨rfl,rfl,rfl,rfl,rfl,trivial⟩,⟨rfl,fun _=>.inr (.inl d4)⟩,rfl⟩
   conv=>whnf
   refine ⟨by omega,((2 ^ P.length:Nat):Int),shl_one (by omega),?_⟩
   conv=>whnf
   refine cmpB (fun d5=>?_) (fun d5=>?_)
   ·conv=>whnf
    exact ⟨true,⟨rfl,rfl,rfl,rfl,rfl,trivial⟩,⟨rfl,fun _=>.inr (.inr d5)⟩,rfl⟩
   ·conv=>whnf
    exact ⟨false,⟨rfl,rfl,rfl,rfl,rfl,trivial⟩,⟨rfl,fun e=>by cases e⟩,rfl⟩
  rintro b φ H2 ⟨rfl,hq⟩
  cases b with
  | false =>
   conv=>whnf
   exact ⟨H2,⟨rfl,rfl,rfl,rfl,trivial⟩,⟨rfl,g2⟩,rfl⟩
  | true =>
   have hq:=hq rfl
   conv=>whnf
   refine SeqP.cut (α:=Hp) (fun _=>[(8,int W),(7,.slice av P.length cap),(0,int n),(2,int x),(31,int 0),(32,int W)]) (fun s H=>H = s∧Grows H1 s) ?_ ?_
   ·have hcl:=Rank_err n P hl x hq _ H2 (hpv.ext g2)
    rw [← hwdef] at hcl
    conv=>whnf
    refine CallP.mono hcl ?_
    rintro r H3 ⟨rfl,g3⟩
    conv=>whnf
    exact ⟨H3,⟨rfl,rfl,rfl,rfl,rfl,rfl,trivial⟩,⟨rfl,g2.trans g3⟩,rfl⟩
   clear g2
   rintro _ φ H2 ⟨rfl,g2⟩
   conv=>whnf
   refine SeqP.cut (α:=Hp) (fun _=>[(8,int W),(7,.slice av P.length cap),(0,int n),(2,int x),(31,int 0),(32,int W),(33,.bool false),(34,int W)]) (fun s H=>H = s∧Grows H1 s) ?_ ?_
   ·have hcl:=Acyclic_err n P hl x hq _ H2 (hpv.ext g2)
    rw [← hwdef] at hcl
    conv=>whnf
    refine CallP.mono hcl ?_
    rintro r H3 ⟨rfl,g3⟩
    conv=>whnf
    exact ⟨H3,⟨rfl,rfl,rfl,rfl,rfl,rfl,rfl,rfl,trivial⟩,⟨rfl,g2.trans g3⟩,rfl⟩
   clear g2
   rintro _ φ H2 ⟨rfl,g2⟩
   conv=>whnf
   refine SeqP.cut (α:=Hp) (fun _=>[(8,int W),(7,.slice av P.length cap),(0,int n),(2,int x),(31,int 0),(32,int W),(33,.bool false),(34,int W),(35,.bool false),(36,int W)]) (fun s H=>H = s∧Grows H1 s) ?_ ?_
   ·have hcl:=Round_err n P hl x hq _ H2 (hpv.ext g2)
    rw [← hwdef] at hcl
    conv=>whnf
    refine CallP.mono hcl ?_
    rintro r H3 ⟨rfl,g3⟩
    conv=>whnf
    exact ⟨H3,⟨rfl,rfl,rfl,rfl,rfl,rfl,rfl,rfl,rfl,rfl,trivial⟩,⟨rfl,g2.trans g3⟩,rfl⟩
   clear g2
   rintro _ φ H2 ⟨rfl,g2⟩
   conv=>whnf
   refine SeqP.cut (α:=Hp) (fun _=>[(8,int W),(7,.slice av P.length cap),(0,int n),(2,int x),(31,int 0),(32,int W),(33,.bool false),(34,int W),(35,.bool false),(36,int W),(37,int 0),(38,int 0),(39,int W)]) (fun s H=>H = s∧Grows H1 s) ?_ ?_
   ·have hcl:=Active_err n P hl x hq _ H2 (hpv.ext g2)
    rw [← hwdef] at hcl
    conv=>whnf
    refine CallP.mono hcl ?_
    rintro r H3 ⟨rfl,g3⟩
    conv=>whnf
    exact ⟨H3,⟨rfl,rfl,rfl,rfl,rfl,rfl,rfl,rfl,rfl,rfl,rfl,rfl,rfl,trivial⟩,⟨rfl,g2.trans g3⟩,rfl⟩
   clear g2
   rintro _ φ H2 ⟨rfl,g2⟩
   conv=>whnf
   refine SeqP.splitN 14 ?_
   refine SeqP.cut (α:=Unit) (fun _=>[(270,.bool false),(8,int W),(7,.slice av P.length cap),(0,int n),(2,int x),(31,int 0),(32,int W),(33,.bool false),(34,int W),(35,.bool false),(36,int W),(37,int 0),(38,int 0),(39,int W)]) (fun _ H=>H = H2) ?_ ?_
   ·conv=>whnf
    refine cmpF (by omega) ?_
    conv=>whnf
    refine cmpF (by omega) ?_
    conv=>whnf
    refine cmpF (by omega) ?_
    conv=>whnf
    exact ⟨(),⟨rfl,rfl,rfl,rfl,rfl,rfl,rfl,rfl,rfl,rfl,rfl,rfl,rfl,rfl,trivial⟩,rfl,rfl⟩
   rintro _ φ H2 rfl
   conv=>whnf
   refine SeqP.splitN 11 ?_
   refine SeqP.cut (α:=Unit) (fun _=>[(281,.bool false),(8,int W),(7,.slice av P.length cap),(0,int n),(2,int x),(31,int 0),(32,int W),(33,.bool false),(34,int W),(35,.bool false),(36,int W),(37,int 0),(38,int 0),(39,int W)]) (fun _ H=>H = H2) ?_ ?_
   ·conv=>whnf
    refine cmpF (by omega) ?_
    conv=>whnf
    exact ⟨(),⟨rfl,rfl,rfl,rfl,rfl,rfl,rfl,rfl,rfl,rfl,rfl,rfl,rfl,rfl,trivial⟩,rfl,rfl⟩
   rintro _ φ H2 rfl
   conv=>whnf
   refine SeqP.go ?_
   conv=>whnf
   refine ⟨0,wie (by omega) (by omega),?_⟩
   conv=>whnf
   refine ⟨0,wie (by omega) (by omega),?_⟩
   conv=>whnf
   refine cmpF (by omega) ?_
   conv=>whnf
   exact ⟨H2,⟨rfl,rfl,rfl,rfl,trivial⟩,⟨rfl,g2⟩,rfl⟩
 clear g2
 rintro _ φ H2 ⟨rfl,g2⟩
 conv=>whnf
 refine SeqP.cut (α:=Hp) (fun _=>[(8,int W),(7,.slice av P.length cap),(0,int n),(2,int x)]) (fun s H=>H = s∧Grows H1 s) ?_ ?_
 ·conv=>whnf
  refine SeqP.cut (α:=Bool×Hp) (fun s=>[(301,.bool s.1),(8,int W),(7,.slice av P.length cap),(0,int n),(2,int x)]) (fun s H=>H = s.2∧Grows H1 s.2∧(s.1 = true→chk n P≠0∨x < 0∨n≤x)) ?_ ?_
  ·conv=>whnf
   refine CallP.mono (RCheck_spec n P hl _ H2 (hpv.ext g2)) ?_
   rintro r H3 ⟨rfl,g3⟩
   conv=>whnf
   refine cmpB (fun d1=>?_) (fun d1=>?_)
   ·conv=>whnf
    exact ⟨(true,H3),⟨rfl,rfl,rfl,rfl,rfl,trivial⟩,⟨rfl,g2.trans g3,fun _=>.inl d1⟩,rfl⟩
   conv=>whnf
   refine cmpB (fun d2=>?_) (fun d2=>?_)
   ·conv=>whnf
    exact ⟨(true,H3),⟨rfl,rfl,rfl,rfl,rfl,trivial⟩,⟨rfl,g2.trans g3,fun _=>.inr (.inl d2)⟩,rfl⟩
   conv=>whnf
   refine cmpB (fun d3=>?_) (fun d3=>?_)
   ·conv=>whnf
    exact ⟨(true,H3),⟨rfl,rfl,rfl,rfl,rfl,trivial⟩,⟨rfl,g2.trans g3,fun _=>.inr (.inr d3)⟩,rfl⟩
   ·conv=>whnf
    exact ⟨(false,H3),⟨rfl,rfl,rfl,rfl,rfl,trivial⟩,⟨rfl,g2.trans g3,fun e=>by cases e⟩,rfl⟩
  clear g2
  rintro ⟨b,_⟩ φ H2 ⟨rfl,g2,hq⟩
  dsimp only at g2 hq ⊢
  cases b with
  | false =>
   conv=>whnf
   exact ⟨H2,⟨rfl,rfl,rfl,rfl,trivial⟩,⟨rfl,g2⟩,rfl⟩
  | true =>
   have hq:=hq rfl
   have hcl:=CountSource_all n P hl x hq _ H2 (hpv.ext g2)
   have hwd2:wnt n P = W:=hwdef.symm
   rw [hwd2] at hcl
   conv=>whnf
   refine SeqP.go ?_
   conv=>whnf
   refine CallP.mono hcl ?_
   rintro r H3 ⟨rfl,g3⟩
   conv=>whnf
   refine SeqP.go ?_
   conv=>whnf
   refine cmpF (by omega) ?_
   conv=>whnf
   refine cmpF (by omega) ?_
   conv=>whnf
   exact ⟨H3,⟨rfl,rfl,rfl,rfl,trivial⟩,⟨rfl,g2.trans g3⟩,rfl⟩
 clear g2
 rintro _ φ H2 ⟨rfl,g2⟩
 conv=>whnf
 refine SeqP.cut (α:=Hp) (fun _=>[(8,int W),(7,.slice av P.length cap),(0,int n),(2,int x)]) (fun s H=>H = s∧Grows H1 s∧(chk n P≠0∨x < 0∨(P.length:Int)≤x)) ?_ ?_
 ·conv=>whnf
  refine SeqP.cut (α:=Bool×Hp) (fun s=>[(329,.bool s.1),(8,int W),(7,.slice av P.length cap),(0,int n),(2,int x)]) (fun s H=>H = s.2∧Grows H1 s.2∧(s.1 = false→chk n P≠0∨x < 0∨(P.length:Int)≤x)) ?_ ?_
  ·conv=>whnf
   refine CallP.mono (RCheck_spec n P hl _ H2 (hpv.ext g2)) ?_
   rintro r H3 ⟨rfl,g3⟩
   conv=>whnf
   refine cmpB (fun d1=>?_) (fun d1=>?_)
   rotate_left
   ·conv=>whnf
    exact ⟨(false,H3),⟨rfl,rfl,rfl,rfl,rfl,trivial⟩,⟨rfl,g2.trans g3,fun _=>.inl d1⟩,rfl⟩
   conv=>whnf
   refine cmpB (fun d2=>?_) (fun d2=>?_)
   rotate_left
   ·conv=>whnf
    exact ⟨(false,H3),⟨rfl,rfl,rfl,rfl,rfl,trivial⟩,⟨rfl,g2.trans g3,fun _=>.inr (.inl (by omega))⟩,rfl⟩
   conv=>whnf
   refine cmpB (fun d3=>?_) (fun d3=>?_)
   rotate_left
   ·conv=>whnf
    exact ⟨(false,H3),⟨rfl,rfl,rfl,rfl,rfl,trivial⟩,⟨rfl,g2.trans g3,fun _=>.inr (.inr (by omega))⟩,rfl⟩
   ·conv=>whnf
    exact ⟨(true,H3),⟨rfl,rfl,rfl,rfl,rfl,trivial⟩,⟨rfl,g2.trans g3,fun e=>by cases e⟩,rfl⟩
  clear g2
  rintro ⟨b,_⟩ φ H2 ⟨rfl,g2,hq⟩
  dsimp only at g2 hq ⊢
  cases b with
  | false =>
   conv=>whnf
   exact ⟨H2,⟨rfl,rfl,rfl,rfl,trivial⟩,⟨rfl,g2,hq rfl⟩,rfl⟩
  | true =>
   conv=>whnf
   repeat (refine SeqP.go ?_; conv=>whnf)
   refine memo22 ?_
   conv=>whnf
   repeat (refine SeqP.go ?_; conv=>whnf)
   rfl
 clear g2
 rintro _ φ H2 ⟨rfl,g2,hq⟩
 conv=>whnf
 refine SeqP.cut (α:=Hp) (fun _=>[(8,int W),(7,.slice av P.length cap),(0,int n),(2,int x),(42,int 0),(43,.slice none 0 0),(44,int W)]) (fun s H=>H = s∧Grows H1 s) ?_ ?_
 ·have hcl:=Without_err n P hl x hq _ H2 (hpv.ext g2)
  rw [← hwdef] at hcl
  conv=>whnf
  refine CallP.mono hcl ?_
  rintro r H3 ⟨rfl,g3⟩
  conv=>whnf
  exact ⟨H3,⟨rfl,rfl,rfl,rfl,rfl,rfl,rfl,trivial⟩,⟨rfl,g2.trans g3⟩,rfl⟩
 clear g2
 rintro _ φ H2 ⟨rfl,g2⟩
 conv=>whnf
 refine SeqP.cut (α:=Hp) (fun _=>[(8,int W),(7,.slice av P.length cap),(0,int n),(2,int x),(42,int 0),(43,.slice none 0 0),(44,int W),(45,int 0),(46,.slice none 0 0),(47,int W)]) (fun s H=>H = s∧Grows H1 s) ?_ ?_
 ·have hcl:=Joined_err n P hl x hq _ H2 (hpv.ext g2)
  rw [← hwdef] at hcl
  conv=>whnf
  refine CallP.mono hcl ?_
  rintro r H3 ⟨rfl,g3⟩
  conv=>whnf
  exact ⟨H3,⟨rfl,rfl,rfl,rfl,rfl,rfl,rfl,rfl,rfl,rfl,trivial⟩,⟨rfl,g2.trans g3⟩,rfl⟩
 clear g2
 rintro _ φ H2 ⟨rfl,g2⟩
 conv=>whnf
 refine SeqP.go ?_
 conv=>whnf
 refine cmpT (by omega) ?_
 conv=>whnf
 refine cmpT (by omega) ?_
 conv=>whnf
 refine ⟨0,wie (by omega) (by omega),?_⟩
 conv=>whnf
 refine ⟨0,wie (by omega) (by omega),?_⟩
 conv=>whnf
 refine ⟨0,wie (by omega) (by omega),?_⟩
 conv=>whnf
 refine cmpT (by omega) ?_
 conv=>whnf
 refine memo22 ?_
 conv=>whnf
 repeat (refine SeqP.go ?_; conv=>whnf)
 rfl
theorem checks_spec (n:Int) (hn:-9223372036854775808≤n∧n < 9223372036854775808) (t:Tr) (ht:TyT Tryz.prog 22 [t]) (s:Int) (hs:-9223372036854775808≤s∧s < 9223372036854775808):∀ h vs,AllT h vs [.num n,t,.num s]→CallP E 3 vs h (fun r _=>r = .bool true):=by
 intro h vs hvs
 obtain ⟨P,rfl,hm,-⟩:=ty_pairs Tryz.underlying22 Tryz.underlying52 Tryz.underlying3 (by kernel_rfl) (by kernel_rfl) ht
 match vs,hvs with
 | [_,v,_],hvs =>
 obtain ⟨h1,h2,h3,-⟩:=hvs
 cases h1
 cases h3
 exact checks_law n s P (by have:maxLen = 4294967296∨True:=.inr trivial; unfold maxLen at hm; omega) v h h2.lentV
end
end Go.Proofs.YthgjnkdealdmoaaGreat
