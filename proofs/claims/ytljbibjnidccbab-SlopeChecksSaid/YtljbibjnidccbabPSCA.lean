/- Contracts of the functions that PSCB comes to. -/
import Derived.Test.YtljbibjnidccbabCodePSCB
import Derived.Test.YtljbibjnidccbabWx16
import Derived.Test.YtljbibjnidccbabWx18
import Derived.Test.YtljbibjnidccbabWx23
import Derived.Test.YtljbibjnidccbabWx29
import Derived.Test.YtljbibjnidccbabWx25
set_option maxRecDepth 100000
set_option maxHeartbeats 2000000
set_option linter.unusedVariables false
set_option linter.unusedSectionVars false
set_option linter.unusedSimpArgs false
namespace Go.Proofs.Ytljbibjnidccbab
open Go.Rx Go.RowKit
def lexL:List Int→List Int→Prop
 | a :: l,b :: m=>a < b∨a = b∧lexL l m
 | _,_=>False
theorem lexL_irr:∀ l:List Int,¬ lexL l l
 | [],h=>h
 | a :: l,h=>by
  rcases h with h | ⟨_,h⟩
  ·omega
  ·exact lexL_irr l h
theorem lexL_at:∀ (k:Nat) (x y:List Int) (hx:k < x.length) (hy:k < y.length),x.take k = y.take k→x[k]≠y[k]→(lexL x y↔x[k] < y[k])∧x≠y
 | 0,a :: l,b :: m,hx,hy,_,hne=>by
  have hne:a≠b:=hne
  refine ⟨⟨fun h=>?_,fun h=>.inl h⟩,fun e=>hne (by injection e)⟩
  rcases h with h | ⟨h,_⟩
  ·exact h
  ·exact absurd h hne
 | k + 1,a :: l,b :: m,hx,hy,e,hne=>by
  rw [List.take_succ_cons,List.take_succ_cons,List.cons.injEq] at e
  have ih:=lexL_at k l m (by simpa using hx) (by simpa using hy) e.2 hne
  refine ⟨⟨fun h=>?_,fun h=>.inr ⟨e.1,ih.1.2 h⟩⟩,fun e=>ih.2 (by injection e)⟩
  rcases h with h | ⟨_,h⟩
  ·have:=e.1; omega
  ·exact ih.1.1 h
attribute [local irreducible] E idxN cellAt cellsAt storeAt callable helems hmoved lookIn findKey keyOk hentries Hp.at Hp.set Hp.lay arBits hupdated setAt CallP YieldP BoolOf IsWrap Rnd LoopP AppP CutP Int.tmod Int.tdiv Int.fdiv
section
variable [Unknowns]
theorem isnan_spec (a:Int) (h:Hp):CallP E 84 [int a] h (fun r h'=>r = .bool false∧h' = h):=by
 refine enter84 (by simp) ?_
 ((conv=>whnf); repeat (refine SeqP.go ?_; conv=>whnf))
 refine cmpF (by omega) ?_
 ((conv=>whnf); repeat (refine SeqP.go ?_; conv=>whnf))
 exact ⟨rfl,rfl⟩
def cmpI (a b:Int):Int:=if a < b then -1 else if b < a then 1 else 0
theorem cmp_spec (a b:Int) (h:Hp):CallP E 74 [int a,int b] h (fun r h'=>r = int (cmpI a b)∧h' = h):=by
 refine enter74 (by simp) ?_
 ((conv=>whnf); repeat (refine SeqP.go ?_; conv=>whnf))
 refine CallP.mono (isnan_spec a h) ?_
 rintro r h1 ⟨rfl,rfl⟩
 ((conv=>whnf); repeat (refine SeqP.go ?_; conv=>whnf))
 refine CallP.mono (isnan_spec b h1) ?_
 rintro r h2 ⟨rfl,rfl⟩
 ((conv=>whnf); repeat (refine SeqP.go ?_; conv=>whnf))
 by_cases h3:a < b
 ·refine cmpT h3 ?_
  ((conv=>whnf); repeat (refine SeqP.go ?_; conv=>whnf))
  exact ⟨by unfold cmpI; rw [if_pos h3]; rfl,rfl⟩
 refine cmpF h3 ?_
 ((conv=>whnf); repeat (refine SeqP.go ?_; conv=>whnf))
 by_cases h4:b < a
 ·refine cmpT h4 ?_
  ((conv=>whnf); repeat (refine SeqP.go ?_; conv=>whnf))
  exact ⟨by unfold cmpI; rw [if_neg h3,if_pos h4]; rfl,rfl⟩
 refine cmpF h4 ?_
 ((conv=>whnf); repeat (refine SeqP.go ?_; conv=>whnf))
 exact ⟨by unfold cmpI; rw [if_neg h3,if_neg h4]; rfl,rfl⟩
theorem compare_spec (v w:Value) (x y:List Int) (hxy:y.length = x.length) (hx:x.length≤3) (h:Hp) (hv:Ints h v x) (hw:Ints h w y):CallP E 52 [v,w] h (fun r h'=>(∃ c:Int,r = int c∧(c < 0↔lexL x y)∧(c = 0↔x = y))∧h' = h):=by
 obtain ⟨av,cap,rfl,hc⟩:=id hv
 obtain ⟨aw,cap',rfl,hd⟩:=id hw
 have hexn:∃ n,x.length = n:=⟨_,rfl⟩
 obtain ⟨n,hn⟩:=hexn
 rw [hxy,hn]
 rw [hn] at hx
 refine enter52 (by simp) ?_
 ((conv=>whnf); repeat (refine SeqP.go ?_; conv=>whnf))
 refine loop_inv (α:=Nat) (fun k=>[(11,int k),(10,int n),(9,.slice av n cap),(0,.slice av n cap),(1,.slice aw n cap')]) (fun _=>h) (fun k=>k≤n∧x.take k = y.take k) (fun k=>n - k) 0 ⟨by omega,rfl⟩ ⟨rfl,rfl,rfl,rfl,rfl,trivial⟩ (Hp.Le.refl _) ?_
 rintro k φ ⟨hk,hpre⟩
 ((conv=>whnf); repeat (refine SeqP.go ?_; conv=>whnf))
 refine cmpB (fun hb=>?_) (fun hb=>?_)
 rotate_left
 ·have:k = n:=by omega
  subst this
  have hxe:x = y:=by
   rw [List.take_of_length_le (by omega),List.take_of_length_le (by omega)] at hpre
   exact hpre
  ((conv=>whnf); repeat (refine SeqP.go ?_; conv=>whnf))
  refine cmpF (by omega) ?_
  ((conv=>whnf); repeat (refine SeqP.go ?_; conv=>whnf))
  refine ⟨⟨0,rfl,?_,?_⟩,rfl⟩
  ·rw [hxe]
   exact ⟨fun h=>by omega,fun h=>absurd h (lexL_irr _)⟩
  ·exact ⟨fun _=>hxe,fun _=>rfl⟩
 have hkx:k < x.length:=by omega
 have hky:k < y.length:=by omega
 obtain ⟨r,o,sp,e,hsp,hx1⟩:=hc k hkx
 subst e
 obtain ⟨r',o',sp',e,hsp',hy1⟩:=hd k hky
 subst e
 have hat:=lexL_at k x y hkx hky hpre
 have htk:x[k] = y[k]→x.take (k + 1) = y.take (k + 1):=fun e=>by rw [List.take_succ_eq_append_getElem hkx,List.take_succ_eq_append_getElem hky,hpre,e]
 generalize x[k] = xk at hx1 hat htk
 generalize y[k] = yk at hy1 hat htk
 ((conv=>whnf); repeat (refine SeqP.go ?_; conv=>whnf))
 refine ⟨hsp,⟨by omega,by omega⟩,?_⟩
 ((conv=>whnf); repeat (refine SeqP.go ?_; conv=>whnf))
 refine ⟨_,hx1,?_⟩
 ((conv=>whnf); repeat (refine SeqP.go ?_; conv=>whnf))
 refine cmpF (by omega) ?_
 ((conv=>whnf); repeat (refine SeqP.go ?_; conv=>whnf))
 refine ⟨hsp',⟨by omega,by omega⟩,?_⟩
 ((conv=>whnf); repeat (refine SeqP.go ?_; conv=>whnf))
 refine ⟨_,hy1,?_⟩
 ((conv=>whnf); repeat (refine SeqP.go ?_; conv=>whnf))
 refine CallP.mono (cmp_spec xk yk h) ?_
 rintro rr h3 ⟨rfl,rfl⟩
 ((conv=>whnf); repeat (refine SeqP.go ?_; conv=>whnf))
 by_cases hxe:xk = yk
 ·refine cmpF (fun hn=>hn (by unfold cmpI; rw [if_neg (by omega),if_neg (by omega)])) ?_
  ((conv=>whnf); repeat (refine SeqP.go ?_; conv=>whnf))
  refine ⟨_,wid (by omega),?_⟩
  ((conv=>whnf); repeat (refine SeqP.go ?_; conv=>whnf))
  exact Rnd.mk (k + 1) ⟨by omega,htk hxe⟩ (by omega) ⟨rfl,rfl,rfl,rfl,rfl,trivial⟩ (Hp.Le.refl _) rfl
 ·have hat:=hat hxe
  refine cmpT (fun hn=>by
   unfold cmpI at hn
   split at hn
   ·omega
   ·split at hn <;> omega) ?_
  ((conv=>whnf); repeat (refine SeqP.go ?_; conv=>whnf))
  refine ⟨⟨cmpI xk yk,rfl,?_,?_⟩,rfl⟩
  ·rw [hat.1]
   unfold cmpI
   constructor
   ·intro h
    split at h
    ·omega
    ·split at h <;> omega
   ·intro h
    rw [if_pos (by omega)]
    omega
  ·constructor
   ·intro h
    unfold cmpI at h
    split at h
    ·omega
    ·split at h <;> omega
   ·intro h; exact absurd h hat.2
def NOut (n:Int):Prop:=n < -100∨n > 100
instance (n:Int):Decidable (NOut n):=by unfold NOut; infer_instance
theorem out59_spec (n:Int) (h:Hp):CallP E 59 [int n] h (fun r h'=>r = .bool (decide (NOut n))∧h' = h):=by
 refine enter59 (by simp) ?_
 ((conv=>whnf); repeat (refine SeqP.go ?_; conv=>whnf))
 refine cmpB (fun c1=>?_) (fun c1=>?_)
 ·((conv=>whnf); repeat (refine SeqP.go ?_; conv=>whnf))
  exact ⟨by rw [decide_eq_true (show NOut n from .inl c1)]; rfl,rfl⟩
 ((conv=>whnf); repeat (refine SeqP.go ?_; conv=>whnf))
 refine cmpB (fun c2=>?_) (fun c2=>?_)
 ·((conv=>whnf); repeat (refine SeqP.go ?_; conv=>whnf))
  exact ⟨by rw [decide_eq_true (show NOut n from .inr c2)]; rfl,rfl⟩
 ·((conv=>whnf); repeat (refine SeqP.go ?_; conv=>whnf))
  exact ⟨by rw [decide_eq_false (show ¬ NOut n from fun h=>h.elim c1 c2)]; rfl,rfl⟩
def isOutF:Value:=.func (.func 59) ⟨[]⟩ ⟨[]⟩
theorem index_spec (v:Value) (l:List Int) (hl:l.length≤1000) (h:Hp) (hv:Ints h v l):CallP E 73 [v,isOutF] h (fun r h'=>(∃ z:Int,r = int z∧(z ≥ 0↔∃ x ∈ l,NOut x))∧h' = h):=by
 obtain ⟨av,cap,rfl,hc⟩:=id hv
 refine enter73 (by simp) ?_
 ((conv=>whnf); repeat (refine SeqP.go ?_; conv=>whnf))
 refine loop_inv (α:=Nat) (fun k=>[(8,int k),(7,int l.length),(0,.slice av l.length cap),(1,isOutF)]) (fun _=>h) (fun k=>k≤l.length∧∀ i,(hi:i < l.length)→i < k→¬ NOut l[i]) (fun k=>l.length - k) 0 ⟨by omega,fun i _ h=>by omega⟩ ⟨rfl,rfl,rfl,rfl,trivial⟩ (Hp.Le.refl _) ?_
 rintro k φ ⟨hk,hpre⟩
 ((conv=>whnf); repeat (refine SeqP.go ?_; conv=>whnf))
 refine cmpB (fun hb=>?_) (fun hb=>?_)
 rotate_left
 ·((conv=>whnf); repeat (refine SeqP.go ?_; conv=>whnf))
  refine ⟨⟨-1,rfl,?_⟩,rfl⟩
  constructor
  ·intro h; omega
  ·rintro ⟨x,hx,ho⟩
   obtain ⟨i,hi,rfl⟩:=List.getElem_of_mem hx
   exact absurd ho (hpre i hi (by omega))
 have hkl:k < l.length:=by omega
 obtain ⟨r,o,sp,e,hsp,hx1⟩:=hc k hkl
 subst e
 ((conv=>whnf); repeat (refine SeqP.go ?_; conv=>whnf))
 refine ⟨hsp,⟨by omega,by omega⟩,?_⟩
 ((conv=>whnf); repeat (refine SeqP.go ?_; conv=>whnf))
 refine ⟨_,hx1,?_⟩
 ((conv=>whnf); repeat (refine SeqP.go ?_; conv=>whnf))
 refine ⟨can59,?_⟩
 refine CallP.mono (out59_spec l[k] h) ?_
 rintro rr h3 ⟨rfl,rfl⟩
 by_cases ho:NOut l[k]
 ·rw [decide_eq_true ho]
  ((conv=>whnf); repeat (refine SeqP.go ?_; conv=>whnf))
  exact ⟨⟨k,rfl,⟨fun _=>⟨_,List.getElem_mem hkl,ho⟩,fun _=>by omega⟩⟩,rfl⟩
 ·rw [decide_eq_false ho]
  ((conv=>whnf); repeat (refine SeqP.go ?_; conv=>whnf))
  refine ⟨_,wid (by omega),?_⟩
  ((conv=>whnf); repeat (refine SeqP.go ?_; conv=>whnf))
  refine Rnd.mk (k + 1) ⟨by omega,fun i hi hik=>?_⟩ (by omega) ⟨rfl,rfl,rfl,rfl,trivial⟩ (Hp.Le.refl _) rfl
  by_cases e:i = k
  ·subst e; exact ho
  ·exact hpre i hi (by omega)
theorem contains_spec (v:Value) (l:List Int) (hl:l.length≤1000) (h:Hp) (hv:Ints h v l):CallP E 51 [v,isOutF] h (fun r h'=>(∃ b,r = .bool b∧(b = true↔∃ x ∈ l,NOut x))∧h' = h):=by
 obtain ⟨av,cap,rfl,hc⟩:=id hv
 refine enter51 (by simp) ?_
 ((conv=>whnf); repeat (refine SeqP.go ?_; conv=>whnf))
 refine CallP.mono (index_spec _ l hl h hv) ?_
 rintro r h1 ⟨⟨z,rfl,hz⟩,rfl⟩
 ((conv=>whnf); repeat (refine SeqP.go ?_; conv=>whnf))
 refine cmpB (fun c1=>?_) (fun c1=>?_)
 ·((conv=>whnf); repeat (refine SeqP.go ?_; conv=>whnf))
  exact ⟨⟨true,rfl,⟨fun _=>hz.1 c1,fun _=>rfl⟩⟩,rfl⟩
 ·((conv=>whnf); repeat (refine SeqP.go ?_; conv=>whnf))
  exact ⟨⟨false,rfl,⟨fun h=>(by cases h),fun h=>absurd (hz.2 h) c1⟩⟩,rfl⟩
def NOk (l:List Int) (m:Int):Prop:=(l.length:Int) = m∧∀ x ∈ l,¬ NOut x
theorem list_spec (v:Value) (l:List Int) (m:Int) (hl:l.length≤1000) (h:Hp) (hv:Ints h v l):CallP E 32 [v,int m] h (fun r h'=>(r = int 0∧NOk l m∨r = int 1∧¬ NOk l m)∧h' = h):=by
 obtain ⟨av,cap,rfl,hc⟩:=id hv
 refine enter32 (by simp) ?_
 ((conv=>whnf); repeat (refine SeqP.go ?_; conv=>whnf))
 refine cmpB (fun c1=>?_) (fun c1=>?_)
 ·((conv=>whnf); repeat (refine SeqP.go ?_; conv=>whnf))
  exact ⟨.inr ⟨rfl,fun k=>c1 k.1⟩,rfl⟩
 ((conv=>whnf); repeat (refine SeqP.go ?_; conv=>whnf))
 refine CallP.mono (contains_spec _ l hl h hv) ?_
 rintro r h1 ⟨⟨b,rfl,hb⟩,rfl⟩
 cases b with
 | true =>
  ((conv=>whnf); repeat (refine SeqP.go ?_; conv=>whnf))
  obtain ⟨x,hx,ho⟩:=hb.1 rfl
  exact ⟨.inr ⟨rfl,fun k=>k.2 x hx ho⟩,rfl⟩
 | false =>
  ((conv=>whnf); repeat (refine SeqP.go ?_; conv=>whnf))
  exact ⟨.inl ⟨rfl,by omega,fun x hx ho=>by cases hb.2 ⟨x,hx,ho⟩⟩,rfl⟩
theorem Numbers_spec (v:Value) (l:List Int) (m:Int) (hl:l.length≤1000) (h:Hp) (hv:Ints h v l):CallP E 12 [v,int m] h (fun r h'=>(∃ b,r = .bool b∧(b = true↔NOk l m))∧h' = h):=by
 obtain ⟨av,cap,rfl,hc⟩:=id hv
 refine enter12 (by simp) ?_
 ((conv=>whnf); repeat (refine SeqP.go ?_; conv=>whnf))
 refine loop_inv (α:=Nat) (fun k=>[(5,int k),(0,.slice av l.length cap),(1,int m)]) (fun _=>h) (fun k=>k≤l.length∧∀ i,(hi:i < l.length)→i < k→¬ NOut l[i]) (fun k=>l.length - k) 0 ⟨by omega,fun i _ h=>by omega⟩ ⟨rfl,rfl,rfl,trivial⟩ (Hp.Le.refl _) ?_
 rintro k φ ⟨hk,hpre⟩
 ((conv=>whnf); repeat (refine SeqP.go ?_; conv=>whnf))
 refine cmpB (fun hb=>?_) (fun hb=>?_)
 rotate_left
 ·have hall:∀ x ∈ l,¬ NOut x:=fun x hx ho=>by
   obtain ⟨i,hi,rfl⟩:=List.getElem_of_mem hx
   exact absurd ho (hpre i hi (by omega))
  ((conv=>whnf); repeat (refine SeqP.go ?_; conv=>whnf))
  refine cmpB (fun c=>?_) (fun c=>?_)
  ·((conv=>whnf); repeat (refine SeqP.go ?_; conv=>whnf))
   exact ⟨⟨true,rfl,⟨fun _=>⟨c,hall⟩,fun _=>rfl⟩⟩,rfl⟩
  ·((conv=>whnf); repeat (refine SeqP.go ?_; conv=>whnf))
   exact ⟨⟨false,rfl,⟨fun h=>(by cases h),fun h=>absurd h.1 c⟩⟩,rfl⟩
 have hkl:k < l.length:=by omega
 obtain ⟨r,o,sp,e,hsp,hx1⟩:=hc k hkl
 subst e
 have bad:NOut l[k]→¬ NOk l m:=fun ho hn=>hn.2 _ (List.getElem_mem hkl) ho
 ((conv=>whnf); repeat (refine SeqP.go ?_; conv=>whnf))
 refine ⟨hsp,⟨by omega,by omega⟩,?_⟩
 ((conv=>whnf); repeat (refine SeqP.go ?_; conv=>whnf))
 refine ⟨_,hx1,?_⟩
 ((conv=>whnf); repeat (refine SeqP.go ?_; conv=>whnf))
 refine cmpB (fun c1=>?_) (fun c1=>?_)
 ·((conv=>whnf); repeat (refine SeqP.go ?_; conv=>whnf))
  exact ⟨⟨false,rfl,⟨fun h=>(by cases h),fun h=>absurd h (bad (.inl c1))⟩⟩,rfl⟩
 ((conv=>whnf); repeat (refine SeqP.go ?_; conv=>whnf))
 refine ⟨hsp,⟨by omega,by omega⟩,?_⟩
 ((conv=>whnf); repeat (refine SeqP.go ?_; conv=>whnf))
 refine ⟨_,hx1,?_⟩
 ((conv=>whnf); repeat (refine SeqP.go ?_; conv=>whnf))
 refine cmpB (fun c2=>?_) (fun c2=>?_)
 ·((conv=>whnf); repeat (refine SeqP.go ?_; conv=>whnf))
  exact ⟨⟨false,rfl,⟨fun h=>(by cases h),fun h=>absurd h (bad (.inr c2))⟩⟩,rfl⟩
 ((conv=>whnf); repeat (refine SeqP.go ?_; conv=>whnf))
 refine ⟨_,wid (by omega),?_⟩
 ((conv=>whnf); repeat (refine SeqP.go ?_; conv=>whnf))
 refine Rnd.mk (k + 1) ⟨by omega,fun i hi hik=>?_⟩ (by omega) ⟨rfl,rfl,rfl,trivial⟩ (Hp.Le.refl _) rfl
 by_cases e:i = k
 ·subst e
  rintro (ho | ho) <;> omega
 ·exact hpre i hi (by omega)
end
end Go.Proofs.Ytljbibjnidccbab
namespace Go.Proofs.Ytljbibjnidccbab
open Go.Rx Go.RowKit
def PLess (x y:Int×Int):Prop:=x.1 < y.1∨x.1 = y.1∧x.2 < y.2
theorem lex_pair (x y:Int×Int):lexL [x.1,x.2] [y.1,y.2]↔PLess x y:=by
 unfold PLess
 simp only [lexL,and_false,or_false]
theorem PLess.trans {x y z:Int×Int} (h:PLess x y) (k:PLess y z):PLess x z:=by
 unfold PLess at *; omega
theorem PLess.irr {x:Int×Int} (h:PLess x x):False:=by
 unfold PLess at h; omega
def SortP (P:List (Int×Int)):Prop:=∀ i j,(hi:i < P.length)→(hj:j < P.length)→i < j→PLess P[i] P[j]
theorem SortP.of {P:List (Int×Int)} (h:∀ i,(hi:i < P.length)→0 < i→PLess (P[i - 1]'(by omega)) P[i]):SortP P:=by
 intro i j hi hj hij
 obtain ⟨d,rfl⟩:∃ d,j = i + 1 + d:=⟨j - (i + 1),by omega⟩
 induction d with
 | zero=>exact h (i + 1) hj (by omega)
 | succ d ih=>exact (ih (by omega) (by omega)).trans (h (i + 1 + (d + 1)) hj (by omega))
def TripV (h:Hp) (v:Value) (T:List (Int×Int×Int)):Prop :=
 ∃ a c,v = .slice a T.length c∧∀ k,(hk:k < T.length)→∃ r o,a = some ⟨r,o,none⟩∧cellAt h r (k * 3 + o) = some (int (T[k]).1)∧cellAt h r (k * 3 + o + 1) = some (int (T[k]).2.1)∧cellAt h r (k * 3 + o + 2) = some (int (T[k]).2.2)
theorem TripV.ext {h h':Hp} {v:Value} {T:List (Int×Int×Int)} (g:Grows h h') (k:TripV h v T):TripV h' v T:=by
 obtain ⟨a,c,e,hc⟩:=k
 exact ⟨a,c,e,fun j hj=>let ⟨r,o,e1,h1,h2,h3⟩:=hc j hj; ⟨r,o,e1,g.cell h1,g.cell h2,g.cell h3⟩⟩
theorem ints_two {h:Hp} {r o:Nat} {a b:Int} (h0:cellAt h r o = some (int a)) (h1:cellAt h r (o + 1) = some (int b)) {c:Nat}:Ints h (.slice (some ⟨r,o,some 1⟩) 2 c) [a,b]:=by
 refine ⟨_,_,rfl,fun k hk=>⟨r,o,some 1,rfl,rfl,?_⟩⟩
 have:k = 0∨k = 1:=by simp at hk; omega
 rcases this with rfl | rfl
 ·rw [Nat.zero_add]; exact h0
 ·rw [Nat.add_comm]; exact h1
theorem ints_three {h:Hp} {r o:Nat} {a b d:Int} (h0:cellAt h r o = some (int a)) (h1:cellAt h r (o + 1) = some (int b)) (h2:cellAt h r (o + 2) = some (int d)) {c:Nat}:Ints h (.slice (some ⟨r,o,some 1⟩) 3 c) [a,b,d]:=by
 refine ⟨_,_,rfl,fun k hk=>⟨r,o,some 1,rfl,rfl,?_⟩⟩
 have:k = 0∨k = 1∨k = 2:=by simp at hk; omega
 rcases this with rfl | rfl | rfl
 ·rw [Nat.zero_add]; exact h0
 ·rw [Nat.add_comm]; exact h1
 ·rw [Nat.add_comm]; exact h2
theorem store2 {H:Hp} {e:Nat} {a b:Value} {c d:Int}:storeAt (H.lay (.row e true [a,b])) H.next 0 [int c,int d] = some (H.lay (.row e true [int c,int d])):=by
 unfold storeAt
 rw [Hp.at_lay_self]
 dsimp only
 rw [if_pos ⟨by simp,rfl⟩,Hp.set_lay_self]
 rfl
theorem store3 {H:Hp} {e:Nat} {a b x:Value} {c d y:Int}:storeAt (H.lay (.row e true [a,b,x])) H.next 0 [int c,int d,int y] = some (H.lay (.row e true [int c,int d,int y])):=by
 unfold storeAt
 rw [Hp.at_lay_self]
 dsimp only
 rw [if_pos ⟨by simp,rfl⟩,Hp.set_lay_self]
 rfl
theorem cellsAt_three {h:Hp} {r o:Nat} {v w x:Value} (e1:cellAt h r o = some v) (e2:cellAt h r (o + 1) = some w) (e3:cellAt h r (o + 2) = some x):cellsAt h r o 3 = some [v,w,x]:=by
 have k:∀ cs:List Value,cs[o]? = some v→cs[o + 1]? = some w→cs[o + 2]? = some x→Go.Rx.cellsIn o 3 cs = some [v,w,x]:=by
  intro cs h1 h2 h3
  obtain ⟨l1,g1⟩:=List.getElem?_eq_some_iff.1 h1
  obtain ⟨l2,g2⟩:=List.getElem?_eq_some_iff.1 h2
  obtain ⟨l3,g3⟩:=List.getElem?_eq_some_iff.1 h3
  unfold Go.Rx.cellsIn
  rw [if_pos (by omega),List.drop_eq_getElem_cons l1,List.take_succ_cons,List.drop_eq_getElem_cons l2,List.take_succ_cons,List.drop_eq_getElem_cons l3,List.take_succ_cons,List.take_zero,g1,g2,g3]
 unfold cellAt at e1 e2 e3
 unfold cellsAt
 split at e1
 ·rename_i e x cs hr; rw [hr] at e2 e3; exact k _ e1 e2 e3
 ·rename_i cs hr; rw [hr] at e2 e3; exact k _ e1 e2 e3
 ·cases e1
def pv (x:Int×Int):Value:=.agg ⟨[int x.1,int x.2]⟩
def cmpF76:Value:=.func (.func 76) ⟨[]⟩ ⟨[]⟩
attribute [local irreducible] E idxN cellAt cellsAt storeAt callable helems hmoved lookIn findKey keyOk hentries Hp.at Hp.set Hp.lay arBits hupdated setAt CallP YieldP BoolOf IsWrap Rnd LoopP AppP CutP Int.tmod Int.tdiv Int.fdiv
section
variable [Unknowns]
attribute [local irreducible] ResP sameAt
theorem edge76_spec (x y:Int×Int) (h:Hp):CallP E 76 [pv x,pv y] h (fun r h'=>(∃ c:Int,r = int c∧(c < 0↔PLess x y)∧(c = 0↔x = y))∧Grows h h'):=by
 unfold pv
 refine enter76 (by simp) ?_
 conv=>whnf
 repeat (refine SeqP.go ?_; conv=>whnf)
 have a1:((h.lay (.row 57 true [int x.1,int x.2])).lay (.row 57 true [int y.1,int y.2])).at h.next = some (.row 57 true [int x.1,int x.2]):=Hp.at_lay_old _ (Hp.at_lay_self _ _)
 have a2:((h.lay (.row 57 true [int x.1,int x.2])).lay (.row 57 true [int y.1,int y.2])).at (h.lay (.row 57 true [int x.1,int x.2])).next = some (.row 57 true [int y.1,int y.2]):=Hp.at_lay_self _ _
 refine resP_cutA ?_ (by omega)
 conv=>whnf
 refine resP_cutA ?_ (by omega)
 conv=>whnf
 refine CallP.mono (compare_spec _ _ [x.1,x.2] [y.1,y.2] rfl (by simp) _ (ints_two (cellAt_row a1 rfl) (cellAt_row a1 rfl)) (ints_two (cellAt_row a2 rfl) (cellAt_row a2 rfl))) ?_
 rintro r h2 ⟨⟨c,rfl,hc1,hc2⟩,rfl⟩
 conv=>whnf
 refine ⟨⟨c,rfl,by rw [hc1,lex_pair],hc2.trans ?_⟩,(Grows.lay _ _).then_lay _⟩
 obtain ⟨x1,x2⟩:=x
 obtain ⟨y1,y2⟩:=y
 simp
end
end Go.Proofs.Ytljbibjnidccbab
namespace Go.Proofs.Ytljbibjnidccbab
open Go.Rx Go.RowKit
theorem u64_id {n:Int} (h:0≤n∧n < 18446744073709551616):IsWrap .u64 n n:=by
 unfold IsWrap wrapI
 show n = (IntKind.wrap .u64 n)
 unfold IntKind.wrap
 simp [IntKind.bits,IntKind.signed]
 omega
theorem shr1 {a:Nat}:((a:Nat):Int).fdiv (2 ^ (min (1:Int).toNat 64)) = ((a / 2:Nat):Int):=by
 have:min (1:Int).toNat 64 = 1:=rfl
 rw [this,Int.fdiv_eq_ediv_of_nonneg _ (by decide)]
 omega
attribute [local irreducible] E idxN cellAt cellsAt storeAt callable helems hmoved lookIn findKey keyOk hentries Hp.at Hp.set Hp.lay arBits hupdated setAt CallP YieldP BoolOf IsWrap Rnd LoopP AppP CutP Int.tmod Int.tdiv Int.fdiv
section
variable [Unknowns]
attribute [local irreducible] ResP sameAt
theorem bin_spec (v:Value) (P:List (Int×Int)) (t:Int×Int) (hl:P.length≤20) (hs:SortP P) (h:Hp) (hv:PairsV h v P) :
  CallP E 75 [v,pv t,cmpF76] h (fun r h'=>(∃ (z:Nat) (b:Bool),r = .tuple ⟨[int z,.bool b]⟩∧(b = true↔t ∈ P)∧(b = true→z < P.length))∧Grows h h'):=by
 obtain ⟨av,cap,rfl,hcv⟩:=id hv
 have hpv:pv t = .agg ⟨[int t.1,int t.2]⟩:=rfl
 rw [hpv]
 have hex1:∃ H1,h.lay (.row 57 true [int t.1,int t.2]) = H1:=⟨_,rfl⟩
 obtain ⟨H1,hH1⟩:=hex1
 have aT:H1.at h.next = some (.row 57 true [int t.1,int t.2]):=by rw [← hH1]; exact Hp.at_lay_self _ _
 have gT:Grows h H1:=by rw [← hH1]; exact Grows.lay _ _
 refine enter75 (by simp) ?_
 conv=>whnf
 refine SeqP.cut (α:=Unit) (fun _=>[(4,ptr h.next 0),(0,.slice av P.length cap),(2,cmpF76)]) (fun _ H=>H = H1) ?_ ?_
 ·conv=>whnf
  exact ⟨(),⟨rfl,rfl,rfl,trivial⟩,hH1,rfl⟩
 rintro _ φ H1 rfl
 generalize h.next = T at aT
 conv=>whnf
 repeat (refine SeqP.go ?_; conv=>whnf)
 refine loop_inv (α:=Nat×Nat×Hp) (fun s=>[(9,int s.1),(10,int s.2.1),(8,int P.length),(4,ptr T 0),(0,.slice av P.length cap),(2,cmpF76)]) (fun s=>s.2.2) (fun s=>s.1≤s.2.1∧s.2.1≤P.length∧(∀ q,(hq:q < P.length)→q < s.1→PLess P[q] t)∧(∀ q,(hq:q < P.length)→s.2.1≤q→¬ PLess P[q] t)∧Grows H1 s.2.2) (fun s=>s.2.1 - s.1) (0,P.length,H1) ⟨Nat.zero_le _,Nat.le_refl _,fun q _ h=>absurd h (Nat.not_lt_zero _),fun q h k=>absurd h (Nat.not_lt.2 k),.refl _⟩ ⟨rfl,rfl,rfl,rfl,rfl,rfl,trivial⟩ (Hp.Le.refl _) ?_
 rintro ⟨i,j,H⟩ φ ⟨hij,hjn,hlo,hhi,hg⟩
 dsimp only at hij hjn hlo hhi hg ⊢
 have g1:=gT.trans hg
 have aT1:=hg.at_ _ _ aT
 have kT:cellsAt H T 0 2 = some [int t.1,int t.2]:=cellsAt_row aT1 (by simp)
 conv=>whnf
 repeat (refine SeqP.go ?_; conv=>whnf)
 refine cmpB (fun hb=>?_) (fun hb=>?_)
 ·have hexm:∃ m,(i + j) / 2 = m∧i≤m∧m < j:=⟨_,rfl,by omega,by omega⟩
  obtain ⟨m,hm,him,hmj⟩:=hexm
  have hmP:m < P.length:=by omega
  obtain ⟨r,o,e,hc0,hc1⟩:=hcv m hmP
  subst e
  have kc:cellsAt H r (offAt o (m:Int).toNat 2) 2 = some [int (P[m]).1,int (P[m]).2]:=by
   rw [offAt_eq,show o + (m:Int).toNat * 2 = m * 2 + o by omega]
   exact cellsAt_two (g1.cell hc0) (g1.cell hc1)
  conv=>whnf
  refine ⟨((i + j:Nat):Int),wie (by omega) (by omega),?_⟩
  conv=>whnf
  refine ⟨((i + j:Nat):Int),u64_id (by omega),?_⟩
  conv=>whnf
  refine ⟨by omega,?_⟩
  conv=>whnf
  refine ⟨(m:Int),wie (shr1.trans (congrArg Nat.cast hm)) (by omega),?_⟩
  conv=>whnf
  refine ⟨rfl,⟨by omega,by omega⟩,?_⟩
  conv=>whnf
  refine ⟨_,kc,?_⟩
  conv=>whnf
  refine ⟨_,kT,?_⟩
  conv=>whnf
  refine ⟨can76,?_⟩
  refine CallP.mono (edge76_spec P[m] t H) ?_
  rintro rr H2 ⟨⟨c,rfl,hc1,hc2⟩,g2⟩
  conv=>whnf
  refine cmpB (fun hb2=>?_) (fun hb2=>?_)
  ·have hlt:=hc1.1 hb2
   conv=>whnf
   refine ⟨((m + 1:Nat):Int),wie (by omega) (by omega),?_⟩
   conv=>whnf
   refine Rnd.mk (m + 1,j,H2) ⟨by show m + 1≤j; omega,hjn,fun q hq hqm=>?_,hhi,hg.trans g2⟩ (by show j - (m + 1) < j - i; omega) ⟨rfl,rfl,rfl,rfl,rfl,rfl,trivial⟩ (Hp.Le.refl _) rfl
   by_cases e:q = m
   ·subst e; exact hlt
   ·exact (hs q m hq hmP (by show q < m; have:q < m + 1:=hqm; omega)).trans hlt
  ·have hnl:¬ PLess P[m] t:=fun h=>hb2 (hc1.2 h)
   conv=>whnf
   refine Rnd.mk (i,m,H2) ⟨him,by show m≤P.length; omega,hlo,fun q hq hqm=>?_,hg.trans g2⟩ (by show m - i < j - i; omega) ⟨rfl,rfl,rfl,rfl,rfl,rfl,trivial⟩ (Hp.Le.refl _) rfl
   by_cases e:q = m
   ·subst e; exact hnl
   ·exact fun hq2=>hnl ((hs m q hmP hq (by have:m≤q:=hqm; omega)).trans hq2)
 ·obtain rfl:i = j:=by omega
  have hnot:i = P.length→¬ t ∈ P:=fun e ht=>by
   obtain ⟨q,hq,rfl⟩:=List.getElem_of_mem ht
   exact PLess.irr (hlo q hq (by omega))
  have hyes:(hi:i < P.length)→(P[i] = t↔t ∈ P):=fun hi=>by
   refine ⟨fun e=>e ▸ List.getElem_mem hi,fun ht=>?_⟩
   obtain ⟨q,hq,rfl⟩:=List.getElem_of_mem ht
   rcases Nat.lt_trichotomy q i with c | c | c
   ·exact (PLess.irr (hlo q hq c)).elim
   ·subst c; rfl
   ·exact absurd (hs i q hi hq c) (hhi i hi (Nat.le_refl _))
  conv=>whnf
  repeat (refine SeqP.go ?_; conv=>whnf)
  refine cmpB (fun c1=>?_) (fun c1=>?_)
  ·have hiP:i < P.length:=by omega
   obtain ⟨r,o,e,hc0,hc1⟩:=hcv i hiP
   subst e
   have kc:cellsAt H r (offAt o (i:Int).toNat 2) 2 = some [int (P[i]).1,int (P[i]).2]:=by
    rw [offAt_eq,show o + (i:Int).toNat * 2 = i * 2 + o by omega]
    exact cellsAt_two (g1.cell hc0) (g1.cell hc1)
   conv=>whnf
   refine ⟨rfl,⟨by omega,by omega⟩,?_⟩
   conv=>whnf
   refine ⟨_,kc,?_⟩
   conv=>whnf
   refine ⟨_,kT,?_⟩
   conv=>whnf
   refine ⟨can76,?_⟩
   refine CallP.mono (edge76_spec P[i] t H) ?_
   rintro rr H2 ⟨⟨c,rfl,hc1,hc2⟩,g2⟩
   conv=>whnf
   refine cmpB (fun hb2=>?_) (fun hb2=>?_)
   ·refine ⟨?_,?_⟩
    rotate_left
    ·conv=>whnf
     repeat (refine SeqP.go ?_; conv=>whnf)
     exact ⟨⟨i,true,rfl,⟨fun _=>(hyes hiP).1 (hc2.1 hb2),fun _=>rfl⟩,fun _=>hiP⟩,g1.trans g2⟩
    repeat' (first | exact True.intro | (refine And.intro ?_ ?_ <;> (conv=>whnf)))
    all_goals first
     | exact sameAt_val (h2:=_) rfl (sameV_int _)
     | exact sameAt_val (h2:=_) rfl (sameV_ptr _ _)
     | exact sameAt_val (h2:=_) rfl (sameV_slice _ _ _)
     | exact sameAt_val (h2:=_) rfl (sameV_agg2 _ _)
     | exact sameAt_val (h2:=_) (show hval _ (idxSV 1 (.slice (some ⟨_,_,_⟩) _ _) (int _)) = _ from idxS_val' rfl ⟨by omega,by omega⟩) (sameV_ptr _ _)
     | exact ⟨_,rfl,Hp.at_lay_self _ _,rfl⟩
   ·refine ⟨?_,?_⟩
    rotate_left
    ·conv=>whnf
     repeat (refine SeqP.go ?_; conv=>whnf)
     exact ⟨⟨i,false,rfl,⟨fun h=>(by cases h),fun h=>absurd (hc2.2 ((hyes hiP).2 h)) hb2⟩,fun _=>hiP⟩,g1.trans g2⟩
    repeat' (first | exact True.intro | (refine And.intro ?_ ?_ <;> (conv=>whnf)))
    all_goals first
     | exact sameAt_val (h2:=_) rfl (sameV_int _)
     | exact sameAt_val (h2:=_) rfl (sameV_ptr _ _)
     | exact sameAt_val (h2:=_) rfl (sameV_slice _ _ _)
     | exact sameAt_val (h2:=_) rfl (sameV_agg2 _ _)
     | exact sameAt_val (h2:=_) (show hval _ (idxSV 1 (.slice (some ⟨_,_,_⟩) _ _) (int _)) = _ from idxS_val' rfl ⟨by omega,by omega⟩) (sameV_ptr _ _)
     | exact ⟨_,rfl,Hp.at_lay_self _ _,rfl⟩
  ·refine ⟨?_,?_⟩
   rotate_left
   ·conv=>whnf
    repeat (refine SeqP.go ?_; conv=>whnf)
    exact ⟨⟨i,false,rfl,⟨fun h=>(by cases h),fun h=>absurd h (hnot (by omega))⟩,fun h=>(by cases h)⟩,g1⟩
   repeat' (first | exact True.intro | (refine And.intro ?_ ?_ <;> (conv=>whnf)))
   all_goals first
    | exact sameAt_val (h2:=_) rfl (sameV_int _)
    | exact sameAt_val (h2:=_) rfl (sameV_ptr _ _)
    | exact sameAt_val (h2:=_) rfl (sameV_slice _ _ _)
    | exact sameAt_val (h2:=_) rfl (sameV_agg2 _ _)
    | exact sameAt_val (h2:=_) (show hval _ (idxSV 1 (.slice (some ⟨_,_,_⟩) _ _) (int _)) = _ from idxS_val' rfl ⟨by omega,by omega⟩) (sameV_ptr _ _)
    | exact ⟨_,rfl,Hp.at_lay_self _ _,rfl⟩
end
end Go.Proofs.Ytljbibjnidccbab
namespace Go.Proofs.Ytljbibjnidccbab
open Go.Rx Go.RowKit
def TLess (x y:Int×Int×Int):Prop:=lexL [x.1,x.2.1,x.2.2] [y.1,y.2.1,y.2.2]
def EGood (n:Int) (P:List (Int×Int)) (i:Nat) (hi:i < P.length):Prop:=0≤(P[i]).1∧(P[i]).1 < (P[i]).2∧(P[i]).2 < n∧(0 < i→PLess (P[i - 1]'(by omega)) P[i])
def EOk (n:Int) (P:List (Int×Int)):Prop:=P.length≤10∧∀ i (hi:i < P.length),EGood n P i hi
theorem EOk.sort {n:Int} {P:List (Int×Int)} (h:EOk n P):SortP P:=SortP.of fun i hi h0=>(h.2 i hi).2.2.2 h0
def PGood (P:List (Int×Int)) (T:List (Int×Int×Int)) (i:Nat) (hi:i < T.length):Prop:=((T[i]).1,(T[i]).2.1) ∈ P∧((T[i]).2.1,(T[i]).2.2) ∈ P∧((T[i]).1,(T[i]).2.2) ∈ P∧(0 < i→TLess (T[i - 1]'(by omega)) T[i])
def POk (P:List (Int×Int)) (T:List (Int×Int×Int)):Prop:=T.length≤6∧∀ i (hi:i < T.length),PGood P T i hi
def GOk (n:Int) (P:List (Int×Int)) (T:List (Int×Int×Int)):Prop:=1≤n∧n≤6∧EOk n P∧POk P T
attribute [local irreducible] E idxN cellAt cellsAt storeAt callable helems hmoved lookIn findKey keyOk hentries Hp.at Hp.set Hp.lay arBits hupdated setAt CallP YieldP BoolOf IsWrap Rnd LoopP AppP CutP Int.tmod Int.tdiv Int.fdiv
section
variable [Unknowns]
attribute [local irreducible] ResP sameAt
theorem edge_spec (n:Int) (v w:Value) (P:List (Int×Int)) (T:List (Int×Int×Int)) (i k:Int) (hl:P.length≤20) (hs:SortP P) (h:Hp) (hv:PairsV h v P) (hw:TripV h w T) :
  CallP E 53 [.agg ⟨[int n,v,w]⟩,int i,int k] h (fun r h'=>(∃ (z:Nat) (b:Bool),r = .tuple ⟨[int z,.bool b]⟩∧(b = true↔(i,k) ∈ P)∧(b = true→z < P.length))∧Grows h h'):=by
 obtain ⟨av,cap,rfl,hcv⟩:=id hv
 obtain ⟨aw,capw,rfl,hcw⟩:=id hw
 refine enter53 (by simp) ?_
 conv=>whnf
 repeat (refine SeqP.go ?_; conv=>whnf)
 have hex1:∃ H1,h.lay (.row 25 true [int n,.slice av P.length cap,.slice aw T.length capw]) = H1:=⟨_,rfl⟩
 obtain ⟨H1,hH1⟩:=hex1
 have aG:H1.at h.next = some (.row 25 true [int n,.slice av P.length cap,.slice aw T.length capw]):=by rw [← hH1]; exact Hp.at_lay_self _ _
 have gG:Grows h H1:=by rw [← hH1]; exact Grows.lay _ _
 rw [hH1]
 refine ⟨_,cellAt_row aG rfl,?_⟩
 conv=>whnf
 refine CallP.mono (bin_spec _ P (i,k) hl hs H1 (hv.ext gG)) ?_
 rintro r H2 ⟨⟨z,b,rfl,hb1,hb2⟩,g2⟩
 conv=>whnf
 repeat (refine SeqP.go ?_; conv=>whnf)
 exact ⟨⟨z,b,rfl,hb1,hb2⟩,gG.trans g2⟩
theorem hem_spec (n:Int) (v w:Value) (P:List (Int×Int)) (T:List (Int×Int×Int)) (x:Int×Int×Int) (hl:P.length≤20) (hs:SortP P) (h:Hp) (hv:PairsV h v P) (hw:TripV h w T)
  (h1:(x.1,x.2.1) ∈ P) (h2:(x.2.1,x.2.2) ∈ P) (h3:(x.1,x.2.2) ∈ P) :
  CallP E 60 [.agg ⟨[int n,v,w]⟩,.agg ⟨[int x.1,int x.2.1,int x.2.2]⟩] h (fun r h'=>(∃ a b c:Nat,r = .tuple ⟨[int a,int b,int c]⟩∧a < P.length∧b < P.length∧c < P.length)∧Grows h h'):=by
 obtain ⟨av,cap,rfl,hcv⟩:=id hv
 obtain ⟨aw,capw,rfl,hcw⟩:=id hw
 have hex1:∃ H1,h.lay (.row 25 true [int n,.slice av P.length cap,.slice aw T.length capw]) = H1:=⟨_,rfl⟩
 obtain ⟨H1,hH1⟩:=hex1
 have aG:H1.at h.next = some (.row 25 true [int n,.slice av P.length cap,.slice aw T.length capw]):=by rw [← hH1]; exact Hp.at_lay_self _ _
 have gG:Grows h H1:=by rw [← hH1]; exact Grows.lay _ _
 have hex2:∃ H2,H1.lay (.row 58 true [int x.1,int x.2.1,int x.2.2]) = H2:=⟨_,rfl⟩
 obtain ⟨H2,hH2⟩:=hex2
 have aX:H2.at H1.next = some (.row 58 true [int x.1,int x.2.1,int x.2.2]):=by rw [← hH2]; exact Hp.at_lay_self _ _
 have gX:Grows H1 H2:=by rw [← hH2]; exact Grows.lay _ _
 have aG2:=gX.at_ _ _ aG
 refine enter60 (by simp) ?_
 conv=>whnf
 refine SeqP.cut (α:=Unit) (fun _=>[(2,ptr h.next 0),(3,ptr H1.next 0)]) (fun _ H=>H = H2) ?_ ?_
 ·conv=>whnf
  exact ⟨(),⟨rfl,by rw [← hH1]; rfl,trivial⟩,by rw [← hH2,← hH1],rfl⟩
 rintro _ φ H2 rfl
 have g02:=gG.trans gX
 generalize h.next = G at aG aG2
 generalize H1.next = X at aX
 conv=>whnf
 refine SeqP.cut (α:=Nat×Hp) (fun s=>[(2,ptr G 0),(3,ptr X 0),(4,int s.1)]) (fun s H=>H = s.2∧s.1 < P.length∧Grows H2 H) ?_ ?_
 ·conv=>whnf
  refine ⟨_,cellsAt_row aG2 (by simp),?_⟩
  conv=>whnf
  refine ⟨⟨by omega,by omega⟩,?_⟩
  conv=>whnf
  refine ⟨_,cellAt_row aX rfl,?_⟩
  conv=>whnf
  refine ⟨⟨by omega,by omega⟩,?_⟩
  conv=>whnf
  refine ⟨_,cellAt_row aX rfl,?_⟩
  conv=>whnf
  refine CallP.mono (edge_spec n _ _ P T x.1 x.2.1 hl hs H2 (hv.ext g02) (hw.ext g02)) ?_
  rintro r H3 ⟨⟨z,b,rfl,hb1,hb2⟩,g3⟩
  conv=>whnf
  exact ⟨(z,H3),⟨rfl,rfl,rfl,trivial⟩,⟨rfl,hb2 (hb1.2 h1),g3⟩,rfl⟩
 rintro ⟨a,_⟩ φ H3 ⟨rfl,ha,g3⟩
 dsimp only at ha g3 ⊢
 have aG3:=g3.at_ _ _ aG2
 have aX3:=g3.at_ _ _ aX
 have g03:=g02.trans g3
 conv=>whnf
 refine SeqP.cut (α:=Nat×Hp) (fun s=>[(2,ptr G 0),(3,ptr X 0),(4,int a),(5,int s.1)]) (fun s H=>H = s.2∧s.1 < P.length∧Grows H3 H) ?_ ?_
 ·conv=>whnf
  refine ⟨_,cellsAt_row aG3 (by simp),?_⟩
  conv=>whnf
  refine ⟨⟨by omega,by omega⟩,?_⟩
  conv=>whnf
  refine ⟨_,cellAt_row aX3 rfl,?_⟩
  conv=>whnf
  refine ⟨⟨by omega,by omega⟩,?_⟩
  conv=>whnf
  refine ⟨_,cellAt_row aX3 rfl,?_⟩
  conv=>whnf
  refine CallP.mono (edge_spec n _ _ P T x.2.1 x.2.2 hl hs _ (hv.ext g03) (hw.ext g03)) ?_
  rintro r H4 ⟨⟨z,b,rfl,hb1,hb2⟩,g4⟩
  conv=>whnf
  exact ⟨(z,H4),⟨rfl,rfl,rfl,rfl,trivial⟩,⟨rfl,hb2 (hb1.2 h2),g4⟩,rfl⟩
 rintro ⟨b,_⟩ φ H4 ⟨rfl,hb,g4⟩
 dsimp only at hb g4 ⊢
 have aG4:=g4.at_ _ _ aG3
 have aX4:=g4.at_ _ _ aX3
 have g04:=g03.trans g4
 conv=>whnf
 refine SeqP.cut (α:=Nat×Hp) (fun s=>[(4,int a),(5,int b),(6,int s.1)]) (fun s H=>H = s.2∧s.1 < P.length∧Grows h H) ?_ ?_
 ·conv=>whnf
  refine ⟨_,cellsAt_row aG4 (by simp),?_⟩
  conv=>whnf
  refine ⟨⟨by omega,by omega⟩,?_⟩
  conv=>whnf
  refine ⟨_,cellAt_row aX4 rfl,?_⟩
  conv=>whnf
  refine ⟨⟨by omega,by omega⟩,?_⟩
  conv=>whnf
  refine ⟨_,cellAt_row aX4 rfl,?_⟩
  conv=>whnf
  refine CallP.mono (edge_spec n _ _ P T x.1 x.2.2 hl hs _ (hv.ext g04) (hw.ext g04)) ?_
  rintro r H5 ⟨⟨z,b,rfl,hb1,hb2⟩,g5⟩
  conv=>whnf
  exact ⟨(z,H5),⟨rfl,rfl,rfl,trivial⟩,⟨rfl,hb2 (hb1.2 h3),g04.trans g5⟩,rfl⟩
 rintro ⟨c,_⟩ φ H5 ⟨rfl,hc,g5⟩
 dsimp only at hc g5 ⊢
 conv=>whnf
 repeat (refine SeqP.go ?_; conv=>whnf)
 exact ⟨⟨a,b,c,rfl,ha,hb,hc⟩,g5⟩
theorem hasEdges_spec (n:Int) (v w:Value) (P:List (Int×Int)) (T:List (Int×Int×Int)) (hl:P.length≤20) (h:Hp) (hv:PairsV h v P) (hw:TripV h w T) :
  CallP E 26 [.agg ⟨[int n,v,w]⟩] h (fun r h'=>(∃ b,r = .bool b∧(b = true↔EOk n P))∧Grows h h'):=by
 obtain ⟨av,cap,rfl,hcv⟩:=id hv
 obtain ⟨aw,capw,rfl,hcw⟩:=id hw
 have hex1:∃ H1,h.lay (.row 25 true [int n,.slice av P.length cap,.slice aw T.length capw]) = H1:=⟨_,rfl⟩
 obtain ⟨H1,hH1⟩:=hex1
 have aG:H1.at h.next = some (.row 25 true [int n,.slice av P.length cap,.slice aw T.length capw]):=by rw [← hH1]; exact Hp.at_lay_self _ _
 have gG:Grows h H1:=by rw [← hH1]; exact Grows.lay _ _
 refine enter26 (by simp) ?_
 conv=>whnf
 refine SeqP.cut (α:=Unit) (fun _=>[(1,ptr h.next 0)]) (fun _ H=>H = H1) ?_ ?_
 ·conv=>whnf
  exact ⟨(),⟨rfl,trivial⟩,hH1,rfl⟩
 rintro _ φ H1 rfl
 generalize h.next = G at aG
 conv=>whnf
 repeat (refine SeqP.go ?_; conv=>whnf)
 refine ⟨_,cellAt_row aG rfl,?_⟩
 conv=>whnf
 refine loop_inv (α:=Nat×Hp) (fun s=>[(8,int s.1),(7,int P.length),(6,.slice av P.length cap),(1,ptr G 0)]) (fun s=>s.2) (fun s=>s.1≤P.length∧(∀ q,(hq:q < P.length)→q < s.1→EGood n P q hq)∧Grows H1 s.2) (fun s=>P.length - s.1) (0,H1) ⟨Nat.zero_le _,fun q _ h=>absurd h (Nat.not_lt_zero _),.refl _⟩ ⟨rfl,rfl,rfl,rfl,trivial⟩ (Hp.Le.refl _) ?_
 rintro ⟨k,H⟩ φ ⟨hk,hpre,hg⟩
 dsimp only at hk hpre hg ⊢
 have aG1:=hg.at_ _ _ aG
 have g1:=gG.trans hg
 conv=>whnf
 repeat (refine SeqP.go ?_; conv=>whnf)
 refine cmpB (fun d1=>?_) (fun d1=>?_)
 rotate_left
 ·have hkl:k = P.length:=by omega
  conv=>whnf
  repeat (refine SeqP.go ?_; conv=>whnf)
  refine ⟨_,cellAt_row aG1 rfl,?_⟩
  conv=>whnf
  refine cmpB (fun d2=>?_) (fun d2=>?_)
  ·conv=>whnf
   repeat (refine SeqP.go ?_; conv=>whnf)
   exact ⟨⟨true,rfl,⟨fun _=>⟨by omega,fun i hi=>hpre i hi (by omega)⟩,fun _=>rfl⟩⟩,g1⟩
  ·conv=>whnf
   repeat (refine SeqP.go ?_; conv=>whnf)
   exact ⟨⟨false,rfl,⟨fun h=>(by cases h),fun h=>by have:=h.1; omega⟩⟩,g1⟩
 have hk':k < P.length:=by omega
 obtain ⟨r,o,rfl,hc0,hc1⟩:=hcv k hk'
 have bad:¬ EGood n P k hk'→¬ EOk n P:=fun h1 h2=>h1 (h2.2 k hk')
 have hxe:∃ x,P[k] = x:=⟨_,rfl⟩
 obtain ⟨x,hx⟩:=hxe
 have egx:EGood n P k hk'↔0≤x.1∧x.1 < x.2∧x.2 < n∧(0 < k→PLess (P[k - 1]'(by omega)) x):=by unfold EGood; rw [hx]
 rw [hx] at hc0 hc1
 have kc:cellsAt H r (offAt o (k:Int).toNat 2) 2 = some [int x.1,int x.2]:=by
  rw [offAt_eq,show o + (k:Int).toNat * 2 = k * 2 + o by omega]
  exact cellsAt_two (g1.cell hc0) (g1.cell hc1)
 conv=>whnf
 repeat (refine SeqP.go ?_; conv=>whnf)
 refine ⟨rfl,⟨by omega,by omega⟩,?_⟩
 conv=>whnf
 refine ⟨_,kc,?_⟩
 conv=>whnf
 refine ⟨rfl,_,store2,?_⟩
 have hexD:∃ HD,H.lay (.row 57 true [int x.1,int x.2]) = HD:=⟨_,rfl⟩
 obtain ⟨HD,hHD⟩:=hexD
 have aD:HD.at H.next = some (.row 57 true [int x.1,int x.2]):=by rw [← hHD]; exact Hp.at_lay_self _ _
 have gD:Grows H HD:=by rw [← hHD]; exact Grows.lay _ _
 have aG2:=gD.at_ _ _ aG1
 have g2:=g1.trans gD
 rw [hHD]
 generalize H.next = D at aD
 conv=>whnf
 repeat (refine SeqP.go ?_; conv=>whnf)
 refine ⟨⟨by omega,by omega⟩,?_⟩
 conv=>whnf
 refine ⟨_,cellAt_row aD rfl,?_⟩
 conv=>whnf
 refine cmpB (fun d2=>?_) (fun d2=>?_)
 ·conv=>whnf
  repeat (refine SeqP.go ?_; conv=>whnf)
  exact ⟨⟨false,rfl,⟨fun h=>(by cases h),fun h=>absurd h (bad fun h=>by have:=egx.1 h; omega)⟩⟩,g2⟩
 conv=>whnf
 refine ⟨⟨by omega,by omega⟩,?_⟩
 conv=>whnf
 refine ⟨_,cellAt_row aD rfl,?_⟩
 conv=>whnf
 refine ⟨⟨by omega,by omega⟩,?_⟩
 conv=>whnf
 refine ⟨_,cellAt_row aD rfl,?_⟩
 conv=>whnf
 refine cmpB (fun d3=>?_) (fun d3=>?_)
 ·conv=>whnf
  repeat (refine SeqP.go ?_; conv=>whnf)
  exact ⟨⟨false,rfl,⟨fun h=>(by cases h),fun h=>absurd h (bad fun h=>by have:=egx.1 h; omega)⟩⟩,g2⟩
 conv=>whnf
 refine ⟨⟨by omega,by omega⟩,?_⟩
 conv=>whnf
 refine ⟨_,cellAt_row aD rfl,?_⟩
 conv=>whnf
 refine ⟨_,cellAt_row aG2 rfl,?_⟩
 conv=>whnf
 refine cmpB (fun d4=>?_) (fun d4=>?_)
 ·conv=>whnf
  repeat (refine SeqP.go ?_; conv=>whnf)
  exact ⟨⟨false,rfl,⟨fun h=>(by cases h),fun h=>absurd h (bad fun h=>by have:=egx.1 h; omega)⟩⟩,g2⟩
 conv=>whnf
 repeat (refine SeqP.go ?_; conv=>whnf)
 refine cmpB (fun c2=>?_) (fun c2=>?_)
 rotate_left
 ·conv=>whnf
  repeat (refine SeqP.go ?_; conv=>whnf)
  refine ⟨_,wid (by omega),?_⟩
  conv=>whnf
  refine Rnd.mk (k + 1,HD) ⟨by show k + 1≤P.length; omega,fun q hq hqk=>?_,hg.trans gD⟩ (by show P.length - (k + 1) < P.length - k; omega) ⟨rfl,rfl,rfl,rfl,trivial⟩ (Hp.Le.refl _) rfl
  by_cases e:q = k
  ·subst e; exact egx.2 ⟨by omega,by omega,by omega,fun h=>by omega⟩
  ·exact hpre q hq (by have:q < k + 1:=hqk; omega)
 have hk1:k - 1 < P.length:=by omega
 have hcc:=hcv (k - 1) hk1
 obtain ⟨r',o',e',hd0,hd1⟩:=hcc
 obtain ⟨rfl,rfl⟩:r' = r∧o' = o:=by cases e'; exact ⟨rfl,rfl⟩
 have hye:∃ y,P[k - 1] = y:=⟨_,rfl⟩
 obtain ⟨y,hy⟩:=hye
 rw [hy] at hd0 hd1 egx
 have q0:cellAt HD r' (offAt o' ((k - 1:Nat):Int).toNat 2) = some (int y.1):=by
  rw [offAt_eq,show o' + ((k - 1:Nat):Int).toNat * 2 = (k - 1) * 2 + o' by omega]
  exact g2.cell hd0
 have q1:cellAt HD r' (offAt o' ((k - 1:Nat):Int).toNat 2 + 1) = some (int y.2):=by
  rw [offAt_eq,show o' + ((k - 1:Nat):Int).toNat * 2 = (k - 1) * 2 + o' by omega]
  exact g2.cell hd1
 conv=>whnf
 refine ⟨_,cellAt_row aG2 rfl,?_⟩
 conv=>whnf
 refine ⟨((k - 1:Nat):Int),wie (by omega) (by omega),?_⟩
 conv=>whnf
 refine ⟨rfl,⟨by omega,by omega⟩,?_⟩
 conv=>whnf
 refine resP_cutA ?_ (by omega)
 conv=>whnf
 refine resP_cutA ?_ (by omega)
 conv=>whnf
 refine CallP.mono (compare_spec _ _ [y.1,y.2] [x.1,x.2] rfl (by simp) HD (ints_two q0 q1) (ints_two (cellAt_row aD rfl) (cellAt_row aD rfl))) ?_
 rintro rr HD ⟨⟨z,rfl,hz1,-⟩,rfl⟩
 rw [lex_pair] at hz1
 conv=>whnf
 refine cmpB (fun d5=>?_) (fun d5=>?_)
 ·conv=>whnf
  repeat (refine SeqP.go ?_; conv=>whnf)
  exact ⟨⟨false,rfl,⟨fun h=>(by cases h),fun h=>absurd h (bad fun h=>by have:=hz1.2 ((egx.1 h).2.2.2 (by omega)); omega)⟩⟩,g2⟩
 ·conv=>whnf
  repeat (refine SeqP.go ?_; conv=>whnf)
  refine ⟨_,wid (by omega),?_⟩
  conv=>whnf
  refine Rnd.mk (k + 1,HD) ⟨by show k + 1≤P.length; omega,fun q hq hqk=>?_,hg.trans gD⟩ (by show P.length - (k + 1) < P.length - k; omega) ⟨rfl,rfl,rfl,rfl,trivial⟩ (Hp.Le.refl _) rfl
  by_cases e:q = k
  ·subst e; exact egx.2 ⟨by omega,by omega,by omega,fun h=>hz1.1 (by omega)⟩
  ·exact hpre q hq (by have:q < k + 1:=hqk; omega)
end
end Go.Proofs.Ytljbibjnidccbab
namespace Go.Proofs.Ytljbibjnidccbab
open Go.Rx Go.RowKit
open Classical in
noncomputable def chk (n:Int) (P:List (Int×Int)) (T:List (Int×Int×Int)):Int:=if GOk n P T then 0 else 30
theorem chk_ok {n:Int} {P:List (Int×Int)} {T:List (Int×Int×Int)} (h:GOk n P T):chk n P T = 0:=by unfold chk; rw [if_pos h]
theorem chk_no {n:Int} {P:List (Int×Int)} {T:List (Int×Int×Int)} (h:¬ GOk n P T):chk n P T = 30:=by unfold chk; rw [if_neg h]
attribute [local irreducible] E idxN cellAt cellsAt storeAt callable helems hmoved lookIn findKey keyOk hentries Hp.at Hp.set Hp.lay arBits hupdated setAt CallP YieldP BoolOf IsWrap Rnd LoopP AppP CutP Int.tmod Int.tdiv Int.fdiv
section
variable [Unknowns]
attribute [local irreducible] ResP sameAt
theorem hasPlates_spec (n:Int) (v w:Value) (P:List (Int×Int)) (T:List (Int×Int×Int)) (hl:P.length≤20) (hs:SortP P) (hT:T.length≤20) (h:Hp) (hv:PairsV h v P) (hw:TripV h w T) :
  CallP E 27 [.agg ⟨[int n,v,w]⟩] h (fun r h'=>(∃ b,r = .bool b∧(b = true↔POk P T))∧Grows h h'):=by
 obtain ⟨av,cap,rfl,hcv⟩:=id hv
 obtain ⟨aw,capw,rfl,hcw⟩:=id hw
 have hex1:∃ H1,h.lay (.row 25 true [int n,.slice av P.length cap,.slice aw T.length capw]) = H1:=⟨_,rfl⟩
 obtain ⟨H1,hH1⟩:=hex1
 have aG:H1.at h.next = some (.row 25 true [int n,.slice av P.length cap,.slice aw T.length capw]):=by rw [← hH1]; exact Hp.at_lay_self _ _
 have gG:Grows h H1:=by rw [← hH1]; exact Grows.lay _ _
 refine enter27 (by simp) ?_
 conv=>whnf
 refine SeqP.cut (α:=Unit) (fun _=>[(1,ptr h.next 0)]) (fun _ H=>H = H1) ?_ ?_
 ·conv=>whnf
  exact ⟨(),⟨rfl,trivial⟩,hH1,rfl⟩
 rintro _ φ H1 rfl
 generalize h.next = G at aG
 conv=>whnf
 repeat (refine SeqP.go ?_; conv=>whnf)
 refine ⟨_,cellAt_row aG rfl,?_⟩
 conv=>whnf
 refine loop_inv (α:=Nat×Hp) (fun s=>[(14,int s.1),(13,int T.length),(12,.slice aw T.length capw),(1,ptr G 0)]) (fun s=>s.2) (fun s=>s.1≤T.length∧(∀ q,(hq:q < T.length)→q < s.1→PGood P T q hq)∧Grows H1 s.2) (fun s=>T.length - s.1) (0,H1) ⟨Nat.zero_le _,fun q _ h=>absurd h (Nat.not_lt_zero _),.refl _⟩ ⟨rfl,rfl,rfl,rfl,trivial⟩ (Hp.Le.refl _) ?_
 rintro ⟨k,H⟩ φ ⟨hk,hpre,hg⟩
 dsimp only at hk hpre hg ⊢
 have aG1:=hg.at_ _ _ aG
 have g1:=gG.trans hg
 conv=>whnf
 repeat (refine SeqP.go ?_; conv=>whnf)
 refine cmpB (fun d1=>?_) (fun d1=>?_)
 rotate_left
 ·have hkl:k = T.length:=by omega
  conv=>whnf
  repeat (refine SeqP.go ?_; conv=>whnf)
  refine ⟨_,cellAt_row aG1 rfl,?_⟩
  conv=>whnf
  refine cmpB (fun d2=>?_) (fun d2=>?_)
  ·conv=>whnf
   repeat (refine SeqP.go ?_; conv=>whnf)
   exact ⟨⟨true,rfl,⟨fun _=>⟨by omega,fun i hi=>hpre i hi (by omega)⟩,fun _=>rfl⟩⟩,g1⟩
  ·conv=>whnf
   repeat (refine SeqP.go ?_; conv=>whnf)
   exact ⟨⟨false,rfl,⟨fun h=>(by cases h),fun h=>by have:=h.1; omega⟩⟩,g1⟩
 have hk':k < T.length:=by omega
 obtain ⟨r,o,rfl,hc0,hc1,hc2⟩:=hcw k hk'
 have bad:¬ PGood P T k hk'→¬ POk P T:=fun h1 h2=>h1 (h2.2 k hk')
 have hxe:∃ x,T[k] = x:=⟨_,rfl⟩
 obtain ⟨x,hx⟩:=hxe
 have egx:PGood P T k hk'↔(x.1,x.2.1) ∈ P∧(x.2.1,x.2.2) ∈ P∧(x.1,x.2.2) ∈ P∧(0 < k→TLess (T[k - 1]'(by omega)) x):=by unfold PGood; rw [hx]
 rw [hx] at hc0 hc1 hc2
 have kc:cellsAt H r (offAt o (k:Int).toNat 3) 3 = some [int x.1,int x.2.1,int x.2.2]:=by
  rw [offAt_eq,show o + (k:Int).toNat * 3 = k * 3 + o by omega]
  exact cellsAt_three (g1.cell hc0) (g1.cell hc1) (g1.cell hc2)
 conv=>whnf
 repeat (refine SeqP.go ?_; conv=>whnf)
 refine ⟨rfl,⟨by omega,by omega⟩,?_⟩
 conv=>whnf
 refine ⟨_,kc,?_⟩
 conv=>whnf
 refine ⟨rfl,_,store3,?_⟩
 have hexD:∃ HD,H.lay (.row 58 true [int x.1,int x.2.1,int x.2.2]) = HD:=⟨_,rfl⟩
 obtain ⟨HD,hHD⟩:=hexD
 have aD:HD.at H.next = some (.row 58 true [int x.1,int x.2.1,int x.2.2]):=by rw [← hHD]; exact Hp.at_lay_self _ _
 have gD:Grows H HD:=by rw [← hHD]; exact Grows.lay _ _
 have aG2:=gD.at_ _ _ aG1
 have g2:=g1.trans gD
 have g12:=hg.trans gD
 rw [hHD]
 generalize H.next = D at aD
 conv=>whnf
 refine SeqP.cut (α:=Unit) (fun _=>[(14,int k),(13,int T.length),(12,.slice (some ⟨r,o,none⟩) T.length capw),(1,ptr G 0),(4,ptr D 0),(3,int k)]) (fun _ H=>H = HD∧(0 < k→TLess (T[k - 1]'(by omega)) x)) ?_ ?_
 ·conv=>whnf
  repeat (refine SeqP.go ?_; conv=>whnf)
  refine cmpB (fun c2=>?_) (fun c2=>?_)
  rotate_left
  ·conv=>whnf
   repeat (refine SeqP.go ?_; conv=>whnf)
   exact ⟨(),⟨rfl,rfl,rfl,rfl,rfl,rfl,trivial⟩,⟨rfl,fun h=>by omega⟩,rfl⟩
  have hk1:k - 1 < T.length:=by omega
  have hcc:=hcw (k - 1) hk1
  obtain ⟨r',o',e',hd0,hd1,hd2⟩:=hcc
  obtain ⟨rfl,rfl⟩:r' = r∧o' = o:=by cases e'; exact ⟨rfl,rfl⟩
  have hye:∃ y,T[k - 1] = y:=⟨_,rfl⟩
  obtain ⟨y,hy⟩:=hye
  rw [hy] at hd0 hd1 hd2 egx
  rw [hy]
  have q0:cellAt HD r' (offAt o' ((k - 1:Nat):Int).toNat 3) = some (int y.1):=by
   rw [offAt_eq,show o' + ((k - 1:Nat):Int).toNat * 3 = (k - 1) * 3 + o' by omega]
   exact g2.cell hd0
  have q1:cellAt HD r' (offAt o' ((k - 1:Nat):Int).toNat 3 + 1) = some (int y.2.1):=by
   rw [offAt_eq,show o' + ((k - 1:Nat):Int).toNat * 3 = (k - 1) * 3 + o' by omega]
   exact g2.cell hd1
  have q2:cellAt HD r' (offAt o' ((k - 1:Nat):Int).toNat 3 + 2) = some (int y.2.2):=by
   rw [offAt_eq,show o' + ((k - 1:Nat):Int).toNat * 3 = (k - 1) * 3 + o' by omega]
   exact g2.cell hd2
  conv=>whnf
  refine ⟨_,cellAt_row aG2 rfl,?_⟩
  conv=>whnf
  refine ⟨((k - 1:Nat):Int),wie (by omega) (by omega),?_⟩
  conv=>whnf
  refine ⟨rfl,⟨by omega,by omega⟩,?_⟩
  conv=>whnf
  refine resP_cutA ?_ (by omega)
  conv=>whnf
  refine resP_cutA ?_ (by omega)
  conv=>whnf
  refine CallP.mono (compare_spec _ _ [y.1,y.2.1,y.2.2] [x.1,x.2.1,x.2.2] rfl (by simp) HD (ints_three q0 q1 q2) (ints_three (cellAt_row aD rfl) (cellAt_row aD rfl) (cellAt_row aD rfl))) ?_
  rintro rr HD ⟨⟨z,rfl,hz1,-⟩,rfl⟩
  have hz1:z < 0↔TLess y x:=hz1
  conv=>whnf
  refine cmpB (fun d5=>?_) (fun d5=>?_)
  ·conv=>whnf
   repeat (refine SeqP.go ?_; conv=>whnf)
   exact ⟨⟨false,rfl,⟨fun h=>(by cases h),fun h=>absurd h (bad fun h=>by have:=hz1.2 ((egx.1 h).2.2.2 (by omega)); omega)⟩⟩,g2⟩
  ·conv=>whnf
   repeat (refine SeqP.go ?_; conv=>whnf)
   exact ⟨(),⟨rfl,rfl,rfl,rfl,rfl,rfl,trivial⟩,⟨rfl,fun h=>hz1.1 (by omega)⟩,rfl⟩
 rintro _ φ HD ⟨rfl,hless⟩
 conv=>whnf
 refine SeqP.cut (α:=Bool×Hp) (fun s=>[(14,int k),(13,int T.length),(12,.slice (some ⟨r,o,none⟩) T.length capw),(1,ptr G 0),(4,ptr D 0),(3,int k),(6,.bool s.1)]) (fun s H=>H = s.2∧(s.1 = true↔(x.1,x.2.1) ∈ P)∧Grows HD s.2) ?_ ?_
 ·conv=>whnf
  refine ⟨_,cellsAt_row aG2 (by simp),?_⟩
  conv=>whnf
  refine ⟨⟨by omega,by omega⟩,?_⟩
  conv=>whnf
  refine ⟨_,cellAt_row aD rfl,?_⟩
  conv=>whnf
  refine ⟨⟨by omega,by omega⟩,?_⟩
  conv=>whnf
  refine ⟨_,cellAt_row aD rfl,?_⟩
  conv=>whnf
  refine CallP.mono (edge_spec n _ _ P T x.1 x.2.1 hl hs _ (hv.ext g2) (hw.ext g2)) ?_
  rintro rr H3 ⟨⟨z,b,rfl,hb1,hb2⟩,g3⟩
  conv=>whnf
  exact ⟨(b,H3),⟨rfl,rfl,rfl,rfl,rfl,rfl,rfl,trivial⟩,⟨rfl,hb1,g3⟩,rfl⟩
 rintro ⟨b1,_⟩ φ H3 ⟨rfl,hb1,g3⟩
 dsimp only at hb1 g3 ⊢
 have aG3:=g3.at_ _ _ aG2
 have aD3:=g3.at_ _ _ aD
 have g13:=g2.trans g3
 conv=>whnf
 refine SeqP.cut (α:=Bool×Hp) (fun s=>[(14,int k),(13,int T.length),(12,.slice (some ⟨r,o,none⟩) T.length capw),(1,ptr G 0),(4,ptr D 0),(3,int k),(6,.bool b1),(8,.bool s.1)]) (fun s H=>H = s.2∧(s.1 = true↔(x.2.1,x.2.2) ∈ P)∧Grows H3 s.2) ?_ ?_
 ·conv=>whnf
  refine ⟨_,cellsAt_row aG3 (by simp),?_⟩
  conv=>whnf
  refine ⟨⟨by omega,by omega⟩,?_⟩
  conv=>whnf
  refine ⟨_,cellAt_row aD3 rfl,?_⟩
  conv=>whnf
  refine ⟨⟨by omega,by omega⟩,?_⟩
  conv=>whnf
  refine ⟨_,cellAt_row aD3 rfl,?_⟩
  conv=>whnf
  refine CallP.mono (edge_spec n _ _ P T x.2.1 x.2.2 hl hs _ (hv.ext g13) (hw.ext g13)) ?_
  rintro rr H4 ⟨⟨z,b,rfl,hb1,hb2⟩,g4⟩
  conv=>whnf
  exact ⟨(b,H4),⟨rfl,rfl,rfl,rfl,rfl,rfl,rfl,rfl,trivial⟩,⟨rfl,hb1,g4⟩,rfl⟩
 rintro ⟨b2,_⟩ φ H4 ⟨rfl,hb2,g4⟩
 dsimp only at hb2 g4 ⊢
 have aG4:=g4.at_ _ _ aG3
 have aD4:=g4.at_ _ _ aD3
 have g14:=g13.trans g4
 conv=>whnf
 refine SeqP.cut (α:=Bool×Hp) (fun s=>[(14,int k),(13,int T.length),(12,.slice (some ⟨r,o,none⟩) T.length capw),(1,ptr G 0),(6,.bool b1),(8,.bool b2),(10,.bool s.1)]) (fun s H=>H = s.2∧(s.1 = true↔(x.1,x.2.2) ∈ P)∧Grows H4 s.2) ?_ ?_
 ·conv=>whnf
  refine ⟨_,cellsAt_row aG4 (by simp),?_⟩
  conv=>whnf
  refine ⟨⟨by omega,by omega⟩,?_⟩
  conv=>whnf
  refine ⟨_,cellAt_row aD4 rfl,?_⟩
  conv=>whnf
  refine ⟨⟨by omega,by omega⟩,?_⟩
  conv=>whnf
  refine ⟨_,cellAt_row aD4 rfl,?_⟩
  conv=>whnf
  refine CallP.mono (edge_spec n _ _ P T x.1 x.2.2 hl hs _ (hv.ext g14) (hw.ext g14)) ?_
  rintro rr H5 ⟨⟨z,b,rfl,hb1,hb2⟩,g5⟩
  conv=>whnf
  exact ⟨(b,H5),⟨rfl,rfl,rfl,rfl,rfl,rfl,rfl,trivial⟩,⟨rfl,hb1,g5⟩,rfl⟩
 rintro ⟨b3,_⟩ φ H5 ⟨rfl,hb3,g5⟩
 dsimp only at hb3 g5 ⊢
 have g15:=g14.trans g5
 have g25:=(g12.trans g3).trans (g4.trans g5)
 have no:b1 = false∨b2 = false∨b3 = false→¬ POk P T:=fun hno=>bad fun h=>by
  have h:=egx.1 h
  rw [← hb1,← hb2,← hb3] at h
  rcases hno with e | e | e
  ·rw [e] at h; cases h.1
  ·rw [e] at h; cases h.2.1
  ·rw [e] at h; cases h.2.2.1
 conv=>whnf
 repeat (refine SeqP.go ?_; conv=>whnf)
 cases b1 with
 | false =>
  conv=>whnf
  repeat (refine SeqP.go ?_; conv=>whnf)
  exact ⟨⟨false,rfl,⟨fun h=>(by cases h),fun h=>absurd h (no (.inl rfl))⟩⟩,g15⟩
 | true =>
  cases b2 with
  | false =>
   conv=>whnf
   repeat (refine SeqP.go ?_; conv=>whnf)
   exact ⟨⟨false,rfl,⟨fun h=>(by cases h),fun h=>absurd h (no (.inr (.inl rfl)))⟩⟩,g15⟩
  | true =>
   cases b3 with
   | false =>
    conv=>whnf
    repeat (refine SeqP.go ?_; conv=>whnf)
    exact ⟨⟨false,rfl,⟨fun h=>(by cases h),fun h=>absurd h (no (.inr (.inr rfl)))⟩⟩,g15⟩
   | true =>
    conv=>whnf
    repeat (refine SeqP.go ?_; conv=>whnf)
    refine ⟨_,wid (by omega),?_⟩
    conv=>whnf
    refine Rnd.mk (k + 1,H5) ⟨by show k + 1≤T.length; omega,fun q hq hqk=>?_,g25⟩ (by show T.length - (k + 1) < T.length - k; omega) ⟨rfl,rfl,rfl,rfl,trivial⟩ (Hp.Le.refl _) rfl
    by_cases e:q = k
    ·subst e; exact egx.2 ⟨hb1.1 rfl,hb2.1 rfl,hb3.1 rfl,hless⟩
    ·exact hpre q hq (by have:q < k + 1:=hqk; omega)
theorem Check_spec (n:Int) (v w:Value) (P:List (Int×Int)) (T:List (Int×Int×Int)) (hl:P.length≤20) (hT:T.length≤20) (h:Hp) (hv:PairsV h v P) (hw:TripV h w T) :
  CallP E 8 [.agg ⟨[int n,v,w]⟩] h (fun r h'=>r = int (chk n P T)∧Grows h h'):=by
 obtain ⟨av,cap,rfl,hcv⟩:=id hv
 obtain ⟨aw,capw,rfl,hcw⟩:=id hw
 have hex1:∃ H1,h.lay (.row 25 true [int n,.slice av P.length cap,.slice aw T.length capw]) = H1:=⟨_,rfl⟩
 obtain ⟨H1,hH1⟩:=hex1
 have aG:H1.at h.next = some (.row 25 true [int n,.slice av P.length cap,.slice aw T.length capw]):=by rw [← hH1]; exact Hp.at_lay_self _ _
 have gG:Grows h H1:=by rw [← hH1]; exact Grows.lay _ _
 refine enter8 (by simp) ?_
 conv=>whnf
 refine SeqP.cut (α:=Unit) (fun _=>[(1,ptr h.next 0)]) (fun _ H=>H = H1) ?_ ?_
 ·conv=>whnf
  exact ⟨(),⟨rfl,trivial⟩,hH1,rfl⟩
 rintro _ φ H1 rfl
 generalize h.next = G at aG
 conv=>whnf
 repeat (refine SeqP.go ?_; conv=>whnf)
 refine ⟨_,cellAt_row aG rfl,?_⟩
 conv=>whnf
 refine cmpB (fun c1=>?_) (fun c1=>?_)
 ·conv=>whnf
  repeat (refine SeqP.go ?_; conv=>whnf)
  exact ⟨by rw [chk_no fun h=>by have:=h.1; omega]; rfl,gG⟩
 conv=>whnf
 refine ⟨_,cellAt_row aG rfl,?_⟩
 conv=>whnf
 refine cmpB (fun c2=>?_) (fun c2=>?_)
 ·conv=>whnf
  repeat (refine SeqP.go ?_; conv=>whnf)
  exact ⟨by rw [chk_no fun h=>by have:=h.2.1; omega]; rfl,gG⟩
 conv=>whnf
 refine ⟨_,cellsAt_row aG (by simp),?_⟩
 conv=>whnf
 refine CallP.mono (hasEdges_spec n _ _ P T hl H1 (hv.ext gG) (hw.ext gG)) ?_
 rintro r H2 ⟨⟨b,rfl,hb⟩,g2⟩
 have aG2:=g2.at_ _ _ aG
 have g02:=gG.trans g2
 cases b with
 | false =>
  conv=>whnf
  repeat (refine SeqP.go ?_; conv=>whnf)
  exact ⟨by rw [chk_no fun h=>by cases hb.2 h.2.2.1]; rfl,g02⟩
 | true =>
  conv=>whnf
  refine ⟨_,cellsAt_row aG2 (by simp),?_⟩
  conv=>whnf
  refine CallP.mono (hasPlates_spec n _ _ P T hl (hb.1 rfl).sort hT H2 (hv.ext g02) (hw.ext g02)) ?_
  rintro r H3 ⟨⟨b,rfl,hb3⟩,g3⟩
  cases b with
  | false =>
   conv=>whnf
   repeat (refine SeqP.go ?_; conv=>whnf)
   exact ⟨by rw [chk_no fun h=>by cases hb3.2 h.2.2.2]; rfl,g02.trans g3⟩
  | true =>
   conv=>whnf
   repeat (refine SeqP.go ?_; conv=>whnf)
   exact ⟨by rw [chk_ok ⟨by omega,by omega,hb.1 rfl,hb3.1 rfl⟩]; rfl,g02.trans g3⟩
end
end Go.Proofs.Ytljbibjnidccbab
namespace Go.Proofs.Ytljbibjnidccbab
open Go.Rx Go.RowKit
theorem arr2_eq (a b a' b':Int):pureRun Try.prog (Op.equal 57 (.agg ⟨[int a,int b]⟩) (.agg ⟨[int a',int b']⟩)) = some ((a == a') && (b == b')):=by
 have st:∀ (k:Program→Sem Bool),pureRun Try.prog (.program k) = pureRun Try.prog (k Try.prog):=fun k=>rfl
 conv=>lhs; whnf
 conv=>lhs; arg 2; whnf
 conv=>lhs; arg 2; arg 1; rw [Std.Legacy.Range.forIn_eq_forIn_range']
 conv=>lhs; arg 2; whnf
 repeat (rw [st]; conv=>lhs; arg 2; whnf)
 conv=>lhs; arg 2; arg 1; whnf
 conv=>lhs; arg 2; arg 1; arg 1; whnf
 dsimp only
 cases h0:(a == a')
 ·rfl
 conv=>lhs; arg 2; whnf
 repeat (rw [st]; conv=>lhs; arg 2; whnf)
 conv=>lhs; arg 2; arg 1; whnf
 conv=>lhs; arg 2; arg 1; arg 1; whnf
 dsimp only
 cases h1:(b == b')
 ·rfl
 ·rfl
theorem pr_bind {α β:Type} {P:Program}:∀ (x:Sem α) (f:α→Sem β),pureRun P (x >>= f) = match pureRun P x with | some v=>pureRun P (f v) | none=>none:=by
 intro x f
 show pureRun P (x.bind f) = _
 induction x with
 | pure a=>rfl
 | program k ih=>exact ih P
 | _=>rfl
theorem pair_eq (x y:Operand) (a b c d:Int):aBin E .eql 57 x y (.agg ⟨[int a,int b]⟩) (.agg ⟨[int c,int d]⟩) = some (.bool ((a == c) && (b == d))):=by
 show binData E .eql 57 x y (.agg ⟨[int a,int b]⟩) (.agg ⟨[int c,int d]⟩) = _
 unfold binData
 have hg:pureRun E.prog (eqGuard .eql 57 x y (.agg ⟨[int a,int b]⟩) (.agg ⟨[int c,int d]⟩)) = some ():=by kernel_rfl
 rw [pr_bind,hg]
 dsimp only
 have he:pureRun E.prog (Op.equal 57 (.agg ⟨[int a,int b]⟩) (.agg ⟨[int c,int d]⟩)) = some ((a == c) && (b == d)):=arr2_eq a b c d
 have hb:Go.binOp .eql 57 (.agg ⟨[int a,int b]⟩) (.agg ⟨[int c,int d]⟩) = (do let r ← Op.equal 57 (.agg ⟨[int a,int b]⟩) (.agg ⟨[int c,int d]⟩); pure (.bool r)):=rfl
 rw [hb,pr_bind,he]
 rfl
theorem TLess_iff (x y:Int×Int×Int):TLess x y↔(x.1 < y.1∨x.1 = y.1∧(x.2.1 < y.2.1∨x.2.1 = y.2.1∧x.2.2 < y.2.2)):=by
 unfold TLess
 simp only [lexL,and_false,or_false]
attribute [local irreducible] E idxN cellAt cellsAt storeAt callable helems hmoved lookIn findKey keyOk hentries Hp.at Hp.set Hp.lay arBits hupdated setAt CallP YieldP BoolOf IsWrap Rnd LoopP AppP CutP Int.tmod Int.tdiv Int.fdiv
section
variable [Unknowns]
attribute [local irreducible] ResP sameAt
theorem REdge_spec (n:Int) (v w:Value) (P:List (Int×Int)) (T:List (Int×Int×Int)) (a b:Int) (hl:P.length≤20) (h:Hp) (hv:PairsV h v P) (hw:TripV h w T) :
  CallP E 24 [.agg ⟨[int n,v,w]⟩,int a,int b] h (fun r h'=>(∃ z:Int,r = int z∧(z < 0↔¬ (min a b,max a b) ∈ P))∧Grows h h'):=by
 obtain ⟨av,cap,rfl,hcv⟩:=id hv
 obtain ⟨aw,capw,rfl,hcw⟩:=id hw
 have hex1:∃ H1,h.lay (.row 27 true [int n,.slice av P.length cap,.slice aw T.length capw]) = H1:=⟨_,rfl⟩
 obtain ⟨H1,hH1⟩:=hex1
 have aG:H1.at h.next = some (.row 27 true [int n,.slice av P.length cap,.slice aw T.length capw]):=by rw [← hH1]; exact Hp.at_lay_self _ _
 have gG:Grows h H1:=by rw [← hH1]; exact Grows.lay _ _
 refine enter24 (by simp) ?_
 conv=>whnf
 refine SeqP.cut (α:=Unit) (fun _=>[(3,ptr h.next 0),(1,int a),(2,int b)]) (fun _ H=>H = H1) ?_ ?_
 ·conv=>whnf
  exact ⟨(),⟨rfl,rfl,rfl,trivial⟩,hH1,rfl⟩
 rintro _ φ H1 rfl
 generalize h.next = G at aG
 conv=>whnf
 repeat (refine SeqP.go ?_; conv=>whnf)
 refine loop_inv (α:=Nat) (fun k=>[(7,int k),(3,ptr G 0),(1,int a),(2,int b)]) (fun _=>H1) (fun k=>k≤P.length∧(∀ q,(hq:q < P.length)→q < k→P[q]≠(min a b,max a b))) (fun k=>P.length - k) 0 ⟨Nat.zero_le _,fun q _ h=>absurd h (Nat.not_lt_zero _)⟩ ⟨rfl,rfl,rfl,rfl,trivial⟩ (Hp.Le.refl _) ?_
 rintro k φ ⟨hk,hpre⟩
 conv=>whnf
 repeat (refine SeqP.go ?_; conv=>whnf)
 refine ⟨_,cellAt_row aG rfl,?_⟩
 conv=>whnf
 refine cmpB (fun d1=>?_) (fun d1=>?_)
 rotate_left
 ·conv=>whnf
  repeat (refine SeqP.go ?_; conv=>whnf)
  refine ⟨⟨-1,rfl,⟨fun _ hm=>?_,fun _=>by omega⟩⟩,gG⟩
  obtain ⟨q,hq,e⟩:=List.getElem_of_mem hm
  exact hpre q hq (by omega) e
 have hk':k < P.length:=by omega
 obtain ⟨r,o,rfl,hc0,hc1⟩:=hcv k hk'
 have kc:cellsAt H1 r (offAt o (k:Int).toNat 2) 2 = some [int (P[k]).1,int (P[k]).2]:=by
  rw [offAt_eq,show o + (k:Int).toNat * 2 = k * 2 + o by omega]
  exact cellsAt_two (gG.cell hc0) (gG.cell hc1)
 conv=>whnf
 repeat (refine SeqP.go ?_; conv=>whnf)
 refine ⟨_,cellAt_row aG rfl,?_⟩
 conv=>whnf
 refine ⟨rfl,⟨by omega,by omega⟩,?_⟩
 conv=>whnf
 refine ⟨_,kc,?_⟩
 conv=>whnf
 refine resP_val (v:=int (min a b)) (h:=H1) ?_ ?_
 ·conv=>lhs; whnf
  refine congrArg (fun n=>HRes.val (Value.int .i64 n) H1) ?_
  split <;> omega
 conv=>whnf
 refine resP_val (v:=int (max a b)) (h:=H1) ?_ ?_
 ·conv=>lhs; whnf
  refine congrArg (fun n=>HRes.val (Value.int .i64 n) H1) ?_
  split <;> omega
 conv=>whnf
 by_cases he:P[k] = (min a b,max a b)
 ·refine resP_val (v:=.bool true) (h:=H1) ?_ ?_
  ·show hval _ (aBin E .eql 57 _ _ (.agg ⟨[int (P[k]).1,int (P[k]).2]⟩) (.agg ⟨[int (min a b),int (max a b)]⟩)) = _
   rw [pair_eq,he,beq_self_eq_true,beq_self_eq_true]
   rfl
  conv=>whnf
  repeat (refine SeqP.go ?_; conv=>whnf)
  exact ⟨⟨k,rfl,⟨fun h=>by omega,fun h=>absurd (he ▸ List.getElem_mem hk') h⟩⟩,gG⟩
 ·refine resP_val (v:=.bool false) (h:=H1) ?_ ?_
  ·show hval _ (aBin E .eql 57 _ _ (.agg ⟨[int (P[k]).1,int (P[k]).2]⟩) (.agg ⟨[int (min a b),int (max a b)]⟩)) = _
   rw [pair_eq,show (((P[k]).1 == min a b) && ((P[k]).2 == max a b)) = false by
    cases e1:((P[k]).1 == min a b)
    ·rfl
    cases e2:((P[k]).2 == max a b)
    ·rfl
    exact absurd (Prod.ext (eq_of_beq e1) (eq_of_beq e2)) he]
   rfl
  conv=>whnf
  repeat (refine SeqP.go ?_; conv=>whnf)
  refine ⟨_,wid (by omega),?_⟩
  conv=>whnf
  refine Rnd.mk (k + 1) ⟨by show k + 1≤P.length; omega,fun q hq hqk=>?_⟩ (by show P.length - (k + 1) < P.length - k; omega) ⟨rfl,rfl,rfl,rfl,trivial⟩ (Hp.Le.refl _) rfl
  by_cases e:q = k
  ·subst e; exact he
  ·exact hpre q hq (by have:q < k + 1:=hqk; omega)
theorem before_spec (x y:Int×Int×Int) (h:Hp):CallP E 25 [.agg ⟨[int x.1,int x.2.1,int x.2.2]⟩,.agg ⟨[int y.1,int y.2.1,int y.2.2]⟩] h (fun r h'=>(∃ b,r = .bool b∧(b = true↔TLess x y))∧Grows h h'):=by
 obtain ⟨x0,x1,x2⟩:=x
 obtain ⟨y0,y1,y2⟩:=y
 rw [TLess_iff]
 dsimp only
 have hex1:∃ H1,h.lay (.row 58 true [int x0,int x1,int x2]) = H1:=⟨_,rfl⟩
 obtain ⟨H1,hH1⟩:=hex1
 have aX:H1.at h.next = some (.row 58 true [int x0,int x1,int x2]):=by rw [← hH1]; exact Hp.at_lay_self _ _
 have gX:Grows h H1:=by rw [← hH1]; exact Grows.lay _ _
 have hex2:∃ H2,H1.lay (.row 58 true [int y0,int y1,int y2]) = H2:=⟨_,rfl⟩
 obtain ⟨H2,hH2⟩:=hex2
 have aY:H2.at H1.next = some (.row 58 true [int y0,int y1,int y2]):=by rw [← hH2]; exact Hp.at_lay_self _ _
 have gY:Grows H1 H2:=by rw [← hH2]; exact Grows.lay _ _
 have aX2:=gY.at_ _ _ aX
 have g:=gX.trans gY
 refine enter25 (by simp) ?_
 conv=>whnf
 refine SeqP.cut (α:=Unit) (fun _=>[(2,ptr h.next 0),(3,ptr H1.next 0)]) (fun _ H=>H = H2) ?_ ?_
 ·conv=>whnf
  exact ⟨(),⟨rfl,by rw [← hH1]; rfl,trivial⟩,by rw [← hH2,← hH1],rfl⟩
 rintro _ φ H2 rfl
 generalize h.next = A at aX2
 generalize H1.next = B at aY
 conv=>whnf
 repeat (refine SeqP.go ?_; conv=>whnf)
 refine loop_inv (α:=Nat) (fun k=>[(5,int k),(2,ptr A 0),(3,ptr B 0)]) (fun _=>H2) (fun k=>k≤3∧(1≤k→x0 = y0)∧(2≤k→x1 = y1)∧(3≤k→x2 = y2)) (fun k=>3 - k) 0 ⟨by omega,by omega,by omega,by omega⟩ ⟨rfl,rfl,rfl,trivial⟩ (Hp.Le.refl _) ?_
 rintro k φ ⟨hk,e0,e1,e2⟩
 have hk3:k = 0∨k = 1∨k = 2∨k = 3:=by omega
 conv=>whnf
 repeat (refine SeqP.go ?_; conv=>whnf)
 refine cmpB (fun d1=>?_) (fun d1=>?_)
 rotate_left
 ·have:=e0 (by omega)
  have:=e1 (by omega)
  have:=e2 (by omega)
  conv=>whnf
  repeat (refine SeqP.go ?_; conv=>whnf)
  exact ⟨⟨false,rfl,⟨fun h=>(by cases h),fun h=>by omega⟩⟩,g⟩
 rcases hk3 with rfl | rfl | rfl | rfl
 ·conv=>whnf
  repeat (refine SeqP.go ?_; conv=>whnf)
  refine ⟨⟨by omega,by omega⟩,?_⟩
  conv=>whnf
  refine ⟨_,cellAt_row aX2 rfl,?_⟩
  conv=>whnf
  refine ⟨⟨by omega,by omega⟩,?_⟩
  conv=>whnf
  refine ⟨_,cellAt_row aY rfl,?_⟩
  conv=>whnf
  refine cmpB (fun d2=>?_) (fun d2=>?_)
  ·conv=>whnf
   repeat (refine SeqP.go ?_; conv=>whnf)
   refine ⟨⟨by omega,by omega⟩,?_⟩
   conv=>whnf
   refine ⟨_,cellAt_row aX2 rfl,?_⟩
   conv=>whnf
   refine ⟨⟨by omega,by omega⟩,?_⟩
   conv=>whnf
   refine ⟨_,cellAt_row aY rfl,?_⟩
   conv=>whnf
   refine cmpB (fun d3=>?_) (fun d3=>?_)
   ·conv=>whnf
    repeat (refine SeqP.go ?_; conv=>whnf)
    exact ⟨⟨true,rfl,⟨fun h=>by omega,fun _=>rfl⟩⟩,g⟩
   ·conv=>whnf
    repeat (refine SeqP.go ?_; conv=>whnf)
    exact ⟨⟨false,rfl,⟨fun h=>(by cases h),fun h=>by omega⟩⟩,g⟩
  ·conv=>whnf
   repeat (refine SeqP.go ?_; conv=>whnf)
   refine ⟨_,wid (by omega),?_⟩
   conv=>whnf
   exact Rnd.mk 1 ⟨by omega,by omega,by omega,by omega⟩ (by omega) ⟨rfl,rfl,rfl,trivial⟩ (Hp.Le.refl _) rfl
 ·conv=>whnf
  repeat (refine SeqP.go ?_; conv=>whnf)
  refine ⟨⟨by omega,by omega⟩,?_⟩
  conv=>whnf
  refine ⟨_,cellAt_row aX2 rfl,?_⟩
  conv=>whnf
  refine ⟨⟨by omega,by omega⟩,?_⟩
  conv=>whnf
  refine ⟨_,cellAt_row aY rfl,?_⟩
  conv=>whnf
  refine cmpB (fun d2=>?_) (fun d2=>?_)
  ·conv=>whnf
   repeat (refine SeqP.go ?_; conv=>whnf)
   refine ⟨⟨by omega,by omega⟩,?_⟩
   conv=>whnf
   refine ⟨_,cellAt_row aX2 rfl,?_⟩
   conv=>whnf
   refine ⟨⟨by omega,by omega⟩,?_⟩
   conv=>whnf
   refine ⟨_,cellAt_row aY rfl,?_⟩
   conv=>whnf
   refine cmpB (fun d3=>?_) (fun d3=>?_)
   ·conv=>whnf
    repeat (refine SeqP.go ?_; conv=>whnf)
    exact ⟨⟨true,rfl,⟨fun h=>by omega,fun _=>rfl⟩⟩,g⟩
   ·conv=>whnf
    repeat (refine SeqP.go ?_; conv=>whnf)
    exact ⟨⟨false,rfl,⟨fun h=>(by cases h),fun h=>by omega⟩⟩,g⟩
  ·conv=>whnf
   repeat (refine SeqP.go ?_; conv=>whnf)
   refine ⟨_,wid (by omega),?_⟩
   conv=>whnf
   exact Rnd.mk 2 ⟨by omega,by omega,by omega,by omega⟩ (by omega) ⟨rfl,rfl,rfl,trivial⟩ (Hp.Le.refl _) rfl
 ·conv=>whnf
  repeat (refine SeqP.go ?_; conv=>whnf)
  refine ⟨⟨by omega,by omega⟩,?_⟩
  conv=>whnf
  refine ⟨_,cellAt_row aX2 rfl,?_⟩
  conv=>whnf
  refine ⟨⟨by omega,by omega⟩,?_⟩
  conv=>whnf
  refine ⟨_,cellAt_row aY rfl,?_⟩
  conv=>whnf
  refine cmpB (fun d2=>?_) (fun d2=>?_)
  ·conv=>whnf
   repeat (refine SeqP.go ?_; conv=>whnf)
   refine ⟨⟨by omega,by omega⟩,?_⟩
   conv=>whnf
   refine ⟨_,cellAt_row aX2 rfl,?_⟩
   conv=>whnf
   refine ⟨⟨by omega,by omega⟩,?_⟩
   conv=>whnf
   refine ⟨_,cellAt_row aY rfl,?_⟩
   conv=>whnf
   refine cmpB (fun d3=>?_) (fun d3=>?_)
   ·conv=>whnf
    repeat (refine SeqP.go ?_; conv=>whnf)
    exact ⟨⟨true,rfl,⟨fun h=>by omega,fun _=>rfl⟩⟩,g⟩
   ·conv=>whnf
    repeat (refine SeqP.go ?_; conv=>whnf)
    exact ⟨⟨false,rfl,⟨fun h=>(by cases h),fun h=>by omega⟩⟩,g⟩
  ·conv=>whnf
   repeat (refine SeqP.go ?_; conv=>whnf)
   refine ⟨_,wid (by omega),?_⟩
   conv=>whnf
   exact Rnd.mk 3 ⟨by omega,by omega,by omega,by omega⟩ (by omega) ⟨rfl,rfl,rfl,trivial⟩ (Hp.Le.refl _) rfl
 ·omega
end
end Go.Proofs.Ytljbibjnidccbab
namespace Go.Proofs.Ytljbibjnidccbab
open Go.Rx Go.RowKit
attribute [local irreducible] E idxN cellAt cellsAt storeAt callable helems hmoved lookIn findKey keyOk hentries Hp.at Hp.set Hp.lay arBits hupdated setAt CallP YieldP BoolOf IsWrap Rnd LoopP AppP CutP Int.tmod Int.tdiv Int.fdiv
section
variable [Unknowns]
attribute [local irreducible] ResP sameAt
theorem RCheck_spec (n:Int) (v w:Value) (P:List (Int×Int)) (T:List (Int×Int×Int)) (hl:P.length≤20) (hT:T.length≤20) (h:Hp) (hv:PairsV h v P) (hw:TripV h w T) :
  CallP E 7 [.agg ⟨[int n,v,w]⟩] h (fun r h'=>(∃ b,r = .bool b∧(b = true↔GOk n P T))∧Grows h h'):=by
 obtain ⟨av,cap,rfl,hcv⟩:=id hv
 obtain ⟨aw,capw,rfl,hcw⟩:=id hw
 have hex1:∃ H1,h.lay (.row 27 true [int n,.slice av P.length cap,.slice aw T.length capw]) = H1:=⟨_,rfl⟩
 obtain ⟨H1,hH1⟩:=hex1
 have aG:H1.at h.next = some (.row 27 true [int n,.slice av P.length cap,.slice aw T.length capw]):=by rw [← hH1]; exact Hp.at_lay_self _ _
 have gG:Grows h H1:=by rw [← hH1]; exact Grows.lay _ _
 refine enter7 (by simp) ?_
 conv=>whnf
 refine SeqP.cut (α:=Unit) (fun _=>[(1,ptr h.next 0)]) (fun _ H=>H = H1) ?_ ?_
 ·conv=>whnf
  exact ⟨(),⟨rfl,trivial⟩,hH1,rfl⟩
 rintro _ φ H1 rfl
 generalize h.next = G at aG
 conv=>whnf
 refine SeqP.cut (α:=Unit) (fun _=>[(1,ptr G 0)]) (fun _ H=>H = H1∧1≤n∧n≤6∧P.length≤10∧T.length≤6) ?_ ?_
 ·conv=>whnf
  repeat (refine SeqP.go ?_; conv=>whnf)
  refine ⟨_,cellAt_row aG rfl,?_⟩
  conv=>whnf
  refine cmpB (fun c1=>?_) (fun c1=>?_)
  ·conv=>whnf
   repeat (refine SeqP.go ?_; conv=>whnf)
   exact ⟨⟨false,rfl,⟨fun h=>(by cases h),fun h=>by have:=h.1; omega⟩⟩,gG⟩
  conv=>whnf
  refine ⟨_,cellAt_row aG rfl,?_⟩
  conv=>whnf
  refine cmpB (fun c2=>?_) (fun c2=>?_)
  ·conv=>whnf
   repeat (refine SeqP.go ?_; conv=>whnf)
   exact ⟨⟨false,rfl,⟨fun h=>(by cases h),fun h=>by have:=h.2.1; omega⟩⟩,gG⟩
  conv=>whnf
  refine ⟨_,cellAt_row aG rfl,?_⟩
  conv=>whnf
  refine cmpB (fun c3=>?_) (fun c3=>?_)
  ·conv=>whnf
   repeat (refine SeqP.go ?_; conv=>whnf)
   exact ⟨⟨false,rfl,⟨fun h=>(by cases h),fun h=>by have:=h.2.2.1.1; omega⟩⟩,gG⟩
  conv=>whnf
  refine ⟨_,cellAt_row aG rfl,?_⟩
  conv=>whnf
  refine cmpB (fun c4=>?_) (fun c4=>?_)
  ·conv=>whnf
   repeat (refine SeqP.go ?_; conv=>whnf)
   exact ⟨⟨false,rfl,⟨fun h=>(by cases h),fun h=>by have:=h.2.2.2.1; omega⟩⟩,gG⟩
  ·conv=>whnf
   repeat (refine SeqP.go ?_; conv=>whnf)
   exact ⟨(),⟨rfl,trivial⟩,⟨rfl,by omega,by omega,by omega,by omega⟩,rfl⟩
 rintro _ φ H1 ⟨rfl,hn1,hn6,hP10,hT6⟩
 conv=>whnf
 refine SeqP.cut (α:=Unit) (fun _=>[(1,ptr G 0)]) (fun _ H=>H = H1∧EOk n P) ?_ ?_
 ·conv=>whnf
  repeat (refine SeqP.go ?_; conv=>whnf)
  refine loop_inv (α:=Nat) (fun k=>[(3,int k),(1,ptr G 0)]) (fun _=>H1) (fun k=>k≤P.length∧(∀ q,(hq:q < P.length)→q < k→EGood n P q hq)) (fun k=>P.length - k) 0 ⟨Nat.zero_le _,fun q _ h=>absurd h (Nat.not_lt_zero _)⟩ ⟨rfl,rfl,trivial⟩ (Hp.Le.refl _) ?_
  rintro k φ ⟨hk,hpre⟩
  conv=>whnf
  repeat (refine SeqP.go ?_; conv=>whnf)
  refine ⟨_,cellAt_row aG rfl,?_⟩
  conv=>whnf
  refine cmpB (fun d1=>?_) (fun d1=>?_)
  rotate_left
  ·conv=>whnf
   repeat (refine SeqP.go ?_; conv=>whnf)
   exact ⟨(),⟨rfl,trivial⟩,⟨rfl,hP10,fun i hi=>hpre i hi (by omega)⟩,rfl⟩
  have hk':k < P.length:=by omega
  obtain ⟨r,o,rfl,hc0,hc1⟩:=hcv k hk'
  have bad:¬ EGood n P k hk'→¬ GOk n P T:=fun h1 h2=>h1 (h2.2.2.1.2 k hk')
  have hxe:∃ x,P[k] = x:=⟨_,rfl⟩
  obtain ⟨x,hx⟩:=hxe
  have egx:EGood n P k hk'↔0≤x.1∧x.1 < x.2∧x.2 < n∧(0 < k→PLess (P[k - 1]'(by omega)) x):=by unfold EGood; rw [hx]
  rw [hx] at hc0 hc1
  have p0:cellAt H1 r (0 + (k * 2 + o)) = some (int x.1):=by rw [Nat.zero_add]; exact gG.cell hc0
  have p1:cellAt H1 r (1 + (k * 2 + o)) = some (int x.2):=by rw [Nat.add_comm]; exact gG.cell hc1
  have nxt:EGood n P k hk'→∀ q,(hq:q < P.length)→q < k + 1→EGood n P q hq:=fun hg q hq hqk=>by
   by_cases e:q = k
   ·subst e; exact hg
   ·exact hpre q hq (by omega)
  conv=>whnf
  refine SeqP.go ?_
  conv=>whnf
  refine SeqP.cut (α:=Unit) (fun _=>[(3,int k),(4,int x.1),(5,int x.2),(1,ptr G 0)]) (fun _ H=>H = H1) ?_ ?_
  ·conv=>whnf
   repeat (refine SeqP.go ?_; conv=>whnf)
   refine ⟨_,cellAt_row aG rfl,?_⟩
   conv=>whnf
   refine ⟨rfl,⟨by omega,by omega⟩,?_⟩
   conv=>whnf
   refine ⟨⟨by omega,by omega⟩,?_⟩
   conv=>whnf
   refine ⟨_,p0,?_⟩
   conv=>whnf
   refine ⟨_,cellAt_row aG rfl,?_⟩
   conv=>whnf
   refine ⟨rfl,⟨by omega,by omega⟩,?_⟩
   conv=>whnf
   refine ⟨⟨by omega,by omega⟩,?_⟩
   conv=>whnf
   refine ⟨_,p1,?_⟩
   conv=>whnf
   exact ⟨(),⟨rfl,rfl,rfl,rfl,trivial⟩,rfl,rfl⟩
  rintro _ φ H1 rfl
  conv=>whnf
  repeat (refine SeqP.go ?_; conv=>whnf)
  refine cmpB (fun d2=>?_) (fun d2=>?_)
  ·conv=>whnf
   repeat (refine SeqP.go ?_; conv=>whnf)
   exact ⟨⟨false,rfl,⟨fun h=>(by cases h),fun h=>absurd h (bad fun h=>by have:=egx.1 h; omega)⟩⟩,gG⟩
  conv=>whnf
  refine cmpB (fun d3=>?_) (fun d3=>?_)
  ·conv=>whnf
   repeat (refine SeqP.go ?_; conv=>whnf)
   exact ⟨⟨false,rfl,⟨fun h=>(by cases h),fun h=>absurd h (bad fun h=>by have:=egx.1 h; omega)⟩⟩,gG⟩
  conv=>whnf
  refine ⟨_,cellAt_row aG rfl,?_⟩
  conv=>whnf
  refine cmpB (fun d4=>?_) (fun d4=>?_)
  ·conv=>whnf
   repeat (refine SeqP.go ?_; conv=>whnf)
   exact ⟨⟨false,rfl,⟨fun h=>(by cases h),fun h=>absurd h (bad fun h=>by have:=egx.1 h; omega)⟩⟩,gG⟩
  conv=>whnf
  refine cmpB (fun c2=>?_) (fun c2=>?_)
  rotate_left
  ·conv=>whnf
   repeat (refine SeqP.go ?_; conv=>whnf)
   refine ⟨_,wid (by omega),?_⟩
   conv=>whnf
   exact Rnd.mk (k + 1) ⟨by show k + 1≤P.length; omega,nxt (egx.2 ⟨by omega,by omega,by omega,fun h=>by omega⟩)⟩ (by show P.length - (k + 1) < P.length - k; omega) ⟨rfl,rfl,trivial⟩ (Hp.Le.refl _) rfl
  have hk1:k - 1 < P.length:=by omega
  have hcc:=hcv (k - 1) hk1
  obtain ⟨r',o',e',hd0,hd1⟩:=hcc
  obtain ⟨rfl,rfl⟩:r' = r∧o' = o:=by cases e'; exact ⟨rfl,rfl⟩
  have hye:∃ y,P[k - 1] = y:=⟨_,rfl⟩
  obtain ⟨y,hy⟩:=hye
  rw [hy] at hd0 hd1 egx
  have q0:cellAt H1 r' (0 + ((k - 1) * 2 + o')) = some (int y.1):=by rw [Nat.zero_add]; exact gG.cell hd0
  have q1:cellAt H1 r' (1 + ((k - 1) * 2 + o')) = some (int y.2):=by rw [Nat.add_comm]; exact gG.cell hd1
  conv=>whnf
  refine ⟨_,cellAt_row aG rfl,?_⟩
  conv=>whnf
  refine ⟨((k - 1:Nat):Int),wie (by omega) (by omega),?_⟩
  conv=>whnf
  refine ⟨rfl,⟨by omega,by omega⟩,?_⟩
  conv=>whnf
  refine ⟨⟨by omega,by omega⟩,?_⟩
  conv=>whnf
  refine ⟨_,q0,?_⟩
  conv=>whnf
  refine cmpB (fun d5=>?_) (fun d5=>?_)
  ·conv=>whnf
   repeat (refine SeqP.go ?_; conv=>whnf)
   exact ⟨⟨false,rfl,⟨fun h=>(by cases h),fun h=>absurd h (bad fun h=>by have:=(egx.1 h).2.2.2 (by omega); unfold PLess at this; omega)⟩⟩,gG⟩
  conv=>whnf
  refine ⟨_,cellAt_row aG rfl,?_⟩
  conv=>whnf
  refine ⟨((k - 1:Nat):Int),wie (by omega) (by omega),?_⟩
  conv=>whnf
  refine ⟨rfl,⟨by omega,by omega⟩,?_⟩
  conv=>whnf
  refine ⟨⟨by omega,by omega⟩,?_⟩
  conv=>whnf
  refine ⟨_,q0,?_⟩
  conv=>whnf
  refine cmpB (fun d6=>?_) (fun d6=>?_)
  rotate_left
  ·conv=>whnf
   repeat (refine SeqP.go ?_; conv=>whnf)
   refine ⟨_,wid (by omega),?_⟩
   conv=>whnf
   exact Rnd.mk (k + 1) ⟨by show k + 1≤P.length; omega,nxt (egx.2 ⟨by omega,by omega,by omega,fun h=>by unfold PLess; omega⟩)⟩ (by show P.length - (k + 1) < P.length - k; omega) ⟨rfl,rfl,trivial⟩ (Hp.Le.refl _) rfl
  conv=>whnf
  refine ⟨_,cellAt_row aG rfl,?_⟩
  conv=>whnf
  refine ⟨((k - 1:Nat):Int),wie (by omega) (by omega),?_⟩
  conv=>whnf
  refine ⟨rfl,⟨by omega,by omega⟩,?_⟩
  conv=>whnf
  refine ⟨⟨by omega,by omega⟩,?_⟩
  conv=>whnf
  refine ⟨_,q1,?_⟩
  conv=>whnf
  refine cmpB (fun d7=>?_) (fun d7=>?_)
  ·conv=>whnf
   repeat (refine SeqP.go ?_; conv=>whnf)
   exact ⟨⟨false,rfl,⟨fun h=>(by cases h),fun h=>absurd h (bad fun h=>by have:=(egx.1 h).2.2.2 (by omega); unfold PLess at this; omega)⟩⟩,gG⟩
  ·conv=>whnf
   repeat (refine SeqP.go ?_; conv=>whnf)
   refine ⟨_,wid (by omega),?_⟩
   conv=>whnf
   exact Rnd.mk (k + 1) ⟨by show k + 1≤P.length; omega,nxt (egx.2 ⟨by omega,by omega,by omega,fun h=>by unfold PLess; omega⟩)⟩ (by show P.length - (k + 1) < P.length - k; omega) ⟨rfl,rfl,trivial⟩ (Hp.Le.refl _) rfl
 rintro _ φ H1 ⟨rfl,hE⟩
 conv=>whnf
 repeat (refine SeqP.go ?_; conv=>whnf)
 refine loop_inv (α:=Nat×Hp) (fun s=>[(6,int s.1),(1,ptr G 0)]) (fun s=>s.2) (fun s=>s.1≤T.length∧(∀ q,(hq:q < T.length)→q < s.1→PGood P T q hq)∧Grows H1 s.2) (fun s=>T.length - s.1) (0,H1) ⟨Nat.zero_le _,fun q _ h=>absurd h (Nat.not_lt_zero _),.refl _⟩ ⟨rfl,rfl,trivial⟩ (Hp.Le.refl _) ?_
 rintro ⟨k,H⟩ φ ⟨hk,hpre,hg⟩
 dsimp only at hk hpre hg ⊢
 have aG1:=hg.at_ _ _ aG
 have g1:=gG.trans hg
 conv=>whnf
 repeat (refine SeqP.go ?_; conv=>whnf)
 refine ⟨_,cellAt_row aG1 rfl,?_⟩
 conv=>whnf
 refine cmpB (fun d1=>?_) (fun d1=>?_)
 rotate_left
 ·conv=>whnf
  repeat (refine SeqP.go ?_; conv=>whnf)
  exact ⟨⟨true,rfl,⟨fun _=>⟨hn1,hn6,hE,hT6,fun i hi=>hpre i hi (by omega)⟩,fun _=>rfl⟩⟩,g1⟩
 have hk':k < T.length:=by omega
 obtain ⟨r,o,rfl,hc0,hc1,hc2⟩:=hcw k hk'
 have bad:¬ PGood P T k hk'→¬ GOk n P T:=fun h1 h2=>h1 (h2.2.2.2.2 k hk')
 have hxe:∃ x,T[k] = x:=⟨_,rfl⟩
 obtain ⟨x,hx⟩:=hxe
 have egx:PGood P T k hk'↔(x.1,x.2.1) ∈ P∧(x.2.1,x.2.2) ∈ P∧(x.1,x.2.2) ∈ P∧(0 < k→TLess (T[k - 1]'(by omega)) x):=by unfold PGood; rw [hx]
 rw [hx] at hc0 hc1 hc2
 have kc:cellsAt H r (offAt o (k:Int).toNat 3) 3 = some [int x.1,int x.2.1,int x.2.2]:=by
  rw [offAt_eq,show o + (k:Int).toNat * 3 = k * 3 + o by omega]
  exact cellsAt_three (g1.cell hc0) (g1.cell hc1) (g1.cell hc2)
 have ltE:∀ a b:Int,(a,b) ∈ P→a < b:=fun a b hm=>by
  obtain ⟨i,hi,e⟩:=List.getElem_of_mem hm
  have:=(hE.2 i hi).2.1
  rw [e] at this
  exact this
 have hexD:∃ HD,H.lay (.row 58 true [int x.1,int x.2.1,int x.2.2]) = HD:=⟨_,rfl⟩
 obtain ⟨HD,hHD⟩:=hexD
 have aD:HD.at H.next = some (.row 58 true [int x.1,int x.2.1,int x.2.2]):=by rw [← hHD]; exact Hp.at_lay_self _ _
 have gD:Grows H HD:=by rw [← hHD]; exact Grows.lay _ _
 have aG2:=gD.at_ _ _ aG1
 have g2:=g1.trans gD
 have g12:=hg.trans gD
 conv=>whnf
 refine SeqP.go ?_
 conv=>whnf
 refine SeqP.cut (α:=Unit) (fun _=>[(6,int k),(7,ptr H.next 0),(1,ptr G 0)]) (fun _ Z=>Z = HD) ?_ ?_
 ·conv=>whnf
  refine ⟨_,cellAt_row aG1 rfl,?_⟩
  conv=>whnf
  refine ⟨rfl,⟨by omega,by omega⟩,?_⟩
  conv=>whnf
  refine ⟨_,kc,?_⟩
  conv=>whnf
  refine ⟨rfl,_,store3,?_⟩
  conv=>whnf
  exact ⟨(),⟨rfl,rfl,rfl,trivial⟩,hHD,rfl⟩
 rintro _ φ HD rfl
 generalize H.next = D at aD
 conv=>whnf
 repeat (refine SeqP.go ?_; conv=>whnf)
 refine ⟨⟨by omega,by omega⟩,?_⟩
 conv=>whnf
 refine ⟨_,cellAt_row aD rfl,?_⟩
 conv=>whnf
 refine ⟨⟨by omega,by omega⟩,?_⟩
 conv=>whnf
 refine ⟨_,cellAt_row aD rfl,?_⟩
 conv=>whnf
 refine cmpB (fun d2=>?_) (fun d2=>?_)
 ·conv=>whnf
  repeat (refine SeqP.go ?_; conv=>whnf)
  exact ⟨⟨false,rfl,⟨fun h=>(by cases h),fun h=>absurd h (bad fun h=>by have:=ltE _ _ (egx.1 h).1; omega)⟩⟩,g2⟩
 conv=>whnf
 refine ⟨⟨by omega,by omega⟩,?_⟩
 conv=>whnf
 refine ⟨_,cellAt_row aD rfl,?_⟩
 conv=>whnf
 refine ⟨⟨by omega,by omega⟩,?_⟩
 conv=>whnf
 refine ⟨_,cellAt_row aD rfl,?_⟩
 conv=>whnf
 refine cmpB (fun d3=>?_) (fun d3=>?_)
 ·conv=>whnf
  repeat (refine SeqP.go ?_; conv=>whnf)
  exact ⟨⟨false,rfl,⟨fun h=>(by cases h),fun h=>absurd h (bad fun h=>by have:=ltE _ _ (egx.1 h).2.1; omega)⟩⟩,g2⟩
 conv=>whnf
 refine ⟨_,cellsAt_row aG2 (by simp),?_⟩
 conv=>whnf
 refine ⟨⟨by omega,by omega⟩,?_⟩
 conv=>whnf
 refine ⟨_,cellAt_row aD rfl,?_⟩
 conv=>whnf
 refine ⟨⟨by omega,by omega⟩,?_⟩
 conv=>whnf
 refine ⟨_,cellAt_row aD rfl,?_⟩
 conv=>whnf
 refine CallP.mono (REdge_spec n _ _ P T x.1 x.2.1 hl _ (hv.ext g2) (hw.ext g2)) ?_
 rintro rr H3 ⟨⟨z,rfl,hz⟩,g3⟩
 rw [Int.min_eq_left (by omega),Int.max_eq_right (by omega)] at hz
 have aG3:=g3.at_ _ _ aG2
 have aD3:=g3.at_ _ _ aD
 have g13:=g2.trans g3
 conv=>whnf
 refine cmpB (fun d4=>?_) (fun d4=>?_)
 ·conv=>whnf
  repeat (refine SeqP.go ?_; conv=>whnf)
  exact ⟨⟨false,rfl,⟨fun h=>(by cases h),fun h=>absurd h (bad fun h=>hz.1 d4 (egx.1 h).1)⟩⟩,g13⟩
 have hm1:(x.1,x.2.1) ∈ P:=Classical.byContradiction fun h=>d4 (hz.2 h)
 clear hz
 conv=>whnf
 refine ⟨_,cellsAt_row aG3 (by simp),?_⟩
 conv=>whnf
 refine ⟨⟨by omega,by omega⟩,?_⟩
 conv=>whnf
 refine ⟨_,cellAt_row aD3 rfl,?_⟩
 conv=>whnf
 refine ⟨⟨by omega,by omega⟩,?_⟩
 conv=>whnf
 refine ⟨_,cellAt_row aD3 rfl,?_⟩
 conv=>whnf
 refine CallP.mono (REdge_spec n _ _ P T x.1 x.2.2 hl _ (hv.ext g13) (hw.ext g13)) ?_
 rintro rr H4 ⟨⟨z4,rfl,hz⟩,g4⟩
 rw [Int.min_eq_left (by omega),Int.max_eq_right (by omega)] at hz
 have aG4:=g4.at_ _ _ aG3
 have aD4:=g4.at_ _ _ aD3
 have g14:=g13.trans g4
 conv=>whnf
 refine cmpB (fun d5=>?_) (fun d5=>?_)
 ·conv=>whnf
  repeat (refine SeqP.go ?_; conv=>whnf)
  exact ⟨⟨false,rfl,⟨fun h=>(by cases h),fun h=>absurd h (bad fun h=>hz.1 d5 (egx.1 h).2.2.1)⟩⟩,g14⟩
 have hm2:(x.1,x.2.2) ∈ P:=Classical.byContradiction fun h=>d5 (hz.2 h)
 clear hz
 conv=>whnf
 refine ⟨_,cellsAt_row aG4 (by simp),?_⟩
 conv=>whnf
 refine ⟨⟨by omega,by omega⟩,?_⟩
 conv=>whnf
 refine ⟨_,cellAt_row aD4 rfl,?_⟩
 conv=>whnf
 refine ⟨⟨by omega,by omega⟩,?_⟩
 conv=>whnf
 refine ⟨_,cellAt_row aD4 rfl,?_⟩
 conv=>whnf
 refine CallP.mono (REdge_spec n _ _ P T x.2.1 x.2.2 hl _ (hv.ext g14) (hw.ext g14)) ?_
 rintro rr H5 ⟨⟨z5,rfl,hz⟩,g5⟩
 rw [Int.min_eq_left (by omega),Int.max_eq_right (by omega)] at hz
 have aG5:=g5.at_ _ _ aG4
 have aD5:=g5.at_ _ _ aD4
 have g15:=g14.trans g5
 conv=>whnf
 refine cmpB (fun d6=>?_) (fun d6=>?_)
 ·conv=>whnf
  repeat (refine SeqP.go ?_; conv=>whnf)
  exact ⟨⟨false,rfl,⟨fun h=>(by cases h),fun h=>absurd h (bad fun h=>hz.1 d6 (egx.1 h).2.1)⟩⟩,g15⟩
 have hm3:(x.2.1,x.2.2) ∈ P:=Classical.byContradiction fun h=>d6 (hz.2 h)
 clear hz
 have g25:=((g12.trans g3).trans g4).trans g5
 conv=>whnf
 refine cmpB (fun c2=>?_) (fun c2=>?_)
 rotate_left
 ·conv=>whnf
  repeat (refine SeqP.go ?_; conv=>whnf)
  refine ⟨_,wid (by omega),?_⟩
  conv=>whnf
  refine Rnd.mk (k + 1,H5) ⟨by show k + 1≤T.length; omega,fun q hq hqk=>?_,g25⟩ (by show T.length - (k + 1) < T.length - k; omega) ⟨rfl,rfl,trivial⟩ (Hp.Le.refl _) rfl
  by_cases e:q = k
  ·subst e; exact egx.2 ⟨hm1,hm3,hm2,fun h=>by omega⟩
  ·exact hpre q hq (by have:q < k + 1:=hqk; omega)
 have hk1:k - 1 < T.length:=by omega
 have hcc:=hcw (k - 1) hk1
 obtain ⟨r',o',e',hd0,hd1,hd2⟩:=hcc
 obtain ⟨rfl,rfl⟩:r' = r∧o' = o:=by cases e'; exact ⟨rfl,rfl⟩
 have hye:∃ y,T[k - 1] = y:=⟨_,rfl⟩
 obtain ⟨y,hy⟩:=hye
 rw [hy] at hd0 hd1 hd2 egx
 have ky:cellsAt H5 r' (offAt o' ((k - 1:Nat):Int).toNat 3) 3 = some [int y.1,int y.2.1,int y.2.2]:=by
  rw [offAt_eq,show o' + ((k - 1:Nat):Int).toNat * 3 = (k - 1) * 3 + o' by omega]
  exact cellsAt_three (g15.cell hd0) (g15.cell hd1) (g15.cell hd2)
 conv=>whnf
 refine ⟨_,cellAt_row aG5 rfl,?_⟩
 conv=>whnf
 refine ⟨((k - 1:Nat):Int),wie (by omega) (by omega),?_⟩
 conv=>whnf
 refine ⟨rfl,⟨by omega,by omega⟩,?_⟩
 conv=>whnf
 refine ⟨_,ky,?_⟩
 conv=>whnf
 refine ⟨_,cellsAt_row aD5 (by simp),?_⟩
 conv=>whnf
 refine CallP.mono (before_spec y x _) ?_
 rintro rr H6 ⟨⟨b,rfl,hb⟩,g6⟩
 cases b with
 | false =>
  conv=>whnf
  repeat (refine SeqP.go ?_; conv=>whnf)
  exact ⟨⟨false,rfl,⟨fun h=>(by cases h),fun h=>absurd h (bad fun h=>by cases hb.2 ((egx.1 h).2.2.2 (by omega)))⟩⟩,g15.trans g6⟩
 | true =>
  conv=>whnf
  repeat (refine SeqP.go ?_; conv=>whnf)
  refine ⟨_,wid (by omega),?_⟩
  conv=>whnf
  refine Rnd.mk (k + 1,H6) ⟨by show k + 1≤T.length; omega,fun q hq hqk=>?_,g25.trans g6⟩ (by show T.length - (k + 1) < T.length - k; omega) ⟨rfl,rfl,trivial⟩ (Hp.Le.refl _) rfl
  by_cases e:q = k
  ·subst e; exact egx.2 ⟨hm1,hm3,hm2,fun h=>hb.1 rfl⟩
  ·exact hpre q hq (by have:q < k + 1:=hqk; omega)
end
end Go.Proofs.Ytljbibjnidccbab
namespace Go.Proofs.Ytljbibjnidccbab
open Go.Rx Go.RowKit
theorem ty25:(tiOf Try.prog 25).isSome = true:=by kernel_rfl
theorem sz25:((tiOf Try.prog 25).get ty25).size = 3:=by kernel_rfl
theorem ag25:((tiOf Try.prog 25).get ty25).agg = true:=by kernel_rfl
theorem te25:E.ty 25 = some ((tiOf Try.prog 25).get ty25):=ty_get (by kernel_rfl) (Option.some_get ty25).symm
theorem ty27:(tiOf Try.prog 27).isSome = true:=by kernel_rfl
theorem sz27:((tiOf Try.prog 27).get ty27).size = 3:=by kernel_rfl
theorem ag27:((tiOf Try.prog 27).get ty27).agg = true:=by kernel_rfl
theorem te27:E.ty 27 = some ((tiOf Try.prog 27).get ty27):=ty_get (by kernel_rfl) (Option.some_get ty27).symm
def flat3:List (Int×Int×Int)→List Int
 | []=>[]
 | x :: T=>x.1 :: x.2.1 :: x.2.2 :: flat3 T
theorem flat3_length:∀ T:List (Int×Int×Int),(flat3 T).length = T.length * 3
 | []=>rfl
 | x :: T=>by simp only [flat3,List.length_cons,flat3_length T]; omega
theorem flat3_get:∀ (T:List (Int×Int×Int)) (k:Nat) (h:k < T.length),(flat3 T)[k * 3]? = some (T[k]).1∧(flat3 T)[k * 3 + 1]? = some (T[k]).2.1∧(flat3 T)[k * 3 + 2]? = some (T[k]).2.2
 | x :: T,0,h=>⟨rfl,rfl,rfl⟩
 | x :: T,k + 1,h=>by
  have:=flat3_get T k (by simpa using h)
  refine ⟨?_,?_,?_⟩
  ·rw [show (k + 1) * 3 = k * 3 + 1 + 1 + 1 by omega]; exact this.1
  ·rw [show (k + 1) * 3 + 1 = k * 3 + 1 + 1 + 1 + 1 by omega]; exact this.2.1
  ·rw [show (k + 1) * 3 + 2 = k * 3 + 2 + 1 + 1 + 1 by omega]; exact this.2.2
theorem flat3_take:∀ (T:List (Int×Int×Int)) (k:Nat),flat3 (T.take k) = (flat3 T).take (k * 3)
 | [],k=>by simp [flat3]
 | x :: T,0=>by simp [flat3]
 | x :: T,k + 1=>by
  rw [List.take_succ_cons,flat3,flat3_take T k,flat3,show (k + 1) * 3 = k * 3 + 1 + 1 + 1 by omega,List.take_succ_cons,List.take_succ_cons,List.take_succ_cons]
theorem flat3_of:∀ (n:Nat) (l:List Int),l.length = n * 3→∃ T:List (Int×Int×Int),T.length = n∧flat3 T = l
 | 0,l,h=>⟨[],rfl,by have:l = []:=List.eq_nil_of_length_eq_zero (by omega); rw [this]; rfl⟩
 | n + 1,l,h=>by
  match l,h with
  | a :: b :: c :: l,h =>
   obtain ⟨T,h1,h2⟩:=flat3_of n l (by simp only [List.length_cons] at h; omega)
   exact ⟨(a,b,c) :: T,by simp [h1],by rw [flat3,h2]⟩
  | [a,b],h=>simp only [List.length_cons,List.length_nil] at h; omega
  | [a],h=>simp only [List.length_cons,List.length_nil] at h; omega
  | [],h=>simp only [List.length_nil] at h; omega
theorem LentC.trips {h:Hp} {v:Value} {T:List (Int×Int×Int)} (k:LentC h v T.length (flat3 T)):TripV h v T:=by
 rcases k with ⟨rfl,e,_⟩ | ⟨r,rfl,hr⟩
 ·exact ⟨none,0,by rw [e],fun j hj=>by omega⟩
 ·refine ⟨_,_,rfl,fun j hj=>⟨r,0,rfl,?_⟩⟩
  have hf:=flat3_get T j hj
  unfold cellAt
  rw [hr]
  dsimp only
  rw [List.getElem?_map,List.getElem?_map,List.getElem?_map,Nat.add_zero,hf.1,hf.2.1,hf.2.2]
  exact ⟨rfl,rfl,rfl⟩
theorem LentV.trips {h:Hp} {v:Value} {T:List (Int×Int×Int)} (k:LentV h v T.length (flat3 T)):TripV h v T:=by
 rcases k with k | ⟨rfl,e,_⟩
 ·exact LentC.trips k
 ·exact ⟨_,0,by rw [e]; rfl,fun j hj=>by omega⟩
theorem BuiltC.trips {h0 h:Hp} {e:TypeId} {v:Value} {T:List (Int×Int×Int)} (k:BuiltC h0 h e 3 v T.length ((flat3 T).map int)):TripV h v T:=by
 obtain ⟨a,rfl,ha⟩:=k.slice
 refine ⟨a,_,rfl,fun j hj=>?_⟩
 obtain ⟨r,rfl,x,hr⟩:=ha j hj
 have hf:=flat3_get T j hj
 refine ⟨r,0,rfl,?_,?_,?_⟩
 ·exact cellAt_row hr (by rw [List.getElem?_map,Nat.add_zero,hf.1]; rfl)
 ·exact cellAt_row hr (by rw [List.getElem?_map,Nat.add_zero,hf.2.1]; rfl)
 ·exact cellAt_row hr (by rw [List.getElem?_map,Nat.add_zero,hf.2.2]; rfl)
theorem LentV.view {h:Hp} {v:Value} {l:List Int} (k:LentV h v l.length l):View h v l:=by
 rcases k with (⟨rfl,_,e⟩ | ⟨r,rfl,hr⟩) | ⟨rfl,_,e⟩
 ·exact .inl ⟨e,.inl rfl⟩
 ·refine .inr ⟨r,0,_,rfl,Nat.le_refl _,.inr ⟨_,hr,by simp⟩,fun k hk=>?_⟩
  unfold cellAt
  rw [hr]
  dsimp only
  rw [List.getElem?_map,Nat.zero_add,List.getElem?_eq_getElem hk]
  rfl
 ·exact .inl ⟨e,.inr rfl⟩
theorem cutW (s:Nat) {h:Hp} {v:Value} {n k:Nat} {l:List Int} (hv:LentV h v n l) (hl:l.length = n * s) (hk:k≤n) :
  ∃ a c,∀ h',Grows h h'→ElemsC h' s (.slice a k c) k ((l.take (k * s)).map int)∧∀ hi,hi = some (int k)→hcutS h' s v none hi none = .val (.slice a k c) h':=by
 have hb:BdOf none (some (int k)) n 0 k:=⟨.inl ⟨rfl,rfl⟩,.inr rfl⟩
 rcases hv with (⟨rfl,rfl,rfl⟩ | ⟨r,rfl,hr0⟩) | ⟨rfl,rfl,rfl⟩
 ·have:k = 0:=by omega
  subst this
  refine ⟨none,0,fun h' g=>⟨⟨rfl,by simp [helems],by simp,by simp⟩,?_⟩⟩
  rintro _ rfl
  unfold hcutS
  dsimp only
  rw [bounds_of (len:=0) hb (by omega) (by omega) (Nat.le_refl _)]
  rfl
 ·have shape:∀ h':Hp,hcutS h' s (slc r 0 n n) none (some (int k)) none = hcutObj h' s r 0 true (some (0,k,n)) (h'.at r):=fun h'=>by
   unfold hcutS
   dsimp only [slc]
   rw [bounds_of hb (by omega) hk (Nat.le_refl _)]
   rfl
  have hks:k * s≤n * s:=Nat.mul_le_mul_right _ hk
  have hlen:((l.take (k * s)).map int).length = k * s:=by rw [List.length_map,List.length_take]; omega
  have el:∀ h':Hp,h'.at r = some (.lent (l.map int))→∀ x,x = slc r 0 k n∨x = void∧k = 0→ElemsC h' s x k ((l.take (k * s)).map int):=by
   rintro h' hr x (rfl | ⟨rfl,rfl⟩)
   ·refine ⟨rfl,?_,hlen,ints_one _⟩
    show cellsAt h' r 0 (k * s) = _
    unfold cellsAt
    rw [hr]
    dsimp only
    unfold Go.Rx.cellsIn
    rw [if_pos (by rw [List.length_map]; omega),List.drop_zero,List.map_take]
   ·exact ⟨rfl,by simp [helems,void],by simp,by simp⟩
  have hcut:∀ h':Hp,hcutObj h' s r 0 true (some (0,k,n)) (some (.lent (l.map int))) = lift (cutOf D0 s r 0 true (some (0,k,n))) h':=fun h'=>rfl
  unfold cutOf cutOpen at hcut
  dsimp only at hcut
  cases hble:Nat.ble (Nat.succ 0) n with
  | true =>
   rw [hble] at hcut
   refine ⟨_,_,fun h' g=>⟨el h' (g.at_ _ _ hr0) _ (.inl rfl),?_⟩⟩
   rintro _ rfl
   rw [shape,g.at_ _ _ hr0,hcut]
   show HRes.val (.slice (some ⟨r,Nat.add 0 (Nat.mul 0 s),none⟩) (Nat.sub k 0) (Nat.sub n 0)) h' = _
   rw [show Nat.mul 0 s = 0 from Nat.zero_mul s]
   rfl
  | false =>
   rw [hble] at hcut
   have hn:¬ 1≤n:=fun hle=>by rw [Nat.ble_eq_true_of_le hle] at hble; cases hble
   have hk0:k = 0:=by omega
   subst hk0
   have hn0:n = 0:=by omega
   subst hn0
   refine ⟨_,_,fun h' g=>⟨el h' (g.at_ _ _ hr0) void (.inr ⟨rfl,rfl⟩),?_⟩⟩
   rintro _ rfl
   rw [shape,g.at_ _ _ hr0,hcut]
   rfl
 ·have:k = 0:=by omega
  subst this
  have el0:∀ h':Hp,ElemsC h' s void 0 ((([]:List Int).take (0 * s)).map int):=fun h'=>⟨rfl,by simp [helems,void],by simp,by simp⟩
  refine ⟨_,_,fun h' g=>⟨el0 h',?_⟩⟩
  rintro _ rfl
  unfold hcutS
  dsimp only [void]
  rw [bounds_of (len:=0) (i:=0) (j:=0) ⟨.inl ⟨rfl,rfl⟩,.inr rfl⟩ (by omega) (by omega) (Nat.le_refl _)]
  rfl
attribute [local irreducible] E idxN cellAt cellsAt storeAt callable helems hmoved lookIn findKey keyOk hentries Hp.at Hp.set Hp.lay arBits hupdated setAt CallP YieldP BoolOf IsWrap Rnd LoopP AppP CutP Int.tmod Int.tdiv Int.fdiv
section
variable [Unknowns]
attribute [local irreducible] ResP sameAt flat flat3
theorem few_spec (v:Value) (l:List Int) (h:Hp) (hv:View h v l) (hl:l.length < 9223372036854775808):CallP E 6 [v,int 11] h (fun r h'=>Built h h' 3 r (l.take 11)∧Grows h h'):=by
 obtain ⟨a,c,rfl⟩:=hv.known
 refine enter6 (by simp) ?_
 conv=>whnf
 repeat (refine SeqP.go ?_; conv=>whnf)
 refine resP_val (v:=int ((min l.length 11:Nat):Int)) (h:=h) ?_ ?_
 ·conv=>lhs; whnf
  refine congrArg (fun n=>HRes.val (Value.int .i64 n) h) ?_
  split <;> omega
 conv=>whnf
 refine CutP.ints (i:=0) (j:=min l.length 11) hv ⟨.inl ⟨rfl,rfl⟩,.inr rfl⟩ (by omega) (by omega) ?_
 intro v' hv' _ _
 conv=>whnf
 refine AppP.ints (h0:=h) (.inl ⟨rfl,rfl⟩) (.refl _) hv'.elems (by simp; omega) ?_
 intro v2 h2 hb hg _
 have e:[] ++ ((l.drop 0).take (min l.length 11 - 0)) = l.take 11:=by
  rw [List.nil_append,List.drop_zero,Nat.sub_zero]
  by_cases hml:11≤l.length
  ·rw [Nat.min_eq_right hml]
  ·rw [Nat.min_eq_left (by omega),List.take_of_length_le (Nat.le_refl _),List.take_of_length_le (by omega)]
 rw [e] at hb
 have hb':=hb
 rcases hb' with ⟨rfl,_⟩ | ⟨r,rfl,_,_⟩
 ·conv=>whnf
  repeat (refine SeqP.go ?_; conv=>whnf)
  exact ⟨hb,hg⟩
 ·conv=>whnf
  repeat (refine SeqP.go ?_; conv=>whnf)
  exact ⟨hb,hg⟩
end
end Go.Proofs.Ytljbibjnidccbab
namespace Go.Proofs.Ytljbibjnidccbab
open Go.Rx Go.RowKit
theorem BuiltC.beside {h0 h:Hp} {e s n:Nat} {v:Value} {cs:List Value} (k:BuiltC h0 h e s v n cs) {R:Nat} (hR:R < h0.next) (o:Go.Rx.Obj):BuiltC h0 (h.set R o) e s v n cs:=by
 refine BuiltC.kx (v:=slc R 0 0 0) k (Kx.set h R _) ?_
 intro r e1 e2
 have e1:R = r:=Option.some.inj e1
 have:=(BuiltC.ad_lt k r e2).1
 omega
attribute [local irreducible] E idxN cellAt cellsAt storeAt callable helems hmoved lookIn findKey keyOk hentries Hp.at Hp.set Hp.lay arBits hupdated setAt CallP YieldP BoolOf IsWrap Rnd LoopP AppP CutP Int.tmod Int.tdiv Int.fdiv
section
variable [Unknowns]
attribute [local irreducible] ResP sameAt flat flat3 finP
theorem own_spec (n:Int) (v w:Value) (L:List (Int×Int)) (M:List (Int×Int×Int)) (h:Hp) (hv:LentV h v L.length (flat L)) (hw:LentV h w M.length (flat3 M)) (hL:L.length < 9223372036854775808) (hM:M.length < 9223372036854775808) :
  CallP E 4 [.agg ⟨[int n,v,w]⟩] h (fun r h'=>(∃ a b,r = .agg ⟨[int n,a,b]⟩∧BuiltC h h' 57 2 a (L.take 11).length ((flat (L.take 11)).map int)∧BuiltC h h' 58 3 b (M.take 7).length ((flat3 (M.take 7)).map int))∧Grows h h'):=by
 obtain ⟨av,cap,rfl,-⟩:=id hv.pairs
 obtain ⟨aw,capw,rfl,-⟩:=LentV.trips hw
 have hex1:∃ H1,h.lay (.row 25 true [int n,.slice av L.length cap,.slice aw M.length capw]) = H1:=⟨_,rfl⟩
 obtain ⟨H1,hH1⟩:=hex1
 have aG:H1.at h.next = some (.row 25 true [int n,.slice av L.length cap,.slice aw M.length capw]):=by rw [← hH1]; exact Hp.at_lay_self _ _
 have gG:Grows h H1:=by rw [← hH1]; exact Grows.lay _ _
 have hex2:∃ H2,H1.lay (.row 27 true [int 0,.slice none 0 0,.slice none 0 0]) = H2:=⟨_,rfl⟩
 obtain ⟨H2,hH2⟩:=hex2
 have aR:H2.at H1.next = some (.row 27 true [int 0,.slice none 0 0,.slice none 0 0]):=by rw [← hH2]; exact Hp.at_lay_self _ _
 have gR:Grows H1 H2:=by rw [← hH2]; exact Grows.lay _ _
 have g02:=gG.trans gR
 have aG2:=gR.at_ _ _ aG
 have nG:=gG.next
 have hne:h.next≠H1.next:=fun e=>by have:=Hp.lt_of_at aG; omega
 refine enter4 (by simp) ?_
 conv=>whnf
 refine SeqP.cut (α:=Unit) (fun _=>[(1,ptr h.next 0),(2,ptr H1.next 0)]) (fun _ H=>H = H2) ?_ ?_
 ·conv=>whnf
  exact ⟨(),⟨rfl,by rw [← hH1]; rfl,trivial⟩,by rw [← hH2,← hH1],rfl⟩
 rintro _ φ H2 rfl
 have nR:=gR.next
 have ltR:=Hp.lt_of_at aR
 generalize hGe:h.next = G at aG aG2 nG hne
 generalize hRe:H1.next = R at aR nG hne nR ltR
 have c0:cellAt H2 G 0 = some (int n):=cellAt_row aG2 rfl
 have c1:cellAt H2 G 1 = some (.slice av L.length cap):=cellAt_row aG2 rfl
 have c2:cellAt H2 G 2 = some (.slice aw M.length capw):=cellAt_row aG2 rfl
 have hv2:=hv.ext g02
 have hw2:=hw.ext g02
 have hcA:=cutW 2 (k:=min L.length 11) hv2 (flat_length L) (by omega)
 obtain ⟨ax,cx,hA⟩:=hcA
 obtain ⟨hx,kA⟩:=hA H2 (.refl _)
 have hcB:=cutW 3 (k:=min M.length 7) hw2 (flat3_length M) (by omega)
 obtain ⟨ay,cy,hB⟩:=hcB
 obtain ⟨_,kB2⟩:=hB H2 (.refl _)
 conv=>whnf
 repeat (refine SeqP.go ?_; conv=>whnf)
 refine ⟨_,c0,?_⟩
 conv=>whnf
 refine ⟨_,c1,?_⟩
 conv=>whnf
 refine ⟨_,c1,?_⟩
 conv=>whnf
 refine CutP.val (kA _ (by
  conv=>lhs; arg 1; whnf
  refine congrArg (fun n=>some (Value.int .i64 n)) ?_
  split <;> omega)) ?_
 conv=>whnf
 refine AppP.cells (h0:=H2) BuiltC.nil (.refl _) hx (by omega) (by omega) ?_
 intro a3 H3 hb3 g3 _
 have e1:(flat L).take (min L.length 11 * 2) = flat (L.take 11):=by
  rw [← flat_take,show L.take (min L.length 11) = L.take 11 by
   by_cases h:L.length≤11
   ·rw [Nat.min_eq_left h,List.take_of_length_le (Nat.le_refl _),List.take_of_length_le h]
   ·rw [Nat.min_eq_right (by omega)]]
 rw [List.nil_append,e1,Nat.zero_add,show min L.length 11 = (L.take 11).length by rw [List.length_take]; omega] at hb3
 have c2':=g3.cell c2
 obtain ⟨hy,kB⟩:=hB H3 g3
 conv=>whnf
 refine ⟨_,c2',?_⟩
 conv=>whnf
 refine ⟨_,c2',?_⟩
 conv=>whnf
 refine CutP.val (kB _ (by
  conv=>lhs; arg 1; whnf
  refine congrArg (fun n=>some (Value.int .i64 n)) ?_
  split <;> omega)) ?_
 conv=>whnf
 refine AppP.cells (h0:=H3) BuiltC.nil (.refl _) hy (by omega) (by omega) ?_
 intro b4 H4 hb4 g4 _
 have e2:(flat3 M).take (min M.length 7 * 3) = flat3 (M.take 7):=by
  rw [← flat3_take,show M.take (min M.length 7) = M.take 7 by
   by_cases h:M.length≤7
   ·rw [Nat.min_eq_left h,List.take_of_length_le (Nat.le_refl _),List.take_of_length_le h]
   ·rw [Nat.min_eq_right (by omega)]]
 rw [List.nil_append,e2,Nat.zero_add,show min M.length 7 = (M.take 7).length by rw [List.length_take]; omega] at hb4
 have hb3':=hb3.ext g4
 have hb4':=hb4.back g3.next
 have hs3:=hb3'.slice
 obtain ⟨a5,rfl,-⟩:=hs3
 have hs4:=hb4'.slice
 obtain ⟨a6,rfl,-⟩:=hs4
 have g24:=g3.trans g4
 have aR4:=g24.at_ _ _ aR
 have aG4:=g24.at_ _ _ aG2
 conv=>whnf
 refine ⟨rfl,_,storeAt_full (vs:=[int n,.slice a5 (L.take 11).length (L.take 11).length,.slice a6 (M.take 7).length (M.take 7).length]) aR4 rfl rfl rfl,?_⟩
 conv=>whnf
 refine ⟨?_,?_⟩
 rotate_left
 ·conv=>whnf
  repeat (refine SeqP.go ?_; conv=>whnf)
  refine leave_cell (i:=(tiOf Try.prog 27).get ty27) (r:=R) (o:=0) (cs:=[int n,.slice a5 (L.take 11).length (L.take 11).length,.slice a6 (M.take 7).length (M.take 7).length]) rfl te27 ag27 ?_ ?_
  ·rw [sz27,cellsAt_row (Hp.at_set_self _ (Hp.lt_of_at aR4)) (Nat.le_refl _)]
   rfl
  ·have gfin:Grows h (H4.set R (.row 27 true [int n,.slice a5 (L.take 11).length (L.take 11).length,.slice a6 (M.take 7).length (M.take 7).length])):=(g02.trans g24).then_set _ (by omega)
   exact ⟨⟨_,_,rfl,(BuiltC.beside hb3' ltR _).back g02.next,(BuiltC.beside hb4' ltR _).back g02.next⟩,gfin⟩
 have cR:∀ k,k≠R→∀ o,H4.at k = some o→(H4.set R (.row 27 true [int n,.slice a5 (L.take 11).length (L.take 11).length,.slice a6 (M.take 7).length (M.take 7).length])).at k = some o:=fun k hk o ho=>by rw [Hp.at_set_ne _ hk]; exact ho
 have aG5:=cR G hne _ aG4
 have c05:cellAt (H4.set R (.row 27 true [int n,.slice a5 (L.take 11).length (L.take 11).length,.slice a6 (M.take 7).length (M.take 7).length])) G 0 = some (int n):=cellAt_row aG5 rfl
 have c15:cellAt (H4.set R (.row 27 true [int n,.slice a5 (L.take 11).length (L.take 11).length,.slice a6 (M.take 7).length (M.take 7).length])) G 1 = some (.slice av L.length cap):=cellAt_row aG5 rfl
 have c25:cellAt (H4.set R (.row 27 true [int n,.slice a5 (L.take 11).length (L.take 11).length,.slice a6 (M.take 7).length (M.take 7).length])) G 2 = some (.slice aw M.length capw):=cellAt_row aG5 rfl
 repeat' (first | exact True.intro | (refine And.intro ?_ ?_ <;> (conv=>whnf)))
 all_goals first
  | exact sameAt_val (h2:=_) rfl (sameV_ptr _ _)
  | exact sameAt_val (h2:=_) rfl (sameV_int _)
  | exact sameAt_val (h2:=_) rfl (sameV_slice _ _ _)
  | exact sameAt_val (h2:=_) (congrArg (hval _) c0) (sameV_int _)
  | exact sameAt_val (h2:=_) (congrArg (hval _) (g3.cell c0)) (sameV_int _)
  | exact sameAt_val (h2:=_) (congrArg (hval _) (g24.cell c0)) (sameV_int _)
  | exact sameAt_val (h2:=_) (congrArg (hval _) c05) (sameV_int _)
  | exact sameAt_val (h2:=_) (congrArg (hval _) c1) (sameV_slice _ _ _)
  | exact sameAt_val (h2:=_) (congrArg (hval _) (g3.cell c1)) (sameV_slice _ _ _)
  | exact sameAt_val (h2:=_) (congrArg (hval _) (g24.cell c1)) (sameV_slice _ _ _)
  | exact sameAt_val (h2:=_) (congrArg (hval _) c15) (sameV_slice _ _ _)
  | exact sameAt_val (h2:=_) (congrArg (hval _) c2) (sameV_slice _ _ _)
  | exact sameAt_val (h2:=_) (congrArg (hval _) (g3.cell c2)) (sameV_slice _ _ _)
  | exact sameAt_val (h2:=_) (congrArg (hval _) (g24.cell c2)) (sameV_slice _ _ _)
  | exact sameAt_val (h2:=_) (congrArg (hval _) c25) (sameV_slice _ _ _)
  | exact sameAt_val (h2:=_) (kA _ (by
    conv=>lhs; arg 1; whnf
    refine congrArg (fun n=>some (Value.int .i64 n)) ?_
    split <;> omega)) (sameV_slice _ _ _)
  | exact sameAt_val (h2:=_) (kB2 _ (by
    conv=>lhs; arg 1; whnf
    refine congrArg (fun n=>some (Value.int .i64 n)) ?_
    split <;> omega)) (sameV_slice _ _ _)
  | exact sameAt_val (h2:=_) (kB _ (by
    conv=>lhs; arg 1; whnf
    refine congrArg (fun n=>some (Value.int .i64 n)) ?_
    split <;> omega)) (sameV_slice _ _ _)
end
end Go.Proofs.Ytljbibjnidccbab
namespace Go.Proofs.Ytljbibjnidccbab
open Go.Rx Go.RowKit
attribute [local irreducible] E idxN cellAt cellsAt storeAt callable helems hmoved lookIn findKey keyOk hentries Hp.at Hp.set Hp.lay arBits hupdated setAt CallP YieldP BoolOf IsWrap Rnd LoopP AppP CutP Int.tmod Int.tdiv Int.fdiv
section
variable [Unknowns]
attribute [local irreducible] ResP sameAt flat flat3 finP
theorem given_spec (h0:Hp) (n:Int) (v w:Value) (P:List (Int×Int)) (T:List (Int×Int×Int)) (hl:P.length≤20) (hT:T.length≤20) (h:Hp) (hv:BuiltC h0 h 57 2 v P.length ((flat P).map int)) (hw:BuiltC h0 h 58 3 w T.length ((flat3 T).map int)) :
  CallP E 5 [.agg ⟨[int n,v,w]⟩] h (fun r h'=>(∃ a b,r = .agg ⟨[int n,a,b]⟩∧PairsV h' a P∧TripV h' b T)∧Grows h h'):=by
 have hs1:=hv.slice
 obtain ⟨av,rfl,-⟩:=hs1
 have hs2:=hw.slice
 obtain ⟨aw,rfl,-⟩:=hs2
 have hex1:∃ H1,h.lay (.row 27 true [int n,.slice av P.length P.length,.slice aw T.length T.length]) = H1:=⟨_,rfl⟩
 obtain ⟨H1,hH1⟩:=hex1
 have aG:H1.at h.next = some (.row 27 true [int n,.slice av P.length P.length,.slice aw T.length T.length]):=by rw [← hH1]; exact Hp.at_lay_self _ _
 have gG:Grows h H1:=by rw [← hH1]; exact Grows.lay _ _
 have hex2:∃ H2,H1.lay (.row 25 true [int 0,.slice none 0 0,.slice none 0 0]) = H2:=⟨_,rfl⟩
 obtain ⟨H2,hH2⟩:=hex2
 have aR:H2.at H1.next = some (.row 25 true [int 0,.slice none 0 0,.slice none 0 0]):=by rw [← hH2]; exact Hp.at_lay_self _ _
 have gR:Grows H1 H2:=by rw [← hH2]; exact Grows.lay _ _
 have g02:=gG.trans gR
 have aG2:=gR.at_ _ _ aG
 have nG:=gG.next
 have hne:h.next≠H1.next:=fun e=>by have:=Hp.lt_of_at aG; omega
 refine enter5 (by simp) ?_
 conv=>whnf
 refine SeqP.cut (α:=Unit) (fun _=>[(1,ptr h.next 0),(2,ptr H1.next 0)]) (fun _ H=>H = H2) ?_ ?_
 ·conv=>whnf
  exact ⟨(),⟨rfl,by rw [← hH1]; rfl,trivial⟩,by rw [← hH2,← hH1],rfl⟩
 rintro _ φ H2 rfl
 have nR:=gR.next
 have ltR:=Hp.lt_of_at aR
 generalize hGe:h.next = G at aG aG2 nG hne
 generalize hRe:H1.next = R at aR nG hne nR ltR
 have c0:cellAt H2 G 0 = some (int n):=cellAt_row aG2 rfl
 have c1:cellAt H2 G 1 = some (.slice av P.length P.length):=cellAt_row aG2 rfl
 have c2:cellAt H2 G 2 = some (.slice aw T.length T.length):=cellAt_row aG2 rfl
 have hx:=(hv.ext g02).elems (ints_one _)
 conv=>whnf
 repeat (refine SeqP.go ?_; conv=>whnf)
 refine ⟨_,c0,?_⟩
 conv=>whnf
 refine ⟨_,c1,?_⟩
 conv=>whnf
 refine AppP.cells (h0:=H2) BuiltC.nil (.refl _) hx (by omega) (by omega) ?_
 intro a3 H3 hb3 g3 _
 rw [List.nil_append,Nat.zero_add] at hb3
 have c2':=g3.cell c2
 have hy:=(hw.ext (g02.trans g3)).elems (ints_one _)
 conv=>whnf
 refine ⟨_,c2',?_⟩
 conv=>whnf
 refine AppP.cells (h0:=H3) BuiltC.nil (.refl _) hy (by omega) (by omega) ?_
 intro b4 H4 hb4 g4 _
 rw [List.nil_append,Nat.zero_add] at hb4
 have hb3':=hb3.ext g4
 have hb4':=hb4.back g3.next
 have hs3:=hb3'.slice
 obtain ⟨a5,rfl,-⟩:=hs3
 have hs4:=hb4'.slice
 obtain ⟨a6,rfl,-⟩:=hs4
 have g24:=g3.trans g4
 have aR4:=g24.at_ _ _ aR
 have aG4:=g24.at_ _ _ aG2
 conv=>whnf
 refine ⟨rfl,_,storeAt_full (vs:=[int n,.slice a5 P.length P.length,.slice a6 T.length T.length]) aR4 rfl rfl rfl,?_⟩
 conv=>whnf
 refine ⟨?_,?_⟩
 rotate_left
 ·conv=>whnf
  repeat (refine SeqP.go ?_; conv=>whnf)
  refine leave_cell (i:=(tiOf Try.prog 25).get ty25) (r:=R) (o:=0) (cs:=[int n,.slice a5 P.length P.length,.slice a6 T.length T.length]) rfl te25 ag25 ?_ ?_
  ·rw [sz25,cellsAt_row (Hp.at_set_self _ (Hp.lt_of_at aR4)) (Nat.le_refl _)]
   rfl
  ·have gfin:Grows h (H4.set R (.row 25 true [int n,.slice a5 P.length P.length,.slice a6 T.length T.length])):=(g02.trans g24).then_set _ (by omega)
   exact ⟨⟨_,_,rfl,(BuiltC.beside hb3' ltR _).pairs,BuiltC.trips (BuiltC.beside hb4' ltR _)⟩,gfin⟩
 have cR:∀ k,k≠R→∀ o,H4.at k = some o→(H4.set R (.row 25 true [int n,.slice a5 P.length P.length,.slice a6 T.length T.length])).at k = some o:=fun k hk o ho=>by rw [Hp.at_set_ne _ hk]; exact ho
 have aG5:=cR G hne _ aG4
 have c05:cellAt (H4.set R (.row 25 true [int n,.slice a5 P.length P.length,.slice a6 T.length T.length])) G 0 = some (int n):=cellAt_row aG5 rfl
 have c15:cellAt (H4.set R (.row 25 true [int n,.slice a5 P.length P.length,.slice a6 T.length T.length])) G 1 = some (.slice av P.length P.length):=cellAt_row aG5 rfl
 have c25:cellAt (H4.set R (.row 25 true [int n,.slice a5 P.length P.length,.slice a6 T.length T.length])) G 2 = some (.slice aw T.length T.length):=cellAt_row aG5 rfl
 repeat' (first | exact True.intro | (refine And.intro ?_ ?_ <;> (conv=>whnf)))
 all_goals first
  | exact sameAt_val (h2:=_) rfl (sameV_ptr _ _)
  | exact sameAt_val (h2:=_) rfl (sameV_int _)
  | exact sameAt_val (h2:=_) rfl (sameV_slice _ _ _)
  | exact sameAt_val (h2:=_) (congrArg (hval _) c0) (sameV_int _)
  | exact sameAt_val (h2:=_) (congrArg (hval _) (g3.cell c0)) (sameV_int _)
  | exact sameAt_val (h2:=_) (congrArg (hval _) (g24.cell c0)) (sameV_int _)
  | exact sameAt_val (h2:=_) (congrArg (hval _) c05) (sameV_int _)
  | exact sameAt_val (h2:=_) (congrArg (hval _) c1) (sameV_slice _ _ _)
  | exact sameAt_val (h2:=_) (congrArg (hval _) (g3.cell c1)) (sameV_slice _ _ _)
  | exact sameAt_val (h2:=_) (congrArg (hval _) (g24.cell c1)) (sameV_slice _ _ _)
  | exact sameAt_val (h2:=_) (congrArg (hval _) c15) (sameV_slice _ _ _)
  | exact sameAt_val (h2:=_) (congrArg (hval _) c2) (sameV_slice _ _ _)
  | exact sameAt_val (h2:=_) (congrArg (hval _) (g3.cell c2)) (sameV_slice _ _ _)
  | exact sameAt_val (h2:=_) (congrArg (hval _) (g24.cell c2)) (sameV_slice _ _ _)
  | exact sameAt_val (h2:=_) (congrArg (hval _) c25) (sameV_slice _ _ _)
end
end Go.Proofs.Ytljbibjnidccbab
namespace Go.Proofs.Ytljbibjnidccbab
open Go.Rx Go.RowKit
open Classical in
noncomputable def cfl (n:Int) (P:List (Int×Int)) (T:List (Int×Int×Int)) (l:List Int) (m:Int):Int:=if GOk n P T then (if NOk l m then 0 else 1) else 30
theorem cfl_no {n:Int} {P:List (Int×Int)} {T:List (Int×Int×Int)} {l:List Int} {m:Int} (h:¬ GOk n P T):cfl n P T l m = 30:=by unfold cfl; rw [if_neg h]
theorem cfl_one {n:Int} {P:List (Int×Int)} {T:List (Int×Int×Int)} {l:List Int} {m:Int} (h:GOk n P T) (k:¬ NOk l m):cfl n P T l m = 1:=by unfold cfl; rw [if_pos h,if_neg k]
theorem cfl_ok {n:Int} {P:List (Int×Int)} {T:List (Int×Int×Int)} {l:List Int} {m:Int} (h:GOk n P T) (k:NOk l m):cfl n P T l m = 0:=by unfold cfl; rw [if_pos h,if_pos k]
theorem cfl_iff {n:Int} {P:List (Int×Int)} {T:List (Int×Int×Int)} {l:List Int} {m:Int}:cfl n P T l m = 0↔GOk n P T∧NOk l m:=by
 by_cases h:GOk n P T
 ·by_cases k:NOk l m
  ·exact ⟨fun _=>⟨h,k⟩,fun _=>cfl_ok h k⟩
  ·rw [cfl_one h k]; exact ⟨fun e=>by omega,fun e=>absurd e.2 k⟩
 ·rw [cfl_no h]; exact ⟨fun e=>by omega,fun e=>absurd e.1 h⟩
theorem times_rep (v:Value):∀ n,times [v] n = List.replicate n v
 | 0=>rfl
 | n + 1=>by show v :: times [v] n = _; rw [times_rep v n,List.replicate_succ]
def Bd (B:Int) (l:List Int):Prop:=∀ i,(hi:i < l.length)→-B≤l[i]∧l[i]≤B
theorem Bd.set {B C:Int} {l:List Int} (h:Bd B l) (hBC:B≤C) {x:Int} (hx:-C≤x∧x≤C) (k:Nat):Bd C (l.set k x):=by
 intro i hi
 rw [List.length_set] at hi
 have:=h i hi
 rw [List.getElem_set]
 split
 ·exact hx
 ·omega
theorem storeInt {H:Hp} {X:Nat} {l:List Int} (a:H.at X = some (.row 3 true (l.map int))) {i:Nat} (hi:i < l.length) (c:Int):storeAt H X (offAt 0 (i:Int).toNat 1) [int c] = some (H.set X (.row 3 true ((l.set i c).map int))):=by
 rw [offAt_eq,show 0 + (i:Int).toNat * 1 = i by omega,storeAt_row a (by rw [List.length_map]; exact hi) rfl,List.map_set]
theorem NOk.bd {l:List Int} {m:Int} (h:NOk l m) {i:Nat} (hi:i < l.length):-100≤l[i]∧l[i]≤100:=by
 have:=h.2 _ (List.getElem_mem hi)
 unfold NOut at this
 omega
theorem EOk.at_ {n:Int} {P:List (Int×Int)} (h:EOk n P) {i:Nat} (hi:i < P.length):∃ a b:Nat,(P[i]).1 = a∧(P[i]).2 = b∧(a:Int) < n∧(b:Int) < n:=by
 have:=h.2 i hi
 unfold EGood at this
 exact ⟨(P[i]).1.toNat,(P[i]).2.toNat,by omega,by omega,by omega,by omega⟩
theorem row3_cell {H:Hp} {X:Nat} {l:List Int} (a:H.at X = some (.row 3 true (l.map int))) {i:Nat} (hi:i < l.length):cellAt H X (i + 0) = some (int l[i]):=cellAt_row a (by rw [List.getElem?_map,Nat.add_zero,List.getElem?_eq_getElem hi]; rfl)
attribute [local irreducible] E idxN cellAt cellsAt storeAt callable helems hmoved lookIn findKey keyOk hentries Hp.at Hp.set Hp.lay arBits hupdated setAt CallP YieldP BoolOf IsWrap Rnd LoopP AppP CutP Int.tmod Int.tdiv Int.fdiv
section
variable [Unknowns]
attribute [local irreducible] ResP sameAt flat flat3
theorem flow_spec (n:Int) (v w:Value) (P:List (Int×Int)) (T:List (Int×Int×Int)) (hl:P.length≤20) (hT:T.length≤20) (lv:Value) (l:List Int) (hl2:l.length≤1000) (h:Hp) (hv:PairsV h v P) (hw:TripV h w T) (hi:Ints h lv l) :
  CallP E 37 [.agg ⟨[int n,v,w]⟩,lv] h (fun r h'=>r = int (cfl n P T l P.length)∧Grows h h'):=by
 obtain ⟨av,cap,rfl,hcv⟩:=id hv
 obtain ⟨aw,capw,rfl,hcw⟩:=id hw
 obtain ⟨al,capl,rfl,hcl⟩:=id hi
 have hex1:∃ H1,h.lay (.row 25 true [int n,.slice av P.length cap,.slice aw T.length capw]) = H1:=⟨_,rfl⟩
 obtain ⟨H1,hH1⟩:=hex1
 have aG:H1.at h.next = some (.row 25 true [int n,.slice av P.length cap,.slice aw T.length capw]):=by rw [← hH1]; exact Hp.at_lay_self _ _
 have gG:Grows h H1:=by rw [← hH1]; exact Grows.lay _ _
 refine enter37 (by simp) ?_
 conv=>whnf
 refine SeqP.cut (α:=Unit) (fun _=>[(2,ptr h.next 0),(1,.slice al l.length capl)]) (fun _ H=>H = H1) ?_ ?_
 ·conv=>whnf
  exact ⟨(),⟨rfl,rfl,trivial⟩,hH1,rfl⟩
 rintro _ φ H1 rfl
 generalize h.next = G at aG
 conv=>whnf
 repeat (refine SeqP.go ?_; conv=>whnf)
 refine ⟨_,cellsAt_row aG (by simp),?_⟩
 conv=>whnf
 refine CallP.mono (Check_spec n _ _ P T hl hT _ (hv.ext gG) (hw.ext gG)) ?_
 rintro r H2 ⟨rfl,g2⟩
 have aG2:=g2.at_ _ _ aG
 have g02:=gG.trans g2
 conv=>whnf
 repeat (refine SeqP.go ?_; conv=>whnf)
 by_cases hg:GOk n P T
 ·refine cmpF (fun hn=>hn (chk_ok hg)) ?_
  conv=>whnf
  repeat (refine SeqP.go ?_; conv=>whnf)
  refine ⟨_,cellAt_row aG2 rfl,?_⟩
  conv=>whnf
  refine CallP.mono (list_spec _ l P.length hl2 H2 (hi.ext g02)) ?_
  rintro r H3 ⟨⟨rfl,hk⟩ | ⟨rfl,hk⟩,rfl⟩
  ·conv=>whnf
   repeat (refine SeqP.go ?_; conv=>whnf)
   exact ⟨by rw [cfl_ok hg hk]; rfl,g02⟩
  ·conv=>whnf
   repeat (refine SeqP.go ?_; conv=>whnf)
   exact ⟨by rw [cfl_one hg hk]; rfl,g02⟩
 ·have hc30:=chk_no hg
  refine cmpT (by omega) ?_
  conv=>whnf
  repeat (refine SeqP.go ?_; conv=>whnf)
  exact ⟨by rw [cfl_no hg,hc30]; rfl,g02⟩
theorem gradient_spec (n:Int) (v w:Value) (P:List (Int×Int)) (T:List (Int×Int×Int)) (hG:GOk n P T) (lv:Value) (l:List Int) (hn:NOk l n) (h:Hp) (hv:PairsV h v P) (hw:TripV h w T) (hi:Ints h lv l) :
  CallP E 33 [.agg ⟨[int n,v,w]⟩,lv] h (fun r h'=>(∃ X,r = slc X 0 P.length P.length)∧Grows h h'):=by
 obtain ⟨hn1,hn6,hE,hPl⟩:=hG
 have hl:=hE.1
 have hT:=hPl.1
 have hll:=hn.1
 obtain ⟨av,cap,rfl,hcv⟩:=id hv
 obtain ⟨aw,capw,rfl,hcw⟩:=id hw
 obtain ⟨al,capl,rfl,hcl⟩:=id hi
 have hex1:∃ H1,h.lay (.row 25 true [int n,.slice av P.length cap,.slice aw T.length capw]) = H1:=⟨_,rfl⟩
 obtain ⟨H1,hH1⟩:=hex1
 have aG:H1.at h.next = some (.row 25 true [int n,.slice av P.length cap,.slice aw T.length capw]):=by rw [← hH1]; exact Hp.at_lay_self _ _
 have gG:Grows h H1:=by rw [← hH1]; exact Grows.lay _ _
 refine enter33 (by simp) ?_
 conv=>whnf
 refine SeqP.cut (α:=Unit) (fun _=>[(2,ptr h.next 0),(1,.slice al l.length capl)]) (fun _ H=>H = H1) ?_ ?_
 ·conv=>whnf
  exact ⟨(),⟨rfl,rfl,trivial⟩,hH1,rfl⟩
 rintro _ φ H1 rfl
 have nG:=Hp.lt_of_at aG
 have nh:=gG.next
 generalize h.next = G at aG nG
 conv=>whnf
 refine SeqP.cut (α:=Hp×List Int) (fun s=>[(2,ptr G 0),(1,.slice al l.length capl),(5,slc H1.next 0 P.length P.length)]) (fun s H=>H = s.1∧s.2.length = P.length∧s.1.at H1.next = some (.row 3 true (s.2.map int))∧Grows H1 s.1) ?_ ?_
 ·conv=>whnf
  refine ⟨_,cellAt_row aG rfl,?_⟩
  conv=>whnf
  refine ⟨⟨by omega,by omega,by omega,by omega⟩,?_⟩
  conv=>whnf
  refine ⟨(_,List.replicate P.length 0),⟨rfl,rfl,rfl,trivial⟩,⟨rfl,List.length_replicate,?_,Grows.lay _ _⟩,rfl⟩
  refine (Hp.at_lay_self _ _).trans ?_
  rw [Int.toNat_natCast,List.map_replicate]
  exact congrArg (fun l=>some (Go.Rx.Obj.row 3 true l)) (times_rep _ _)
 rintro ⟨_,Z⟩ φ H2 ⟨rfl,hZ,aX,g2⟩
 dsimp only at hZ aX g2 ⊢
 have g02:=gG.trans g2
 have hXG:H1.next≠G:=fun e=>by omega
 generalize H1.next = X at aX hXG nG nh
 have aG2:=g2.at_ _ _ aG
 conv=>whnf
 refine SeqP.cut (α:=Hp) (fun s=>[(5,slc X 0 P.length P.length)]) (fun s H=>H = s∧Grows h s) ?_ ?_
 ·conv=>whnf
  repeat (refine SeqP.go ?_; conv=>whnf)
  refine ⟨_,cellAt_row aG2 rfl,?_⟩
  conv=>whnf
  refine loop_inv (α:=Nat×Hp×List Int) (fun s=>[(15,int s.1),(14,int P.length),(13,.slice av P.length cap),(2,ptr G 0),(1,.slice al l.length capl),(5,slc X 0 P.length P.length)]) (fun s=>s.2.1) (fun s=>s.1≤P.length∧s.2.2.length = P.length∧s.2.1.at X = some (.row 3 true (s.2.2.map int))∧Grows h s.2.1) (fun s=>P.length - s.1) (0,H2,Z) ⟨Nat.zero_le _,hZ,aX,g02⟩ ⟨rfl,rfl,rfl,rfl,rfl,rfl,trivial⟩ (Hp.Le.refl _) ?_
  clear hZ aX aG2 g02 g2
  rintro ⟨k,H,Z⟩ φ ⟨hk,hZ,aX,g1⟩
  dsimp only at hk hZ aX g1 ⊢
  conv=>whnf
  repeat (refine SeqP.go ?_; conv=>whnf)
  refine cmpB (fun d1=>?_) (fun d1=>?_)
  rotate_left
  ·conv=>whnf
   repeat (refine SeqP.go ?_; conv=>whnf)
   exact ⟨H,⟨rfl,trivial⟩,⟨rfl,g1⟩,rfl⟩
  have hk':k < P.length:=by omega
  obtain ⟨r,o,rfl,hc0,hc1⟩:=hcv k hk'
  obtain ⟨a,b,ea,eb,han,hbn⟩:=hE.at_ hk'
  rw [ea] at hc0
  rw [eb] at hc1
  have kc:cellsAt H r (offAt o (k:Int).toNat 2) 2 = some [int (a:Int),int (b:Int)]:=by
   rw [offAt_eq,show o + (k:Int).toNat * 2 = k * 2 + o by omega]
   exact cellsAt_two (g1.cell hc0) (g1.cell hc1)
  have hexD:∃ HD,H.lay (.row 57 true [int (a:Int),int (b:Int)]) = HD:=⟨_,rfl⟩
  obtain ⟨HD,hHD⟩:=hexD
  have aD:HD.at H.next = some (.row 57 true [int (a:Int),int (b:Int)]):=by rw [← hHD]; exact Hp.at_lay_self _ _
  have gD:Grows H HD:=by rw [← hHD]; exact Grows.lay _ _
  have g2:=g1.trans gD
  have aX2:=gD.at_ _ _ aX
  have hca:=hcl a (by omega)
  obtain ⟨rl,ol,spl,e,hspl,ha1⟩:=hca
  subst e
  have hcb:=hcl b (by omega)
  obtain ⟨rl',ol',spl',e',hspl',hb1⟩:=hcb
  cases e'
  have hba:=hn.bd (i:=a) (by omega)
  have hbb:=hn.bd (i:=b) (by omega)
  generalize l[a] = xa at ha1 hba
  generalize l[b] = xb at hb1 hbb
  conv=>whnf
  refine SeqP.go ?_
  conv=>whnf
  refine SeqP.go ?_
  conv=>whnf
  refine SeqP.cut (α:=Unit) (fun _=>[(15,int k),(14,int P.length),(13,.slice (some ⟨r,o,none⟩) P.length cap),(2,ptr G 0),(1,.slice (some ⟨rl,ol,spl⟩) l.length capl),(5,slc X 0 P.length P.length),(6,int k),(7,ptr H.next 0)]) (fun _ Y=>Y = HD) ?_ ?_
  ·conv=>whnf
   refine ⟨rfl,⟨by omega,by omega⟩,?_⟩
   conv=>whnf
   refine ⟨_,kc,?_⟩
   conv=>whnf
   refine ⟨rfl,_,store2,?_⟩
   conv=>whnf
   exact ⟨(),⟨rfl,rfl,rfl,rfl,rfl,rfl,rfl,rfl,trivial⟩,hHD,rfl⟩
  rintro _ φ HD rfl
  generalize H.next = D at aD
  conv=>whnf
  refine ⟨⟨by omega,by omega⟩,?_⟩
  conv=>whnf
  refine ⟨_,cellAt_row aD rfl,?_⟩
  conv=>whnf
  refine ⟨hspl,⟨by omega,by omega⟩,?_⟩
  conv=>whnf
  refine ⟨_,g2.cell hb1,?_⟩
  conv=>whnf
  refine ⟨⟨by omega,by omega⟩,?_⟩
  conv=>whnf
  refine ⟨_,cellAt_row aD rfl,?_⟩
  conv=>whnf
  refine ⟨hspl,⟨by omega,by omega⟩,?_⟩
  conv=>whnf
  refine ⟨_,g2.cell ha1,?_⟩
  conv=>whnf
  refine ⟨xb - xa,wid (by omega),?_⟩
  conv=>whnf
  refine ⟨rfl,⟨by omega,by omega⟩,?_⟩
  conv=>whnf
  refine ⟨rfl,_,storeInt aX2 (i:=k) (by omega) (xb - xa),?_⟩
  conv=>whnf
  refine ⟨_,wid (by omega),?_⟩
  conv=>whnf
  refine Rnd.mk (k + 1,_,Z.set k (xb - xa)) ⟨by show k + 1≤P.length; omega,by rw [List.length_set]; exact hZ,Hp.at_set_self _ (Hp.lt_of_at aX2),g2.then_set _ (by omega)⟩ (by show P.length - (k + 1) < P.length - k; omega) ⟨rfl,rfl,rfl,rfl,rfl,rfl,trivial⟩ (Hp.Le.refl _) rfl
 rintro _ φ H3 ⟨rfl,g3⟩
 conv=>whnf
 repeat (refine SeqP.go ?_; conv=>whnf)
 exact ⟨⟨X,rfl⟩,g3⟩
end
end Go.Proofs.Ytljbibjnidccbab
