/- Contracts by what is to be shown of each step: a part of the engine. -/
import Derived.Test.YtljbibjnidccbabWx21
set_option linter.unusedVariables false
set_option linter.unusedSectionVars false
set_option linter.unusedSimpArgs false
namespace Go.Rx
open Go.RowKit
noncomputable section

/-! Slices of slices of integers; typed trees taken apart. -/

def Mat (h:Hp) (v:Value) (L:List (List Int)):Prop :=
 ∃ a c,v = .slice a L.length c∧∀ k,(hk:k < L.length)→∃ r o sp u,a = some ⟨r,o,sp⟩∧voidSp sp = false∧cellAt h r (k + o) = some u∧View h u L[k]
theorem Mat.ext {h h':Hp} {v:Value} {L:List (List Int)} (g:Grows h h') (k:Mat h v L):Mat h' v L:=by
 obtain ⟨a,c,rfl,hc⟩:=k
 refine ⟨a,c,rfl,fun k hk=>?_⟩
 obtain ⟨r,o,sp,u,e,hs,hv,hu⟩:=hc k hk
 exact ⟨r,o,sp,u,e,hs,g.cell hv,hu.ext g⟩
theorem Mat.nil (h:Hp):Mat h (.slice none 0 0) []:=⟨none,0,rfl,fun k hk=>by simp at hk⟩
theorem AppP.cellsF {E:Env} {h0 h:Hp} {e:TypeId} {s bytes n m:Nat} {v x:Value} {cs new:List Value} {K:Value→Hp→Prop} (ho:BuiltC h0 h e s v n cs) (hg:Grows h0 h) (hx:ElemsC h s x m new) (hm0:m≠0) (hb:(n + m) * bytes≤1073741824) (hl:n + m≤1073741824)
  (k:∀ v' h',BuiltC h0 h' e s v' (n + m) (cs ++ new)→Grows h0 h'→(∀ r o,h.at r = some o→(∀ n c,v≠slc r 0 n c)→h'.at r = some o)→(∃ r,v' = slc r 0 (n + m) (n + m)∧h.next≤r)→K v' h'):AppP E h e s bytes v x K:=by
 obtain ⟨hx1,hx2,hx3,hx4⟩:=hx
 have hlen:(cs ++ new).length = (n + m) * s:=by rw [List.length_append,ho.1,hx3,Nat.add_mul]
 have hn0:m = 0→new = []:=fun e=>List.eq_nil_of_length_eq_zero (by rw [hx3,e]; simp)
 obtain ⟨hcl,ho⟩:=ho
 unfold AppP happT
 rcases ho with ⟨rfl,rfl⟩ | ⟨r,rfl,hr0,xx,hr⟩
 ·have hcs:cs = []:=List.eq_nil_of_length_eq_zero (by omega)
  dsimp only
  rw [show voidBase none = false from rfl]
  dsimp only
  rw [hx1]
  dsimp only
  rw [hx2]
  dsimp only
  by_cases hn:m = 0
  ·exact absurd hn hm0
  ·rw [if_neg (by omega)]
   unfold hgrowsT
   rw [show helems h s 0 (.slice none 0 0) = some [] from rfl]
   dsimp only
   rw [smallN_cells hx3 hx4 hb hl]
   dsimp only
   unfold hmoved hgrown
   dsimp only
   subst hcs
   refine k _ _ ⟨hlen,.inr ⟨h.next,rfl,hg.next,false,?_⟩⟩ (hg.then_lay _) (fun r o hr _=>Hp.at_lay_old _ hr) ⟨_,rfl,Nat.le_refl _⟩
   rw [Hp.at_lay_self]
 ·have hcells:helems h s n (.slice (some ⟨r,0,none⟩) n n) = some cs:=by
   show cellsAt h r 0 (n * s) = _
   rw [cellsAt_row hr (by omega)]
   simp only [List.drop_zero]
   rw [List.take_of_length_le (by omega)]
  dsimp only [slc]
  rw [show voidBase (some ⟨r,0,none⟩) = false from rfl]
  dsimp only
  rw [hx1]
  dsimp only
  rw [hx2]
  dsimp only
  by_cases hn:m = 0
  ·exact absurd hn hm0
  ·rw [if_neg (by omega)]
   unfold hgrowsT
   rw [hcells]
   dsimp only
   rw [smallN_cells hx3 hx4 hb hl]
   dsimp only
   unfold hmoved
   dsimp only
   rw [hr]
   cases xx with
   | true =>
    dsimp only
    unfold hgrown
    dsimp only
    refine k _ _ ⟨hlen,.inr ⟨h.next,rfl,hg.next,false,?_⟩⟩ (hg.then_lay _) (fun r' o hr' hne=>Hp.at_lay_old _ hr') ⟨_,rfl,Nat.le_refl _⟩
    rw [Hp.at_lay_self]
   | false =>
    dsimp only
    rw [if_pos ⟨rfl,by omega⟩]
    unfold hgrown
    dsimp only
    refine k _ _ ⟨hlen,.inr ⟨(h.set r .dead).next,rfl,hg.next,false,?_⟩⟩ ((hg.then_set _ hr0).then_lay _) (fun r' o hr' hne=>?_) ⟨_,rfl,Nat.le_refl _⟩
    ·rw [Hp.at_lay_self]
    ·have:r'≠r:=fun e=>hne _ _ (by rw [e])
     exact Hp.at_lay_old _ (by rw [Hp.at_set_ne _ this]; exact hr')
def Off (v u:Value):Prop:=∀ r n c o n' c',v = slc r 0 n c→u≠slc r o n' c'
theorem View.keep {h h':Hp} {v u:Value} {l:List Int} (k:View h u l) (off:Off v u) (g:∀ r o,h.at r = some o→(∀ n c,v≠slc r 0 n c)→h'.at r = some o):View h' u l:=by
 rcases k with h0 | ⟨r,o,c,rfl,hc,hr,hcell⟩
 ·exact .inl h0
 ·have hne:∀ n c,v≠slc r 0 n c:=fun n c e=>off r n c _ _ _ e rfl
  refine .inr ⟨r,o,c,rfl,hc,?_,fun k hk=>cellAt_congr (fun ob hob=>g r ob hob hne) (hcell k hk)⟩
  rcases hr with ⟨e,x,cs,hr,hl⟩ | ⟨cs,hr,hl⟩
  ·exact .inl ⟨e,x,cs,g _ _ hr hne,hl⟩
  ·exact .inr ⟨cs,g _ _ hr hne,hl⟩
theorem View.oneCell {h:Hp} {v:Value} {l:List Int} (k:View h v l):oneCell v = true:=by
 obtain ⟨a,c,rfl⟩:=k.known
 rfl
theorem View.row_lt {h:Hp} {r o n c:Nat} {l:List Int} (k:View h (slc r o n c) l):r < h.next:=by
 rcases k with ⟨_,h0 | h0⟩ | ⟨r',o',c',e,hc,hr,hcell⟩
 ·unfold slc at h0; cases h0
 ·unfold slc void at h0; cases h0
 ·unfold slc at e
  cases e
  rcases hr with ⟨_,_,_,hr,_⟩ | ⟨_,hr,_⟩ <;> exact Hp.lt_of_at hr
def BuiltM (h0 h:Hp) (e:TypeId) (v:Value) (us:List Value) (L:List (List Int)):Prop :=
 BuiltC h0 h e 1 v us.length us∧us.length = L.length∧∀ (k:Nat) u l,us[k]? = some u→L[k]? = some l→View h u l∧Off v u
theorem BuiltM.nil {h0 h:Hp} {e:TypeId}:BuiltM h0 h e (.slice none 0 0) [] []:=⟨BuiltC.nil,rfl,fun k u l h=>by simp at h⟩
theorem BuiltM.ext {h0 h h':Hp} {e:TypeId} {v:Value} {us:List Value} {L:List (List Int)} (g:Grows h h') (k:BuiltM h0 h e v us L):BuiltM h0 h' e v us L :=
 ⟨k.1.ext g,k.2.1,fun j u l hu hl=>⟨(k.2.2 j u l hu hl).1.ext g,(k.2.2 j u l hu hl).2⟩⟩
theorem BuiltM.back {h1 h0 h:Hp} {e:TypeId} {v:Value} {us:List Value} {L:List (List Int)} (g:h1.next≤h0.next) (k:BuiltM h0 h e v us L):BuiltM h1 h e v us L :=
 ⟨k.1.back g,k.2⟩
theorem BuiltM.mat {h0 h:Hp} {e:TypeId} {v:Value} {us:List Value} {L:List (List Int)} (k:BuiltM h0 h e v us L):Mat h v L:=by
 obtain ⟨⟨hl,hb⟩,hlen,hu⟩:=k
 rcases hb with ⟨rfl,h0⟩ | ⟨r,rfl,_,x,hr⟩
 ·have:L = []:=List.eq_nil_of_length_eq_zero (by omega)
  subst this
  exact Mat.nil h
 ·refine ⟨some ⟨r,0,none⟩,us.length,by rw [hlen]; rfl,fun k hk=>?_⟩
  have hk':k < us.length:=by omega
  exact ⟨r,0,none,us[k],rfl,rfl,cellAt_row hr (List.getElem?_eq_getElem hk'),(hu k _ _ (List.getElem?_eq_getElem hk') (List.getElem?_eq_getElem hk)).1⟩
theorem BuiltM.known {h0 h:Hp} {e:TypeId} {v:Value} {us:List Value} {L:List (List Int)} (k:BuiltM h0 h e v us L):∃ a c,v = .slice a L.length c:=by
 obtain ⟨a,c,e,-⟩:=k.mat
 exact ⟨a,c,e⟩
theorem BuiltM.len {h0 h:Hp} {e:TypeId} {v:Value} {us:List Value} {L:List (List Int)} (k:BuiltM h0 h e v us L):us.length = L.length:=k.2.1
theorem BuiltM.off {h0 h1 h:Hp} {e et:TypeId} {v u:Value} {us:List Value} {L:List (List Int)} {l:List Int} (k:BuiltM h0 h1 e v us L) (hu:Built h1 h et u l):Off v u:=by
 intro r n c o n' c' ev eu
 obtain ⟨⟨hl,hb⟩,-⟩:=k
 rcases hb with ⟨e0,_⟩ | ⟨r',e0,_,x,hr⟩
 ·rw [e0] at ev; cases ev
 ·rw [e0] at ev
  unfold slc at ev
  cases ev
  have h2:=Hp.lt_of_at hr
  rcases hu with ⟨e1,_⟩ | ⟨r2,e1,h3,_⟩
  ·rw [e1] at eu; cases eu
  ·rw [e1] at eu
   unfold slc at eu
   cases eu
   omega
theorem elemsC_one {h:Hp} {e:TypeId} {x:Bool} {u:Value} (hu:oneCell u = true):ElemsC (h.lay (.row e x [u])) 1 (slc h.next 0 1 1) 1 [u]:=by
 refine ⟨rfl,?_,rfl,by simp [hu]⟩
 show cellsAt (h.lay (.row e x [u])) h.next 0 (1 * 1) = _
 rw [cellsAt_row (Hp.at_lay_self _ _) (by simp)]
 rfl
theorem AppP.row {E:Env} {h0 h:Hp} {e et:TypeId} {b:Bool} {bytes:Nat} {v u:Value} {us:List Value} {L:List (List Int)} {l:List Int} {K:Value→Hp→Prop} (ho:BuiltM h0 h e v us L) (hg:Grows h0 h) (hu:View h u l) (hoff:Off v u) (hb:(L.length + 1) * bytes≤1073741824) (hl:L.length + 1≤1073741824)
  (k:∀ v' us' h',BuiltM h0 h' e v' us' (L ++ [l])→Grows h0 h'→(∀ r o,(h.lay (.row et b [u])).at r = some o→(∀ n c,v≠slc r 0 n c)→h'.at r = some o)→K v' h'):AppP E (h.lay (.row et b [u])) e 1 bytes v (slc h.next 0 1 1) K:=by
 have ho':=ho.ext (Grows.lay h (.row et b [u]))
 obtain ⟨hc,hlen,hus⟩:=ho'
 refine AppP.cellsF hc (hg.then_lay _) (elemsC_one hu.oneCell) (by omega) (by rw [hlen]; exact hb) (by omega) ?_
 intro v' h' hb' hg' hkeep hnew
 obtain ⟨r',rfl,hr'⟩:=hnew
 have fresh:∀ w m,View h w m→Off (slc r' 0 (us.length + 1) (us.length + 1)) w:=by
  intro w m hw r n c o n' c' e1 e2
  unfold slc at e1
  cases e1
  subst e2
  have:=hw.row_lt
  rw [Hp.next_lay] at hr'
  omega
 refine k _ (us ++ [u]) h' ⟨by rw [List.length_append]; exact hb',by rw [List.length_append,List.length_append,hlen]; rfl,fun j w m hw hm=>?_⟩ hg' hkeep
 by_cases hj:j < us.length
 ·rw [List.getElem?_append_left hj] at hw
  rw [List.getElem?_append_left (by omega)] at hm
  have h1:=hus j w m hw hm
  exact ⟨h1.1.keep h1.2 hkeep,fresh _ _ (ho.2.2 j w m hw hm).1⟩
 ·have hj2:j = us.length:=by
   have:=(List.getElem?_eq_some_iff.1 hw).1
   rw [List.length_append,List.length_singleton] at this
   omega
  subst hj2
  rw [List.getElem?_append_right (by omega)] at hw hm
  rw [hlen] at hm
  simp at hw hm
  subst hw
  subst hm
  exact ⟨(hu.ext (Grows.lay _ _)).keep hoff hkeep,fresh _ _ hu⟩
/-! Trees. -/
def trI (l:List Int):Tr:=.sl l.length (l.map .num)
def trM (L:List (List Int)):Tr:=.sl L.length (L.map trI)
theorem AbsT.view {h:Hp} {v:Value} {l:List Int} (k:AbsT h v (trI l)):View h v l:=by
 unfold trI at k
 generalize hn:l.length = n at k
 generalize hc:l.map Tr.num = cs at k
 cases k with
 | nil=>exact .inl ⟨List.eq_nil_of_length_eq_zero hn,.inl rfl⟩
 | void=>exact .inl ⟨List.eq_nil_of_length_eq_zero hn,.inr rfl⟩
 | row r n vs cs hr hl ht =>
  subst hc
  subst hn
  rw [List.length_map] at hl
  refine .inr ⟨r,0,_,rfl,Nat.le_refl _,.inr ⟨vs,hr,by omega⟩,fun k hk=>?_⟩
  have h1:=ht k vs[k] (.num l[k]) (List.getElem?_eq_getElem (by omega)) (by rw [List.getElem?_map,List.getElem?_eq_getElem hk]; rfl)
  have h2:vs[k] = int l[k]:=by
   generalize vs[k] = u at h1
   cases h1
   rfl
  unfold cellAt
  rw [hr]
  dsimp only
  rw [Nat.zero_add,List.getElem?_eq_getElem (by omega),h2]
theorem AbsT.mat {h:Hp} {v:Value} {L:List (List Int)} (k:AbsT h v (trM L)):Mat h v L:=by
 unfold trM at k
 generalize hn:L.length = n at k
 generalize hc:L.map trI = cs at k
 cases k with
 | nil =>
  have:=List.eq_nil_of_length_eq_zero hn
  subst this
  exact Mat.nil h
 | void =>
  have:=List.eq_nil_of_length_eq_zero hn
  subst this
  exact ⟨_,0,rfl,fun k hk=>by simp at hk⟩
 | row r n vs cs hr hl ht =>
  subst hc
  subst hn
  rw [List.length_map] at hl
  refine ⟨some ⟨r,0,none⟩,L.length,rfl,fun k hk=>?_⟩
  have h1:=ht k vs[k] (trI L[k]) (List.getElem?_eq_getElem (by omega)) (by rw [List.getElem?_map,List.getElem?_eq_getElem hk]; rfl)
  refine ⟨r,0,none,vs[k],rfl,rfl,?_,h1.view⟩
  unfold cellAt
  rw [hr]
  dsimp only
  rw [Nat.add_zero,List.getElem?_eq_getElem (by omega)]
def InR (n:Int):Prop:=-9223372036854775808≤n∧n < 9223372036854775808
theorem inR_of_wf {n:Int} (h:(Lit.int .i64 n).wf = true):InR n:=by
 unfold InR
 simp only [Lit.wf,IntKind.min,IntKind.max,IntKind.signed,IntKind.bits] at h
 simp at h
 omega
theorem ty_num {P:Program} {t:TypeId} {ts:List Tr} (ht:P.underlying t = some (.int .i64)) (h:TyT P t ts):∃ n,ts = [.num n]∧InR n:=by
 cases h with
 | num h1 w=>exact ⟨_,rfl,inR_of_wf w⟩
 | _=>simp_all
theorem list_of_all {p:Tr→Prop} {α:Type} {f:α→Tr} {q:α→Prop} (hp:∀ t,p t→∃ a,t = f a∧q a):∀ (cs:List Tr),(∀ (k:Nat),(hk:k < cs.length)→p cs[k])→∃ l:List α,cs = l.map f∧∀ a ∈ l,q a
 | [],_=>⟨[],rfl,fun a ha=>by simp at ha⟩
 | c :: cs,h=>by
  obtain ⟨a,rfl,ha⟩:=hp c (h 0 (by simp))
  obtain ⟨l,rfl,hl⟩:=list_of_all hp cs (fun k hk=>h (k + 1) (by simp; omega))
  refine ⟨a :: l,rfl,fun b hb=>?_⟩
  rcases List.mem_cons.1 hb with rfl | hb
  ·exact ha
  ·exact hl b hb
theorem ty_slice1 {P:Program} {t e:TypeId} {tr:Tr} (ht:P.underlying t = some (.slice e)) (hc:P.cellsOf e = 1) (h:TyT P t [tr]):∃ n cs,tr = .sl n cs∧n≤maxLen∧cs.length = n∧∀ (k:Nat),(hk:k < cs.length)→TyT P e [cs[k]]:=by
 cases h with
 | @sl _ e' n cs h1 hm hl hx =>
  rw [ht] at h1
  injection h1 with h1
  injection h1 with h1
  subst h1
  rw [hc,Nat.mul_one] at hl
  refine ⟨n,cs,rfl,hm,hl,fun k hk=>?_⟩
  have:=hx k (by omega)
  rw [hc,Nat.mul_one,List.drop_eq_getElem_cons hk,List.take_succ_cons,List.take_zero] at this
  exact this
 | _=>simp_all
theorem ty_ints {P:Program} {t e:TypeId} {tr:Tr} (ht:P.underlying t = some (.slice e)) (hc:P.cellsOf e = 1) (he:P.underlying e = some (.int .i64)) (h:TyT P t [tr]):∃ l:List Int,tr = trI l∧l.length≤maxLen∧∀ n ∈ l,InR n:=by
 obtain ⟨n,cs,rfl,hm,hl,hx⟩:=ty_slice1 ht hc h
 obtain ⟨l,rfl,hq⟩:=list_of_all (p:=fun t=>TyT P e [t]) (f:=Tr.num) (q:=InR) (fun t ht=>by
  obtain ⟨n,h1,h2⟩:=ty_num he ht
  injection h1 with h1
  exact ⟨n,h1,h2⟩) cs hx
 rw [List.length_map] at hl
 exact ⟨l,by unfold trI; rw [hl],by omega,hq⟩
theorem ty_field {P:Program} {t:TypeId} {fs:Array Field} {ts:List Tr} (ht:P.underlying t = some (.struct fs)) (h:TyT P t ts):ts.length = P.cellsOf t∧∀ (i:Nat) (f:Field),fs[i]? = some f→TyT P f.type ((ts.drop f.offset).take (P.cellsOf f.type)):=by
 cases h with
 | @struct _ fs' _ h1 hl hx =>
  rw [ht] at h1
  injection h1 with h1
  injection h1 with h1
  subst h1
  exact ⟨hl,hx⟩
 | _=>simp_all
theorem ty_array {P:Program} {t e:TypeId} {n:Nat} {ts:List Tr} (ht:P.underlying t = some (.array n e)) (h:TyT P t ts):ts.length = P.cellsOf t∧∀ i,i < n→TyT P e ((ts.drop (i * P.cellsOf e)).take (P.cellsOf e)):=by
 cases h with
 | @arr _ e' n' _ h1 hl hx =>
  rw [ht] at h1
  injection h1 with h1
  injection h1 with h1 h2
  subst h1
  subst h2
  exact ⟨hl,hx⟩
 | _=>simp_all
end
end Go.Rx
