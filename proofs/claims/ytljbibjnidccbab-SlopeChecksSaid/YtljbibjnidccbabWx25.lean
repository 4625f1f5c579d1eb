/- Contracts by what is to be shown of each step: a part of the engine. -/
import Derived.Test.YtljbibjnidccbabWx24
set_option linter.unusedVariables false
set_option linter.unusedSectionVars false
set_option linter.unusedSimpArgs false
namespace Go.Rx
open Go.RowKit
noncomputable section

/-! Several slices that grow, kept apart: places, not types. -/

def ad:Value→Option Nat
 | .slice (some ⟨r,_,none⟩) _ _=>some r
 | _=>none
def Ap (v u:Value):Prop:=∀ r,ad v = some r→ad u≠some r
theorem Ap.symm {v u:Value} (k:Ap v u):Ap u v:=fun r e1 e2=>k r e2 e1
theorem Ap.nil (u:Value):Ap (.slice none 0 0) u:=fun r e=>by cases e
theorem Ap.off {v u:Value} (k:Ap v u):Off v u:=by
 intro r n c o n' c' e1 e2
 subst e1; subst e2
 exact k r rfl rfl
def Kx (a:Option Nat) (h h':Hp):Prop:=∀ r o,a≠some r→h.at r = some o→h'.at r = some o
theorem Kx.trans {a:Option Nat} {h h1 h2:Hp} (k:Kx a h h1) (k2:Kx a h1 h2):Kx a h h2:=fun r o ha e=>k2 r o ha (k r o ha e)
theorem Kx.set (h:Hp) (l:Nat) (o:Obj):Kx (some l) h (h.set l o):=fun r o' ha e=>by rw [Hp.at_set_ne _ (fun x=>ha (by rw [x]))]; exact e
theorem Kx.at_ {a:Option Nat} {h h':Hp} (k:Kx a h h') {r:Nat} {o:Obj} (e:h.at r = some o) (ha:a≠some r):h'.at r = some o:=k r o ha e
theorem View.kx {h h':Hp} {v u:Value} {l:List Int} (k:View h u l) (x:Kx (ad v) h h') (a:Ap v u):View h' u l:=by
 rcases k with h0 | ⟨r,o,c,rfl,hc,hr,hcell⟩
 ·exact .inl h0
 ·have ne:ad v≠some r:=fun e=>a r e rfl
  refine .inr ⟨r,o,c,rfl,hc,?_,fun k hk=>cellAt_congr (fun ob e=>x r ob ne e) (hcell k hk)⟩
  rcases hr with ⟨e,y,cs,hr,hl⟩ | ⟨cs,hr,hl⟩
  ·exact .inl ⟨e,y,cs,x _ _ ne hr,hl⟩
  ·exact .inr ⟨cs,x _ _ ne hr,hl⟩
theorem BuiltC.kx {h0 h h':Hp} {e:TypeId} {s n:Nat} {v u:Value} {cs:List Value} (k:BuiltC h0 h e s u n cs) (x:Kx (ad v) h h') (a:Ap v u):BuiltC h0 h' e s u n cs:=by
 obtain ⟨hl,h1 | ⟨r,rfl,h2,y,hr⟩⟩:=k
 ·exact ⟨hl,.inl h1⟩
 ·exact ⟨hl,.inr ⟨r,rfl,h2,y,x _ _ (fun e=>a r e rfl) hr⟩⟩
theorem Built.kx {h0 h h':Hp} {e:TypeId} {v u:Value} {l:List Int} (k:Built h0 h e u l) (x:Kx (ad v) h h') (a:Ap v u):Built h0 h' e u l:=by
 rcases k with h1 | ⟨r,rfl,h2,y,hr⟩
 ·exact .inl h1
 ·exact .inr ⟨r,rfl,h2,y,x _ _ (fun e=>a r e rfl) hr⟩
theorem Built.ad_lt {h0 h:Hp} {e:TypeId} {v:Value} {l:List Int} (k:Built h0 h e v l):∀ r,ad v = some r→h0.next≤r∧r < h.next:=by
 intro r er
 rcases k with ⟨rfl,_⟩ | ⟨r',rfl,h2,y,hr⟩
 ·cases er
 ·cases er
  exact ⟨h2,Hp.lt_of_at hr⟩
theorem BuiltC.ad_lt {h0 h:Hp} {e:TypeId} {s n:Nat} {v:Value} {cs:List Value} (k:BuiltC h0 h e s v n cs):∀ r,ad v = some r→h0.next≤r∧r < h.next:=by
 intro r er
 obtain ⟨_,⟨rfl,_⟩ | ⟨r',rfl,h2,y,hr⟩⟩:=k
 ·cases er
 ·cases er
  exact ⟨h2,Hp.lt_of_at hr⟩
theorem View.ad_lt {h:Hp} {v:Value} {l:List Int} (k:View h v l):∀ r,ad v = some r→r < h.next:=by
 intro r er
 rcases k with ⟨_,rfl | rfl⟩ | ⟨r',o,c,rfl,hc,hr,hcell⟩
 ·cases er
 ·cases er
 ·cases er
  rcases hr with ⟨_,_,_,hr,_⟩ | ⟨_,hr,_⟩ <;> exact Hp.lt_of_at hr
theorem BuiltC.view {h0 h:Hp} {e:TypeId} {n:Nat} {v:Value} {l:List Int} (k:BuiltC h0 h e 1 v n (l.map int)):View h v l:=by
 obtain ⟨hl,h1⟩:=k
 rw [List.length_map,Nat.mul_one] at hl
 rcases h1 with ⟨rfl,e1⟩ | ⟨r,rfl,h2,y,hr⟩
 ·exact .inl ⟨List.eq_nil_of_length_eq_zero (by omega),.inl rfl⟩
 ·refine .inr ⟨r,0,n,by rw [hl],by omega,.inl ⟨e,y,_,hr,by simp⟩,fun k hk=>?_⟩
  refine cellAt_row hr ?_
  rw [List.getElem?_map,Nat.zero_add,List.getElem?_eq_getElem hk]
  rfl
structure Sep (h:Hp) (rs es:List Value):Prop where
 oldr:∀ v ∈ rs,∀ r,ad v = some r→r < h.next
 olde:∀ u ∈ es,∀ r,ad u = some r→r < h.next
 ap:∀ (i j:Nat) (v u:Value),i≠j→rs[i]? = some v→rs[j]? = some u→Ap v u
 ape:∀ v ∈ rs,∀ u ∈ es,Ap v u
theorem Sep.next {h h':Hp} {rs es:List Value} (k:Sep h rs es) (g:h.next≤h'.next):Sep h' rs es :=
 ⟨fun v hv r e=>Nat.lt_of_lt_of_le (k.oldr v hv r e) g,fun v hv r e=>Nat.lt_of_lt_of_le (k.olde v hv r e) g,k.ap,k.ape⟩
theorem Sep.ext {h h':Hp} {rs es:List Value} (k:Sep h rs es) (g:Grows h h'):Sep h' rs es:=k.next g.next
theorem Sep.move {h h':Hp} {rs es:List Value} (k:Sep h rs es) (g:h.next≤h'.next) (i:Nat) {v':Value} (hv:∀ r,ad v' = some r→h.next≤r∧r < h'.next):Sep h' (rs.set i v') es:=by
 have fr:∀ v,(∀ r,ad v = some r→r < h.next)→Ap v' v:=fun v ho r e1 e2=>by have:=hv r e1; have:=ho r e2; omega
 have mem:∀ v,v ∈ rs.set i v'→v = v'∨v ∈ rs:=fun v h=>by
  rcases List.mem_or_eq_of_mem_set h with h | h
  ·exact .inr h
  ·exact .inl h
 refine ⟨fun v hvm r e=>?_,fun u hu r e=>Nat.lt_of_lt_of_le (k.olde u hu r e) g,fun a b v u hab ha hb=>?_,fun v hvm u hu=>?_⟩
 ·rcases mem v hvm with rfl | hm
  ·exact (hv r e).2
  ·exact Nat.lt_of_lt_of_le (k.oldr v hm r e) g
 ·rw [List.getElem?_set] at ha hb
  by_cases h1:i = a
  ·subst h1
   rw [if_neg hab] at hb
   rw [if_pos rfl] at ha
   split at ha
   ·cases ha
    exact fr u (k.oldr u (List.mem_of_getElem? hb))
   ·cases ha
  ·rw [if_neg h1] at ha
   by_cases h2:i = b
   ·subst h2
    rw [if_pos rfl] at hb
    split at hb
    ·cases hb
     exact (fr v (k.oldr v (List.mem_of_getElem? ha))).symm
    ·cases hb
   ·rw [if_neg h2] at hb
    exact k.ap a b v u hab ha hb
 ·rcases mem v hvm with rfl | hm
  ·exact fr u (k.olde u hu)
  ·exact k.ape v hm u hu
theorem Sep.sub {h:Hp} {rs es es':List Value} (k:Sep h rs es) (s:∀ u ∈ es',u ∈ es):Sep h rs es' :=
 ⟨k.oldr,fun u hu=>k.olde u (s u hu),k.ap,fun v hv u hu=>k.ape v hv u (s u hu)⟩
def EL (h:Hp) (us:List Value) (L:List (List Int)):Prop:=us.length = L.length∧∀ (k:Nat) u l,us[k]? = some u→L[k]? = some l→View h u l
theorem EL.nil (h:Hp):EL h [] []:=⟨rfl,fun k u l e=>by simp at e⟩
theorem EL.ext {h h':Hp} {us:List Value} {L:List (List Int)} (k:EL h us L) (g:Grows h h'):EL h' us L:=⟨k.1,fun j u l h1 h2=>(k.2 j u l h1 h2).ext g⟩
theorem EL.kx {h h':Hp} {v:Value} {us:List Value} {L:List (List Int)} (k:EL h us L) (x:Kx (ad v) h h') (a:∀ u ∈ us,Ap v u):EL h' us L:=⟨k.1,fun j u l h1 h2=>(k.2 j u l h1 h2).kx x (a u (List.mem_of_getElem? h1))⟩
theorem EL.add {h:Hp} {us:List Value} {L:List (List Int)} (k:EL h us L) {u:Value} {l:List Int} (hu:View h u l):EL h (us ++ [u]) (L ++ [l]):=by
 refine ⟨by rw [List.length_append,List.length_append,k.1]; rfl,fun j w m hw hm=>?_⟩
 by_cases hj:j < us.length
 ·rw [List.getElem?_append_left hj] at hw
  rw [List.getElem?_append_left (by have:=k.1; omega)] at hm
  exact k.2 j w m hw hm
 ·have h1:=(List.getElem?_eq_some_iff.1 hw).1
  rw [List.length_append,List.length_singleton] at h1
  have:j = us.length:=by omega
  subst this
  rw [List.getElem?_append_right (Nat.le_refl _)] at hw
  rw [k.1,List.getElem?_append_right (Nat.le_refl _)] at hm
  simp at hw hm
  subst hw; subst hm
  exact hu
theorem EL.at_ {h:Hp} {us:List Value} {L:List (List Int)} (k:EL h us L) {j:Nat} {l:List Int} (hl:L[j]? = some l):∃ u,us[j]? = some u∧View h u l:=by
 have:=(List.getElem?_eq_some_iff.1 hl).1
 have h1:=List.getElem?_eq_getElem (l:=us) (i:=j) (by have:=k.1; omega)
 exact ⟨_,h1,k.2 j _ l h1 hl⟩
theorem BuiltC.load {h0 h:Hp} {e:TypeId} {n:Nat} {v:Value} {cs:List Value} (k:BuiltC h0 h e 1 v n cs) {j:Nat} {w:Value} (hj:cs[j]? = some w):∃ r,v = slc r 0 n n∧cellAt h r (offAt 0 j 1) = some w:=by
 obtain ⟨hl,⟨rfl,e1⟩ | ⟨r,rfl,h2,y,hr⟩⟩:=k
 ·have:=(List.getElem?_eq_some_iff.1 hj).1
  omega
 ·refine ⟨r,rfl,?_⟩
  rw [offAt_eq,Nat.zero_add,Nat.mul_one]
  exact cellAt_row hr hj
end
end Go.Rx
