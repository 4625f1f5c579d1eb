/- Contracts by what is to be shown of each step: a part of the engine. -/
import Derived.Test.YtljbibjnidccbabWx22
set_option linter.unusedVariables false
set_option linter.unusedSectionVars false
set_option linter.unusedSimpArgs false
namespace Go.Rx
open Go.RowKit
noncomputable section

/-! Slices of arrays of integers, by trees. -/
def LentV (h:Hp) (v:Value) (n:Nat) (l:List Int):Prop:=LentC h v n l∨(v = void∧n = 0∧l = [])
theorem AbsT.lentV {h:Hp} {v:Value} {n:Nat} {l:List Int} (k:AbsT h v (.sl n (l.map .num))):LentV h v n l:=by
 generalize hc:l.map Tr.num = cs at k
 cases k with
 | nil =>
  have:l = []:=by simpa using hc
  exact .inl (.inl ⟨rfl,rfl,this⟩)
 | void =>
  have:l = []:=by simpa using hc
  exact .inr ⟨rfl,rfl,this⟩
 | row r n vs cs hr hl ht =>
  subst hc
  rw [List.length_map] at hl
  refine .inl (.inr ⟨r,rfl,?_⟩)
  have e:vs = l.map int:=by
   apply List.ext_getElem?
   intro k
   by_cases hk:k < l.length
   ·have h1:=ht k vs[k] (.num l[k]) (List.getElem?_eq_getElem (by omega)) (by rw [List.getElem?_map,List.getElem?_eq_getElem hk]; rfl)
    have h2:vs[k] = int l[k]:=by
     generalize vs[k] = u at h1
     cases h1
     rfl
    rw [List.getElem?_eq_getElem (by omega),h2,List.getElem?_map,List.getElem?_eq_getElem hk]
    rfl
   ·rw [List.getElem?_eq_none (by omega),List.getElem?_eq_none (by rw [List.length_map]; omega)]
  rw [hr,e]
theorem LentV.pairs {h:Hp} {v:Value} {E:List (Int×Int)} (k:LentV h v E.length (flat E)):PairsV h v E:=by
 rcases k with k | ⟨rfl,e,_⟩
 ·exact k.pairs
 ·exact ⟨_,0,by rw [e]; rfl,fun j hj=>by omega⟩
theorem LentV.ext {h h':Hp} {v:Value} {n:Nat} {l:List Int} (g:Grows h h') (k:LentV h v n l):LentV h' v n l:=by
 rcases k with k | k
 ·exact .inl (k.ext g)
 ·exact .inr k
theorem CutP.lentV {E:Env} {h:Hp} {v:Value} {n k:Nat} {l:List Int} {K:Value→Hp→Prop} (hv:LentV h v n l) (hl:l.length = n * 2) (hk:k≤n) {hi:Option Value} (hhi:hi = some (int k))
  (q:∀ x,ElemsC h 2 x k ((l.take (k * 2)).map int)→K x h):CutP E h 2 v none hi none K:=by
 rcases hv with hv | ⟨rfl,rfl,rfl⟩
 ·exact CutP.lent hv hl hk hhi q
 ·have:k = 0:=by omega
  subst this
  subst hhi
  unfold CutP
  have e:hcutS h 2 void none (some (int (0:Nat))) none = .val void h:=by
   unfold hcutS
   dsimp only [void]
   rw [bounds_of (len:=0) (i:=0) (j:=0) ⟨.inl ⟨rfl,rfl⟩,.inr rfl⟩ (by omega) (by omega) (Nat.le_refl _)]
   rfl
  rw [e]
  exact q _ ⟨rfl,rfl,rfl,rfl⟩
theorem ty_rows {P:Program} {t e u:TypeId} {m:Nat} {tr:Tr} (hm:0 < m) (ht:P.underlying t = some (.slice e)) (he:P.underlying e = some (.array m u)) (hu:P.underlying u = some (.int .i64)) (hce:P.cellsOf e = m) (hcu:P.cellsOf u = 1) (h:TyT P t [tr]):∃ (n:Nat) (l:List Int),tr = .sl n (l.map .num)∧l.length = n * m∧n≤maxLen∧∀ x ∈ l,InR x:=by
 cases h with
 | @sl _ e' n cs h1 hmx hl hx =>
  rw [ht] at h1
  injection h1 with h1
  injection h1 with h1
  subst h1
  rw [hce] at hl
  have each:∀ (k:Nat),(hk:k < cs.length)→∃ a,cs[k] = Tr.num a∧InR a:=by
   intro k hk
   have hi:k / m < n:=Nat.div_lt_of_lt_mul (by rw [Nat.mul_comm]; omega)
   have hj:k % m < m:=Nat.mod_lt _ hm
   have h2:=hx (k / m) hi
   rw [hce] at h2
   obtain ⟨hlen,h3⟩:=ty_array he h2
   have h4:=h3 (k % m) hj
   rw [hcu,Nat.mul_one] at h4
   obtain ⟨a,h5,h6⟩:=ty_num hu h4
   refine ⟨a,?_,h6⟩
   have hk2:k / m * m + k % m = k:=by rw [Nat.mul_comm]; exact Nat.div_add_mod k m
   have h7:((List.take m (List.drop (k / m * m) cs)).drop (k % m)).take 1 = [cs[k]]:=by
    rw [List.drop_take,List.drop_drop,hk2,List.take_take,Nat.min_eq_left (by omega),List.drop_eq_getElem_cons hk,List.take_succ_cons,List.take_zero]
   rw [h7] at h5
   injection h5
  obtain ⟨l,rfl,hq⟩:=list_of_all (p:=fun t=>∃ a,t = Tr.num a∧InR a) (f:=Tr.num) (q:=InR) (fun t ht=>ht) cs (fun k hk=>each k hk)
  rw [List.length_map] at hl
  exact ⟨n,l,rfl,hl,hmx,hq⟩
 | _=>simp_all
theorem flat_mem {E:List (Int×Int)} {x:Int×Int} (h:x ∈ E):x.1 ∈ flat E∧x.2 ∈ flat E:=by
 induction E with
 | nil=>simp at h
 | cons y E ih =>
  rcases List.mem_cons.1 h with rfl | h
  ·simp [flat]
  ·have:=ih h
   simp [flat,this]
theorem ty_pairs {P:Program} {t e u:TypeId} {tr:Tr} (ht:P.underlying t = some (.slice e)) (he:P.underlying e = some (.array 2 u)) (hu:P.underlying u = some (.int .i64)) (hce:P.cellsOf e = 2) (hcu:P.cellsOf u = 1) (h:TyT P t [tr]):∃ E:List (Int×Int),tr = .sl E.length ((flat E).map .num)∧E.length≤maxLen∧∀ x ∈ E,InR x.1∧InR x.2:=by
 obtain ⟨n,l,rfl,hl,hm,hx⟩:=ty_rows (by omega) ht he hu hce hcu h
 obtain ⟨E,rfl,rfl⟩:=flat_of n l hl
 exact ⟨E,rfl,hm,fun x hx'=>⟨hx _ (flat_mem hx').1,hx _ (flat_mem hx').2⟩⟩
end
end Go.Rx
