/- Contracts by what is to be shown of each step: a part of the engine. -/
import Derived.Test.YtljbibjnidccbabWx15
set_option linter.unusedVariables false
set_option linter.unusedSectionVars false
set_option linter.unusedSimpArgs false
namespace Go.Rx
open Go.RowKit
noncomputable section

/-! Slices of pairs of integers. -/

theorem cellsAt_two {h:Hp} {r o:Nat} {v w:Value} (e1:cellAt h r o = some v) (e2:cellAt h r (o + 1) = some w):cellsAt h r o 2 = some [v,w]:=by
 have k:∀ cs:List Value,cs[o]? = some v→cs[o + 1]? = some w→cellsIn o 2 cs = some [v,w]:=by
  intro cs h1 h2
  obtain ⟨l1,g1⟩:=List.getElem?_eq_some_iff.1 h1
  obtain ⟨l2,g2⟩:=List.getElem?_eq_some_iff.1 h2
  unfold cellsIn
  rw [if_pos (by omega),List.drop_eq_getElem_cons l1,List.take_succ_cons,List.drop_eq_getElem_cons l2,List.take_succ_cons,List.take_zero,g1,g2]
 unfold cellAt at e1 e2
 unfold cellsAt
 split at e1
 ·rename_i e x cs hr; rw [hr] at e2; exact k _ e1 e2
 ·rename_i cs hr; rw [hr] at e2; exact k _ e1 e2
 ·cases e1

def PairsV (h:Hp) (v:Value) (E:List (Int×Int)):Prop :=
 ∃ a c,v = .slice a E.length c∧∀ k,(hk:k < E.length)→∃ r o,a = some ⟨r,o,none⟩∧cellAt h r (k * 2 + o) = some (int (E[k]).1)∧cellAt h r (k * 2 + o + 1) = some (int (E[k]).2)
theorem PairsV.ext {h h':Hp} {v:Value} {E:List (Int×Int)} (g:Grows h h') (k:PairsV h v E):PairsV h' v E:=by
 obtain ⟨a,c,e,hc⟩:=k
 exact ⟨a,c,e,fun j hj=>let ⟨r,o,e1,h1,h2⟩:=hc j hj; ⟨r,o,e1,g.cell h1,g.cell h2⟩⟩
def flat:List (Int×Int)→List Int
 | []=>[]
 | x :: E=>x.1 :: x.2 :: flat E
theorem flat_length:∀ E:List (Int×Int),(flat E).length = E.length * 2
 | []=>rfl
 | x :: E=>by simp only [flat,List.length_cons,flat_length E]; omega
theorem flat_get:∀ (E:List (Int×Int)) (k:Nat) (h:k < E.length),(flat E)[k * 2]? = some (E[k]).1∧(flat E)[k * 2 + 1]? = some (E[k]).2
 | x :: E,0,h=>⟨rfl,rfl⟩
 | x :: E,k + 1,h=>by
  have:=flat_get E k (by simpa using h)
  refine ⟨?_,?_⟩
  ·rw [show (k + 1) * 2 = k * 2 + 1 + 1 by omega]; exact this.1
  ·rw [show (k + 1) * 2 + 1 = k * 2 + 1 + 1 + 1 by omega]; exact this.2
theorem flat_take:∀ (E:List (Int×Int)) (k:Nat),flat (E.take k) = (flat E).take (k * 2)
 | [],k=>by simp [flat]
 | x :: E,0=>by simp [flat]
 | x :: E,k + 1=>by
  rw [List.take_succ_cons,flat,flat_take E k,flat,show (k + 1) * 2 = k * 2 + 1 + 1 by omega,List.take_succ_cons,List.take_succ_cons]
theorem flat_of:∀ (n:Nat) (l:List Int),l.length = n * 2→∃ E:List (Int×Int),E.length = n∧flat E = l
 | 0,l,h=>⟨[],rfl,by have:l = []:=List.eq_nil_of_length_eq_zero (by omega); rw [this]; rfl⟩
 | n + 1,l,h=>by
  match l,h with
  | a :: b :: l,h =>
   obtain ⟨E,h1,h2⟩:=flat_of n l (by simp only [List.length_cons] at h; omega)
   exact ⟨(a,b) :: E,by simp [h1],by rw [flat,h2]⟩
  | [a],h=>simp only [List.length_cons,List.length_nil] at h; omega
  | [],h=>simp only [List.length_nil] at h; omega
theorem LentC.pairs {h:Hp} {v:Value} {E:List (Int×Int)} (k:LentC h v E.length (flat E)):PairsV h v E:=by
 rcases k with ⟨rfl,e,_⟩ | ⟨r,rfl,hr⟩
 ·exact ⟨none,0,by rw [e],fun j hj=>by omega⟩
 ·refine ⟨_,_,rfl,fun j hj=>⟨r,0,rfl,?_⟩⟩
  have hf:=flat_get E j hj
  unfold cellAt
  rw [hr]
  dsimp only
  rw [List.getElem?_map,List.getElem?_map,Nat.add_zero,hf.1,hf.2]
  exact ⟨rfl,rfl⟩
theorem BuiltC.pairs {h0 h:Hp} {e:TypeId} {v:Value} {E:List (Int×Int)} (k:BuiltC h0 h e 2 v E.length ((flat E).map int)):PairsV h v E:=by
 obtain ⟨a,rfl,ha⟩:=k.slice
 refine ⟨a,_,rfl,fun j hj=>?_⟩
 obtain ⟨r,rfl,x,hr⟩:=ha j hj
 have hf:=flat_get E j hj
 refine ⟨r,0,rfl,?_⟩
 constructor
 ·exact cellAt_row hr (by rw [List.getElem?_map,Nat.add_zero,hf.1]; rfl)
 ·exact cellAt_row hr (by rw [List.getElem?_map,Nat.add_zero,hf.2]; rfl)
theorem ints_one (l:List Int):(l.map int).all oneCell = true:=by
 rw [List.all_eq_true]
 intro v hv
 obtain ⟨n,_,rfl⟩:=List.mem_map.1 hv
 rfl
theorem CutP.lent {E:Env} {h:Hp} {v:Value} {n k:Nat} {l:List Int} {K:Value→Hp→Prop} (hv:LentC h v n l) (hl:l.length = n * 2) (hk:k≤n) {hi:Option Value} (hhi:hi = some (int k))
  (q:∀ x,ElemsC h 2 x k ((l.take (k * 2)).map int)→K x h):CutP E h 2 v none hi none K:=by
 subst hhi
 unfold CutP
 have hb:BdOf none (some (int k)) n 0 k:=⟨.inl ⟨rfl,rfl⟩,.inr rfl⟩
 rcases hv with ⟨rfl,rfl,rfl⟩ | ⟨r,rfl,hr⟩
 ·have:k = 0:=by omega
  subst this
  have e:hcutS h 2 (.slice none 0 0) none (some (int (0:Nat))) none = .val (.slice none 0 0) h:=by
   unfold hcutS
   dsimp only
   rw [bounds_of (len:=0) hb (by omega) (by omega) (Nat.le_refl _)]
   rfl
  rw [e]
  exact q _ ⟨rfl,rfl,rfl,rfl⟩
 ·have shape:hcutS h 2 (slc r 0 n n) none (some (int k)) none = hcutObj h 2 r 0 true (some (0,k,n)) (h.at r):=by
   unfold hcutS
   dsimp only [slc]
   rw [bounds_of hb (by omega) hk (Nat.le_refl _)]
   rfl
  rw [shape,hr]
  have hlen:((l.take (k * 2)).map int).length = k * 2:=by rw [List.length_map,List.length_take]; omega
  have el:∀ x,x = slc r 0 k n∨x = void∧k = 0→ElemsC h 2 x k ((l.take (k * 2)).map int):=by
   rintro x (rfl | ⟨rfl,rfl⟩)
   ·refine ⟨rfl,?_,hlen,ints_one _⟩
    show cellsAt h r 0 (k * 2) = _
    unfold cellsAt
    rw [hr]
    dsimp only
    unfold cellsIn
    rw [if_pos (by rw [List.length_map]; omega),List.drop_zero,List.map_take]
   ·exact ⟨rfl,rfl,by simp,by simp⟩
  show ResP E (lift (cutOf D0 2 r 0 true (some (0,k,n))) h) K
  unfold cutOf cutOpen
  dsimp only
  cases hble:Nat.ble (Nat.succ 0) n with
  | true=>exact q _ (el _ (.inl rfl))
  | false =>
   have hn:¬ 1≤n:=fun hle=>by rw [Nat.ble_eq_true_of_le hle] at hble; cases hble
   unfold cutAll
   have e1:Nat.sub k 0 = 0:=by show k - 0 = 0; omega
   have e2:Nat.sub n 0 = 0:=by show n - 0 = 0; omega
   rw [e1,e2]
   exact q _ (el _ (.inr ⟨rfl,by omega⟩))
theorem resP_cutA {E:Env} {h:Hp} {n size r o:Nat} {K:Value→Hp→Prop} (q:K (.slice (some ⟨r,o,some 1⟩) n n) h) (hn:0 < n):ResP E (hcutA h n size (ptr r o) none none none) K:=by
 have e:hcutA h n size (ptr r o) none none none = .val (.slice (some ⟨r,o,some 1⟩) n n) h:=by
  unfold hcutA
  dsimp only [ptr]
  rw [show bounds n n none none none = some (0,n,n) from rfl]
  unfold cutLim
  dsimp only
  have e1:cutTo size o 0 n = o:=by
   unfold cutTo
   cases n with
   | zero=>omega
   | succ n =>
    show Nat.add o (Nat.mul 0 size) = o
    rw [show Nat.mul 0 size = 0 from Nat.zero_mul size]; rfl
  rw [e1]
  rfl
 rw [e]
 exact q
end
end Go.Rx
