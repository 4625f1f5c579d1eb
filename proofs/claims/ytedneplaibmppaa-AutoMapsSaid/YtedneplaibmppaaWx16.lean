/- A part of the engine. -/
import Derived.Test.YtedneplaibmppaaWx15
set_option linter.unusedVariables false
set_option linter.unusedSectionVars false
set_option linter.unusedSimpArgs false
namespace Go.Rx
open Go.RowKit
noncomputable section
/-! Slices of pairs of integers. -/
def QW (h:Hp)(v:Value)(E:List (Int×Int)):Prop :=
 ∃ a c,v = .slice a E.length c∧∀ k,(hk:k < E.length)→∃ r o,a = some ⟨r,o,none⟩∧cellAt h r (k * 2 + o) = some (int (E[k]).1)∧cellAt h r (k * 2 + o + 1) = some (int (E[k]).2)
theorem QW.ext {h h':Hp}{v:Value}{E:List (Int×Int)}(g:aA h h')(k:QW h v E):QW h' v E:=by
 obtain ⟨a,c,e,hc⟩:=k;exact ⟨a,c,e,fun j hj=>let ⟨r,o,e1,h1,h2⟩:=hc j hj; ⟨r,o,e1,g.cell h1,g.cell h2⟩⟩
def flat:List (Int×Int)→List Int
 | []=>[]
 | x :: E=>x.1 :: x.2 :: flat E
theorem flat_get:∀ (E:List (Int×Int)) (k:Nat) (h:k < E.length),(flat E)[k * 2]? = some (E[k]).1∧(flat E)[k * 2 + 1]? = some (E[k]).2
 | x :: E,0,h=>⟨rfl,rfl⟩
 | x :: E,k + 1,h=>by
  have:=flat_get E k (by simpa using h);refine ⟨?_,?_⟩
  ·rw [show (k + 1) * 2 = k * 2 + 1 + 1 by omega]; exact this.1
  ·rw [show (k + 1) * 2 + 1 = k * 2 + 1 + 1 + 1 by omega]; exact this.2
theorem rF (l:List Int):(l.map int).all oneCell = true:=by
 rw [List.all_eq_true];intro v hv;obtain ⟨n,_,rfl⟩:=List.mem_map.1 hv;rfl
theorem gY.qb {E:Env}{h:Hp}{v:Value}{n k:Nat}{l:List Int}{K:Value→Hp→Prop}(hv:OL h v n l)(hl:l.length = n * 2)(hk:k≤n){hi:Option Value}(hhi:hi = some (int k))
  (q:∀ x,wO h 2 x k ((l.take (k * 2)).map int)→K x h):gY E h 2 v none hi none K:=by
 subst hhi;unfold gY;have hb:Zi none (some (int k)) n 0 k:=⟨.inl ⟨rfl,rfl⟩,.inr rfl⟩;rcases hv with ⟨rfl,rfl,rfl⟩ | ⟨r,rfl,hr⟩
 ·have:k = 0:=by omega
  subst this;have e:lN h 2 (.slice none 0 0) none (some (int (0:Nat))) none = .val (.slice none 0 0) h:=by
   unfold lN;dsimp only;rw [uZ (len:=0) hb (by omega) (by omega) (Nat.le_refl _)];rfl
  rw [e];exact q _ ⟨rfl,rfl,rfl,rfl⟩
 ·have shape:lN h 2 (slc r 0 n n) none (some (int k)) none = nK h 2 r 0 true (some (0,k,n)) (h.at r):=by
   unfold lN;dsimp only [slc];rw [uZ hb (by omega) hk (Nat.le_refl _)];rfl
  rw [shape,hr];have hlen:((l.take (k * 2)).map int).length = k * 2:=by rw [List.length_map,List.length_take]; omega
  have el:∀ x,x = slc r 0 k n∨x = void∧k = 0→wO h 2 x k ((l.take (k * 2)).map int):=by
   rintro x (rfl | ⟨rfl,rfl⟩)
   ·refine ⟨rfl,?_,hlen,rF _⟩;show bJ h r 0 (k * 2) = _;unfold bJ;rw [hr];dsimp only;unfold cellsIn;rw [if_pos (by rw [List.length_map]; omega),List.drop_zero,List.map_take]
   ·exact ⟨rfl,rfl,by simp,by simp⟩
  show kV E (lift (nW D0 2 r 0 true (some (0,k,n))) h) K;unfold nW oP;dsimp only
  cases XI:Nat.ble (Nat.succ 0) n with
  | true=>exact q _ (el _ (.inl rfl))
  | false =>
   have hn:¬ 1≤n:=fun hle=>by rw [Nat.ble_eq_true_of_le hle] at XI; cases XI
   unfold xH;have e1:Nat.sub k 0 = 0:=by show k - 0 = 0; omega
   have e2:Nat.sub n 0 = 0:=by show n - 0 = 0; omega
   rw [e1,e2];exact q _ (el _ (.inr ⟨rfl,by omega⟩))
end
end Go.Rx
