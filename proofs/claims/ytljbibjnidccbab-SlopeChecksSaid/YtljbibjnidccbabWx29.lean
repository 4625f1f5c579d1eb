/- Contracts by what is to be shown of each step: a part of the engine. -/
import Derived.Test.YtljbibjnidccbabWx28
set_option linter.unusedVariables false
set_option linter.unusedSectionVars false
set_option linter.unusedSimpArgs false
namespace Go.Rx
open Go.RowKit
noncomputable section

/-! Parts of a slice of any cells that has been built. -/

theorem elems_part {h:Hp} {e r s o m:Nat} {x:Bool} {cs:List Value} (hr:h.at r = some (.row e x cs)) (ho:o + m * s≤cs.length) (hone:cs.all oneCell = true) (c:Nat):ElemsC h s (slc r o m c) m ((cs.drop o).take (m * s)):=by
 refine ⟨rfl,?_,by rw [List.length_take,List.length_drop]; omega,?_⟩
 ·show cellsAt h r o (m * s) = _
  rw [cellsAt_row hr (by omega)]
 ·rw [List.all_eq_true] at hone ⊢
  intro v hv
  exact hone v (List.mem_of_mem_drop (List.mem_of_mem_take hv))

theorem BuiltC.cut {h0 h:Hp} {e s n:Nat} {v:Value} {cs:List Value} (k:BuiltC h0 h e s v n cs) (hone:cs.all oneCell = true) {lo hi:Option Value} {i j:Nat} (hb:BdOf lo hi n i j) (h1:i≤j) (h2:j≤n) :
  ∃ v',ElemsC h s v' (j - i) ((cs.drop (i * s)).take ((j - i) * s))∧hcutS h s v lo hi none = .val v' h:=by
 obtain ⟨hl,⟨rfl,rfl⟩ | ⟨r,rfl,_,x,hr⟩⟩:=k
 ·have hj:j = 0:=by omega
  have hi:i = 0:=by omega
  subst hj; subst hi
  refine ⟨.slice none 0 0,⟨rfl,by simp [helems],by simp,by simp⟩,?_⟩
  unfold hcutS
  dsimp only
  rw [bounds_of (len:=0) hb h1 h2 (Nat.le_refl _)]
  rfl
 ·have hjs:j * s≤n * s:=Nat.mul_le_mul_right _ h2
  have hij:i * s≤j * s:=Nat.mul_le_mul_right _ h1
  have hsub:(j - i) * s = j * s - i * s:=Nat.sub_mul _ _ _
  have shape:hcutS h s (slc r 0 n n) lo hi none = hcutObj h s r 0 true (some (i,j,n)) (h.at r):=by
   unfold hcutS
   dsimp only [slc]
   rw [bounds_of hb h1 h2 (Nat.le_refl _)]
   rfl
  have p1:∀ c,ElemsC h s (slc r (i * s) (j - i) c) (j - i) ((cs.drop (i * s)).take ((j - i) * s)):=fun c=>elems_part hr (by omega) hone c
  have p0:∀ o c,j - i = 0→o≤cs.length→ElemsC h s (slc r o (j - i) c) (j - i) ((cs.drop (i * s)).take ((j - i) * s)):=by
   intro o c e ho
   have:=elems_part (s:=s) (m:=j - i) hr (o:=o) (by rw [e]; omega) hone c
   rw [e,Nat.zero_mul] at this ⊢
   simpa using this
  rw [shape,hr]
  unfold hcutObj
  cases x with
  | true =>
   unfold cutExact cutTo
   dsimp only
   cases hbeq:Nat.beq n i with
   | true =>
    have:n = i:=Nat.eq_of_beq_eq_true hbeq
    exact ⟨_,p0 0 _ (by omega) (by omega),rfl⟩
   | false =>
    refine ⟨_,p1 (n - i),?_⟩
    show HRes.val (slc r (0 + i * s) (j - i) (n - i)) h = _
    rw [Nat.zero_add]
  | false =>
   unfold cutOf cutOpen
   dsimp only
   cases hble:Nat.ble (Nat.succ i) n with
   | true =>
    refine ⟨_,p1 (n - i),?_⟩
    show HRes.val (slc r (0 + i * s) (j - i) (n - i)) h = _
    rw [Nat.zero_add]
   | false =>
    have hn:¬ i + 1≤n:=fun hle=>by rw [Nat.ble_eq_true_of_le hle] at hble; cases hble
    unfold cutAll
    have e1:Nat.sub j i = 0:=by show j - i = 0; omega
    have e2:Nat.sub n i = 0:=by show n - i = 0; omega
    rw [e1,e2]
    refine ⟨void,?_,rfl⟩
    have:j - i = 0:=by omega
    rw [this,Nat.zero_mul]
    exact ⟨rfl,by unfold helems void; dsimp only; rw [Nat.zero_mul]; rfl,by simp,by simp⟩
end
end Go.Rx
