/- Contracts by what is to be shown of each step: a part of the engine. -/
import Derived.Test.YthgjnkdealdmoaaGreatWx11
set_option linter.unusedVariables false
set_option linter.unusedSectionVars false
set_option linter.unusedSimpArgs false
namespace Go.Rx
open Go.RowKit
noncomputable section

/-! Lists that are built: appending. -/

def Built (h0 h:Hp) (e:TypeId) (v:Value) (l:List Int):Prop :=
 (v = .slice none 0 0∧l = [])∨∃ r,v = slc r 0 l.length l.length∧h0.next≤r∧∃ x,h.at r = some (.row e x (l.map int))
theorem Built.ext {h0 h h':Hp} {e:TypeId} {v:Value} {l:List Int} (g:Grows h h') (k:Built h0 h e v l):Built h0 h' e v l:=by
 rcases k with h1 | ⟨r,rfl,h2,x,hr⟩
 ·exact .inl h1
 ·exact .inr ⟨r,rfl,h2,x,g.at_ _ _ hr⟩
theorem Built.back {h1 h0 h:Hp} {e:TypeId} {v:Value} {l:List Int} (g:h1.next≤h0.next) (k:Built h0 h e v l):Built h1 h e v l:=by
 rcases k with h1 | ⟨r,rfl,h2,hr⟩
 ·exact .inl h1
 ·exact .inr ⟨r,rfl,Nat.le_trans g h2,hr⟩

/-! Parts of slices. -/

def View (h:Hp) (v:Value) (l:List Int):Prop :=
 (l = []∧(v = .slice none 0 0∨v = void))∨∃ r o c,v = slc r o l.length c∧l.length≤c∧((∃ e x cs,h.at r = some (.row e x cs)∧o + l.length≤cs.length)∨∃ cs,h.at r = some (.lent cs)∧o + l.length≤cs.length)∧∀ k,(hk:k < l.length)→cellAt h r (o + k) = some (int l[k])
theorem View.ext {h h':Hp} {v:Value} {l:List Int} (g:Grows h h') (k:View h v l):View h' v l:=by
 rcases k with h0 | ⟨r,o,c,rfl,hc,hr,hcell⟩
 ·exact .inl h0
 ·refine .inr ⟨r,o,c,rfl,hc,?_,fun k hk=>g.cell (hcell k hk)⟩
  rcases hr with ⟨e,x,cs,hr,hl⟩ | ⟨cs,hr,hl⟩
  ·exact .inl ⟨e,x,cs,g.at_ _ _ hr,hl⟩
  ·exact .inr ⟨cs,g.at_ _ _ hr,hl⟩
theorem Built.view {h0 h:Hp} {e:TypeId} {v:Value} {l:List Int} (k:Built h0 h e v l):View h v l:=by
 rcases k with ⟨rfl,rfl⟩ | ⟨r,rfl,_,x,hr⟩
 ·exact .inl ⟨rfl,.inl rfl⟩
 ·exact .inr ⟨r,0,_,rfl,Nat.le_refl _,.inl ⟨e,x,_,hr,by simp⟩,fun k hk=>cellAt_row hr (by simp [hk])⟩
theorem LentI.view {h:Hp} {v:Value} {l:List Int} (k:LentI h v l):View h v l:=by
 rcases k with ⟨rfl,rfl⟩ | ⟨r,rfl,hr⟩
 ·exact .inl ⟨rfl,.inl rfl⟩
 ·refine .inr ⟨r,0,_,rfl,Nat.le_refl _,.inr ⟨_,hr,by simp⟩,fun k hk=>?_⟩
  unfold cellAt
  rw [hr]
  simp [hk]
theorem View.known {h:Hp} {v:Value} {l:List Int} (k:View h v l):∃ a c,v = .slice a l.length c:=by
 rcases k with ⟨rfl,rfl | rfl⟩ | ⟨r,o,c,rfl,hc,hr,hcell⟩ <;> exact ⟨_,_,rfl⟩

def BdOf (lo hi:Option Value) (len i j:Nat):Prop:=(lo = none∧i = 0∨lo = some (int i))∧(hi = none∧j = len∨hi = some (int j))
theorem bounds_of {lo hi:Option Value} {len cap i j:Nat} (h:BdOf lo hi len i j) (h1:i≤j) (h2:j≤len) (h3:len≤cap):bounds len cap lo hi none = some (i,j,cap):=by
 obtain ⟨hlo,hhi⟩:=h
 have e1:∀ n m:Nat,n≤m→asNat m (int n) = some n:=fun n m h=>by
  show natUpto m (Int.ofNat n) = _
  unfold natUpto
  dsimp only
  rw [show Nat.ble n m = true by rw [Nat.ble_eq]; exact h]
 have e2:bound hi cap len = some j:=by
  rcases hhi with ⟨rfl,rfl⟩ | rfl
  ·rfl
  ·exact e1 _ _ (by omega)
 have e3:bound lo j 0 = some i:=by
  rcases hlo with ⟨rfl,rfl⟩ | rfl
  ·rfl
  ·exact e1 _ _ h1
 unfold bounds
 rw [show bound none cap cap = some cap from rfl]
 cases hi with
 | none=>dsimp only; rw [e2]; dsimp only; rw [e3]
 | some x=>dsimp only; rw [e2]; dsimp only; rw [e3]

theorem CutP.val {E:Env} {h:Hp} {size:Nat} {v v':Value} {lo hi mx:Option Value} {K:Value→Hp→Prop} (e:hcutS h size v lo hi mx = .val v' h) (k:K v' h):CutP E h size v lo hi mx K:=by
 unfold CutP
 rw [e]
 exact k
/-! Structs in memory. -/
theorem resP_val {E:Env} {r:HRes} {v:Value} {h:Hp} {K:Value→Hp→Prop} (e:r = .val v h) (k:K v h):ResP E r K:=by rw [e]; exact k
end
end Go.Rx
