/- Contracts by what is to be shown of each step: a part of the engine. -/
import Derived.Test.YtljbibjnidccbabWx27
import Derived.Test.YtljbibjnidccbabWx21
import Derived.Test.YtljbibjnidccbabWx13
set_option linter.unusedVariables false
set_option linter.unusedSectionVars false
set_option linter.unusedSimpArgs false
namespace Go.Rx
open Go.RowKit
noncomputable section

/-! Room that is made at once (append of noughts), and appending into it. -/

theorem AppP.fits {E:Env} {h:Hp} {e s bytes r n m c:Nat} {x:Value} {K:Value→Hp→Prop} {new cs:List Value} {et:TypeId} {b:Bool} (hr:h.at r = some (.row et b cs)) (hx:ElemsC h s x m new) (hc:n + m≤c) (hcs:c * s≤cs.length)
  (k:K (slc r 0 (n + m) c) (h.set r (.row et b (over cs (n * s) new)))):AppP E h e s bytes (slc r 0 n c) x K:=by
 obtain ⟨h1,h2,h3,h4⟩:=hx
 unfold AppP happT slc
 dsimp only
 rw [show voidBase (some ⟨r,0,none⟩) = false from rfl]
 dsimp only
 rw [h1]
 dsimp only
 rw [h2]
 dsimp only
 rw [if_pos hc]
 unfold hfitsT
 dsimp only
 have hle:(n + m) * s≤c * s:=Nat.mul_le_mul_right _ hc
 rw [Nat.add_mul] at hle
 have e1:storeAt h r (0 + n * s) new = some (h.set r (.row et b (over cs (n * s) new))):=by
  unfold storeAt
  rw [hr]
  dsimp only
  rw [if_pos ⟨by omega,h4⟩,Nat.zero_add]
 rw [e1]
 exact k

end
end Go.Rx
