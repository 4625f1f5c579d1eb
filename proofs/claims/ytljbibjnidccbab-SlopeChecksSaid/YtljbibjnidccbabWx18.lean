/- Contracts by what is to be shown of each step: a part of the engine. -/
import Derived.Test.YtljbibjnidccbabWx16
import Derived.OpenShut
set_option maxRecDepth 100000
set_option linter.unusedVariables false
set_option linter.unusedSectionVars false
set_option linter.unusedSimpArgs false
namespace Go.Rx
open Go.RowKit Go.ChangeShapes

/-! What LinesLine wanted beside Wx1 to Wx17: raw operations, arrays and structs in memory, results of two parts, arrays by value. -/

theorem storeAt_full {h:Hp} {r:Nat} {e:TypeId} {x:Bool} {cs vs:List Value} (hr:h.at r = some (.row e x cs)) (hl:vs.length = cs.length) (h1:vs.all oneCell = true) (ho:over cs 0 vs = vs):storeAt h r 0 vs = some (h.set r (.row e x vs)):=by
 unfold storeAt
 rw [hr]
 dsimp only
 rw [if_pos ⟨by omega,h1⟩,ho]
theorem leave_cell2 {E:Env} {φ:Frame} {h:Hp} {a b:Nat} {t:TypeId} {r o:Nat} {i:TI} {cs:List Value} {w:Value} {Q:Value→Hp→Prop} (hφ:φ a = ptr r o) (hb:φ b = w) (hw:isUndef w = false) (ht:E.ty t = some i) (ha:i.agg = true) (hc:cellsAt h r o i.size = some cs) (hq:Q (.tuple ⟨[.agg ⟨cs⟩,w]⟩) h):finP E [.cell a t,.tmp b] ⟨φ,h,[]⟩ Q:=by
 have e1:resultφ E φ h (.cell a t) = some (.agg ⟨cs⟩):=by
  unfold resultφ
  dsimp only
  rw [hφ]
  dsimp only [ptr]
  unfold hload
  rw [ht]
  dsimp only
  unfold hloadTI
  rw [ha]
  dsimp only
  rw [hc]
  rfl
 have e2:resultφ E φ h (.tmp b) = some w:=by
  unfold resultφ
  dsimp only
  rw [hb,hw]
 have e:resultsφ E φ h [.cell a t,.tmp b] = some [.agg ⟨cs⟩,w]:=by
  simp only [resultsφ,e1,e2]
 unfold finP
 dsimp only
 rw [show takeMarksφ [] h = some h from rfl]
 dsimp only
 rw [e]
 exact hq
end Go.Rx
