/- Contracts of the functions that LnL comes to. -/
import Derived.Test.YtfiginefkfipeaaWx15
import Derived.Test.YtfiginefkfipeaaLn6
import Derived.OpenShut
set_option linter.unusedVariables false
set_option linter.unusedSectionVars false
set_option linter.unusedSimpArgs false
namespace Go.Rx
open Go.RowKit Go.ChangeShapes
/-- An array of two integers, as the caller gives it. -/
theorem pair_of_trod {H : Type} {enc : TypeId × Value → H} {P : Program} {W : World} {t u : TypeId} {base : Nat} {sp : Nat → Bool} {hd : Bool} {v : Value} {d : DataW H} {p : List MemPlace} (ht : P.underlying t = some (.array 2 u)) (hu : P.underlying u = some (.int .i64)) (hcu : P.cellsOf u = 1) (hct : P.cellsOf t = 2)
    (h0 : DataW.Trod enc P W base sp hd t v d p) : ∃ a b : Int, v = .agg ⟨[int a, int b]⟩ := by
  obtain ⟨fuel, hf⟩ := h0
  obtain ⟨xs, m, -, -, hcl, hxl, hx⟩ := DataW.trod_array ht hf
  rw [hct] at hcl
  have h1 := hx 0 (by omega)
  have h2 := hx 1 (by omega)
  rw [hcu, List.getElem?_eq_getElem (by omega)] at h1 h2
  obtain ⟨a, ha, -⟩ := DataW.trod_int hu h1
  obtain ⟨b, hb, -⟩ := DataW.trod_int hu h2
  have hc : v.cells.toList = [int a, int b] := by
    match hv : v.cells.toList, hcl with
    | [x, y], _ =>
      rw [hv] at ha hb
      simp at ha hb
      rw [ha, hb]
  refine ⟨a, b, ?_⟩
  cases v with
  | agg cs =>
    have : cs.toList = [int a, int b] := hc
    rw [← this]
  | _ => simp [Value.cells] at hc
end Go.Rx
