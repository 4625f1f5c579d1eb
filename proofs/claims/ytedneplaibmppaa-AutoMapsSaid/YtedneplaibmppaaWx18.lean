/- A part of the engine. -/
import Derived.Test.YtedneplaibmppaaWx16
import Derived.OpenShut
set_option maxRecDepth 100000
set_option linter.unusedVariables false
set_option linter.unusedSectionVars false
set_option linter.unusedSimpArgs false
namespace Go.Rx
open Go.RowKit Go.ChangeShapes
/-! What LinesLine wanted beside Wx1 to Wx17: raw operations, arrays and structs in memory, results of two parts, arrays by value. -/
theorem rG (a b:Nat):(a:Int).tmod (b:Int) = ((a % b:Nat):Int):=by
 rw [Int.tmod_eq_emod_of_nonneg (by omega)]; rfl
theorem CQ (a b:Nat):(a:Int).tdiv (b:Int) = ((a / b:Nat):Int):=by
 rw [Int.tdiv_eq_ediv_of_nonneg (by omega)]; rfl
theorem bE {h:Hp}{r:Nat}{e:TypeId}{x:Bool}{cs vs:List Value}(hr:h.at r = some (.row e x cs))(hl:vs.length = cs.length)(h1:vs.all oneCell = true)(ho:over cs 0 vs = vs):storeAt h r 0 vs = some (h.set r (.row e x vs)):=by
 unfold storeAt;rw [hr];dsimp only;rw [if_pos ⟨by omega,h1⟩,ho]
theorem dD {E:Env}{φ:Frame}{h:Hp}{a b:Nat}{t:TypeId}{r o:Nat}{i:TI}{cs:List Value}{w:Value}{Q:Value→Hp→Prop}(hφ:φ a = ptr r o)(hb:φ b = w)(hw:CF w = false)(ht:E.ty t = some i)(ha:i.agg = true)(hc:bJ h r o i.size = some cs)(hq:Q (.tuple ⟨[.agg ⟨cs⟩,w]⟩) h):j6 E [.cell a t,.tmp b] ⟨φ,h,[]⟩ Q:=by
 have e1:kY E φ h (.cell a t) = some (.agg ⟨cs⟩):=by
  unfold kY;dsimp only;rw [hφ];dsimp only [ptr];unfold hload;rw [ht];dsimp only;unfold zL;rw [ha];dsimp only;rw [hc];rfl
 have e2:kY E φ h (.tmp b) = some w:=by
  unfold kY;dsimp only;rw [hb,hw]
 have e:jD E φ h [.cell a t,.tmp b] = some [.agg ⟨cs⟩,w]:=by
  simp only [jD,e1,e2]
 unfold j6;dsimp only;rw [show iH [] h = some h from rfl];dsimp only;rw [e];exact hq
theorem U1 (l:List Int):fD 4 (.agg ⟨l.map int⟩) (.agg ⟨l.map int⟩) = true:=by
 have q:∀ n:Int,eqI n n = true:=fun n=>by unfold eqI; cases n <;> simp
 have hz:∀ l:List Int,((l.map int).zip (l.map int)).all (fun p=>fD 3 p.1 p.2) = true:=by
  intro l
  induction l with
  | nil=>rfl
  | cons x l ih=>simp only [List.map_cons,List.zip_cons_cons,List.all_cons,ih,Bool.and_true]; exact q x
 show (Nat.beq _ _ && _) = true;rw [Bool.and_eq_true];exact ⟨by simp,hz l⟩
end Go.Rx
