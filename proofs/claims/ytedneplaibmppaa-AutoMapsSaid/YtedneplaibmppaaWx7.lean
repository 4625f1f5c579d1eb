/- A part of the engine. -/
import Derived.Test.YtedneplaibmppaaWx6
set_option linter.unusedVariables false
set_option linter.unusedSectionVars false
set_option linter.unusedSimpArgs false
namespace Go.Rx
abbrev int (n:Int):Value:=.int .i64 n
theorem uW {n:Int}(h:-9223372036854775808≤n∧n < 9223372036854775808):jW .i64 n = n:=by
 unfold jW IntKind.wrap;simp [IntKind.signed,IntKind.bits];omega
theorem SS {n:Nat}{k:IntKind}{j:Int}(h:0≤j∧j < (n:Int)):iJ n (.int k j) = some j.toNat:=by
 unfold iJ;simp [h]
def Cells (h:Hp)(v:Value)(cs:List Value):Prop :=
 ∃ a c,v = .slice a cs.length c∧∀ k,(hk:k < cs.length)→∃ r o sp,a = some ⟨r,o,sp⟩∧fA sp = false∧cellAt h r (k + o) = some cs[k]
def Ints (h:Hp)(v:Value)(l:List Int):Prop :=
 ∃ a c,v = .slice a l.length c∧∀ k,(hk:k < l.length)→∃ r o sp,a = some ⟨r,o,sp⟩∧fA sp = false∧cellAt h r (k + o) = some (int l[k])
end Go.Rx
