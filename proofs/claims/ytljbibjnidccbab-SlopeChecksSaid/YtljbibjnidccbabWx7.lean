/- Contracts by what is to be shown of each step: a part of the engine. -/
import Derived.Test.YtljbibjnidccbabWx6
set_option linter.unusedVariables false
set_option linter.unusedSectionVars false
set_option linter.unusedSimpArgs false
namespace Go.Rx

abbrev int (n:Int):Value:=.int .i64 n

theorem wrapI_id {n:Int} (h:-9223372036854775808≤n∧n < 9223372036854775808):wrapI .i64 n = n:=by
 unfold wrapI IntKind.wrap
 simp [IntKind.signed,IntKind.bits]
 omega

theorem idxN_ok {n:Nat} {k:IntKind} {j:Int} (h:0≤j∧j < (n:Int)):idxN n (.int k j) = some j.toNat:=by
 unfold idxN
 simp [h]

def Cells (h:Hp) (v:Value) (cs:List Value):Prop :=
 ∃ a c,v = .slice a cs.length c∧∀ k,(hk:k < cs.length)→∃ r o sp,a = some ⟨r,o,sp⟩∧voidSp sp = false∧cellAt h r (k + o) = some cs[k]
def Ints (h:Hp) (v:Value) (l:List Int):Prop :=
 ∃ a c,v = .slice a l.length c∧∀ k,(hk:k < l.length)→∃ r o sp,a = some ⟨r,o,sp⟩∧voidSp sp = false∧cellAt h r (k + o) = some (int l[k])

end Go.Rx
