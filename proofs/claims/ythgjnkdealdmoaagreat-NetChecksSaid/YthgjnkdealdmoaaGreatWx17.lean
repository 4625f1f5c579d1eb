/- Contracts by what is to be shown of each step: a part of the engine. -/
import Derived.Test.YthgjnkdealdmoaaGreatWx16
set_option linter.unusedVariables false
set_option linter.unusedSectionVars false
set_option linter.unusedSimpArgs false
namespace Go.Rx
open Go.RowKit

/-! Sets as numbers: operations on bits. -/

def less (a b:Nat):Nat:=a ^^^ (a &&& b)
theorem shl_one {k:Nat} (hk:k < 63):IsWrap .i64 (1 * 2 ^ (min (k:Int).toNat 64)) ((2 ^ k:Nat):Int):=by
 have h1:2 ^ k < 2 ^ 63:=Nat.pow_lt_pow_right (by omega) hk
 rw [Int.toNat_natCast,Nat.min_eq_left (by omega),Int.one_mul]
 have e:(2:Int) ^ k = ((2 ^ k:Nat):Int):=by rw [Int.natCast_pow]; rfl
 have h2:((2 ^ k:Nat):Int) < ((2 ^ 63:Nat):Int):=by exact_mod_cast h1
 have h3:(0:Int)≤((2 ^ k:Nat):Int):=Int.natCast_nonneg _
 have h4:((2 ^ 63:Nat):Int) = 9223372036854775808:=rfl
 rw [e]
 exact wid ⟨by omega,by omega⟩
end Go.Rx
