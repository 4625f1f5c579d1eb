/- Contracts by what is to be shown of each step: a part of the engine. -/
import Derived.Test.YthgjnkdealdmoaaWx16
set_option linter.unusedVariables false
set_option linter.unusedSectionVars false
set_option linter.unusedSimpArgs false
namespace Go.Rx
open Go.RowKit

/-! Sets as numbers: operations on bits. -/

theorem wrap_nat {n:Nat} (h:n < 9223372036854775808):IntKind.wrap .i64 (n:Int) = n:=by
 have:=@wrapI_id (n:Int) ⟨by omega,by omega⟩
 unfold wrapI at this
 exact this
theorem ofInt_nat (n:Nat):BitVec.ofInt 64 (n:Int) = BitVec.ofNat 64 n:=BitVec.ofInt_natCast 64 n
theorem bits_and {a b:Nat} (ha:a < 9223372036854775808) (hb:b < 9223372036854775808):arBits .i64 .and a b = ((a &&& b:Nat):Int):=by
 have hlt:a &&& b < 2 ^ 63:=Nat.and_lt_two_pow _ (by omega)
 show IntKind.wrap .i64 (BitVec.toNat (BitVec.ofInt 64 (a:Int) &&& BitVec.ofInt 64 (b:Int))) = _
 rw [ofInt_nat,ofInt_nat,BitVec.toNat_and,BitVec.toNat_ofNat,BitVec.toNat_ofNat,Nat.mod_eq_of_lt (by omega),Nat.mod_eq_of_lt (by omega),wrap_nat (by omega)]
def less (a b:Nat):Nat:=a ^^^ (a &&& b)
theorem shl_one {k:Nat} (hk:k < 63):IsWrap .i64 (1 * 2 ^ (min (k:Int).toNat 64)) ((2 ^ k:Nat):Int):=by
 have h1:2 ^ k < 2 ^ 63:=Nat.pow_lt_pow_right (by omega) hk
 rw [Int.toNat_natCast,Nat.min_eq_left (by omega),Int.one_mul]
 have e:(2:Int) ^ k = ((2 ^ k:Nat):Int):=by rw [Int.natCast_pow]; rfl
 have h2:((2 ^ k:Nat):Int) < ((2 ^ 63:Nat):Int):=by exact_mod_cast h1
 have h3:(0:Int)≤((2 ^ k:Nat):Int):=Int.natCast_nonneg _
 have h4:((2 ^ 63:Nat):Int) = 9223372036854775808:=rfl
 rw [e]
 exact wid ⟨by omega,by omega⟩
theorem shr_nat {a k:Nat} (hk:k < 64):(a:Int).fdiv (2 ^ (min (k:Int).toNat 64)) = ((a >>> k:Nat):Int):=by
 rw [Int.toNat_natCast,Nat.min_eq_left (by omega)]
 have e:(2:Int) ^ k = ((2 ^ k:Nat):Int):=by rw [Int.natCast_pow]; rfl
 rw [e,Nat.shiftRight_eq_div_pow,Int.fdiv_eq_ediv_of_nonneg _ (Int.natCast_nonneg _)]
 rfl
theorem bit_has (s v:Nat):(s >>> v) &&& 1 = 1↔s.testBit v = true:=by
 unfold Nat.testBit
 rw [Nat.and_comm,bne_iff_ne]
 have:=Nat.and_le_left (n:=1) (m:=s >>> v)
 omega
theorem bit_mod (s v:Nat):(s >>> v) % 2 = 1↔s.testBit v = true:=by
 rw [← bit_has,Nat.and_one_is_mod]
end Go.Rx
