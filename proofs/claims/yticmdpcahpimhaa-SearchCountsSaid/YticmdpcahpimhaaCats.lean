/- SearchCounts: the numbers of plans for 0 to 30 gates, as a table. -/
import Derived.Test.YticmdpcahpimhaaProg
import Derived.Test.YticmdpcahpimhaaRx3
import Derived.KernelRfl
namespace Go.Proofs.Yticmdpcahpimhaa.searchCounts
open Go.Rx

noncomputable def E0 : Env := Env.of Try.prog (memoOf []) (binOf []) convOf
def cats : List Int := [1, 1, 2, 5, 14, 42, 132, 429, 1430, 4862, 16796, 58786, 208012, 742900, 2674440, 9694845, 35357670, 129644790, 477638700, 1767263190, 6564120420, 24466267020, 91482563640, 343059613650, 1289904147324, 4861946401452, 18367353072152, 69533550916004, 263747951750360, 1002242216651368, 3814986502092304]
noncomputable def cat (k : Nat) : Int := match lget cats k with
  | some c => c
  | none => 0
noncomputable def plans (k : Nat) : Value := .tuple #[.int .i64 (cat k), .int .i64 0]
end Go.Proofs.Yticmdpcahpimhaa.searchCounts
