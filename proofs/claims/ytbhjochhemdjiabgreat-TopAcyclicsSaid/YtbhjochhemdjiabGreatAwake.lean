/- What the layers must do whatever the input is, by the kernel's run; and the facts on long calls. -/
import Derived.Test.YtbhjochhemdjiabGreatProg
import Derived.Test.YtbhjochhemdjiabGreatRx3
import Derived.KernelRfl
namespace Go.Proofs.YtbhjochhemdjiabGreat.topAcyclics
open Go.Rx Go.RowKit

theorem answers11 : answers (Env.of Tryz.prog (memoOf []) (binOf []) convOf) 2000 11 [] (.bool true) = true := by kernel_rfl
def facts : List Fact1 := [(11, [], .bool true)]
def rows (k0 : Nat) : List Row := [(1, .rem, .int .u64 (.ofNat (7)), .int .u64 (.ofNat k0))]

def num (n : Int) : Value := .int .i64 n
def str (l : List UInt8) : Value := .string ⟨⟨l⟩⟩
def edges : List Value := [num 0, num 1, num 0, num 2, num 1, num 2]
def lines : List Value := [num 1, num 0, num 0, num 0, num 1, num 0, num 1, num 1, num 0]
def lent3 : Value := .slice (some ⟨0, 0, none⟩) 3 3
def mem5 : MemFact := ⟨5, [num 3, lent3], [edges], none, [num 6, num 0]⟩
def mem7 : MemFact := ⟨7, [lent3], [lines], some (9, [str [43, 43, 43], str [43, 45, 43], str [43, 45, 45], str [45, 43, 43], str [45, 43, 45], str [45, 45, 45]], 6, 6), [num 0]⟩
def mem8 : MemFact := ⟨8, [lent3], [lines], some (9, [str [], str [], str [], str [], str [], str []], 0, 6), [num 0]⟩
def mem9 : MemFact := ⟨9, [num 3, lent3], [edges], some (2, [num 0, num 2, num (-3), num 1], 4, 4), [num 0]⟩
def mem : List MemFact := [mem5, mem7, mem8, mem9]
noncomputable def runs (k0 : Nat) : Bool := answers (Env.of Tryz.prog (memoOf facts) (binOf (rows k0)) convOf (memFacts mem)) 2000 3 [unk 0] (.bool true)
end Go.Proofs.YtbhjochhemdjiabGreat.topAcyclics
