/- The seat's environment: its types. -/
import Derived.Test.YtedneplaibmppaaProg
import Derived.Test.YtedneplaibmppaaChecked
import Derived.Test.YtedneplaibmppaaWx8
import Derived.KernelRfl
namespace Go.Proofs.Ytedneplaibmppaa
open Go.Rx Go.RowKit
noncomputable section
def facts : List Ng := []
def E : Env := Env.of Try.prog (Ba facts) (RG []) KT
instance : Aj E := WM
theorem aV {f : FuncId} {fn : Func} (h : Try.prog.funcs[f]? = some fn) (hb : fn.body.isSome = true) (hn : (fn.name == "runtime.NumGoroutine") = false) : callable E f = true := NU h hb hn
theorem cZ {f : FuncId} {fn : Func} (h : Try.prog.funcs[f]? = some fn) : E.fn.get f = some fn := WL h
theorem nZ {t : TypeId} {i : TI} (h : Nat.blt t Try.prog.types.size = true) (hi : kW Try.prog t = some i) : E.ty t = some i := aao h hi
end
end Go.Proofs.Ytedneplaibmppaa
