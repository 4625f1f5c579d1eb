/- The seat's environment: its types. -/
import Derived.Test.YtedneplaibmppaaProg
import Derived.Test.YtedneplaibmppaaChecked
import Derived.Test.YtedneplaibmppaaWx8
import Derived.KernelRfl
namespace Go.Proofs.Ytedneplaibmppaa
open Go.Rx Go.RowKit
noncomputable section
def facts : List NS := []
def E : Env := Env.of Try.prog (AZ facts) (Sy []) La
instance : Af E := XA
theorem aV {f : FuncId} {fn : Func} (h : Try.prog.funcs[f]? = some fn) (hb : fn.body.isSome = true) (hn : (fn.name == "runtime.NumGoroutine") = false) : callable E f = true := OA h hb hn
theorem bY {f : FuncId}{fn : Func}(h : Try.prog.funcs[f]? = some fn) : E.fn.get f = some fn := Xz h
theorem mP {t : TypeId}{i : TI}(h : Nat.blt t Try.prog.types.size = true)(hi : jL Try.prog t = some i) : E.ty t = some i := aaV h hi
end
end Go.Proofs.Ytedneplaibmppaa
