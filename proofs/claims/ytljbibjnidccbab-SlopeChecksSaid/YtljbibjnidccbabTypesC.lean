/- The seat's environment: its types. -/
import Derived.Test.YtljbibjnidccbabProg
import Derived.Test.YtljbibjnidccbabChecked
import Derived.Test.YtljbibjnidccbabWx8
import Derived.KernelRfl
namespace Go.Proofs.Ytljbibjnidccbab
open Go.Rx Go.RowKit
noncomputable section
def facts : List Fact1 := [(14, [], .bool true)]
def E : Env := Env.of Try.prog (memoOf facts) (binOf []) convOf
instance : TyOk E := env_tyok
theorem callable_get {f : FuncId} {fn : Func} (h : Try.prog.funcs[f]? = some fn) (hb : fn.body.isSome = true) (hn : (fn.name == "runtime.NumGoroutine") = false) : callable E f = true := callable_of h hb hn
theorem fn_get {f : FuncId} {fn : Func} (h : Try.prog.funcs[f]? = some fn) : E.fn.get f = some fn := env_fn h
theorem ty_get {t : TypeId} {i : TI} (h : Nat.blt t Try.prog.types.size = true) (hi : tiOf Try.prog t = some i) : E.ty t = some i := env_ty h hi
end
end Go.Proofs.Ytljbibjnidccbab
