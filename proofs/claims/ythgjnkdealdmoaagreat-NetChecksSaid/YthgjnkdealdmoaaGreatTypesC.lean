/- The seat's environment: its types. -/
import Derived.Test.YthgjnkdealdmoaaGreatProg
import Derived.Test.YthgjnkdealdmoaaGreatChecked
import Derived.Test.YthgjnkdealdmoaaGreatWx8
import Derived.KernelRfl
namespace Go.Proofs.YthgjnkdealdmoaaGreat
open Go.Rx Go.RowKit
noncomputable section
def facts : List Fact1 := [(22, [], .bool true)]
def E : Env := Env.of Tryz.prog (memoOf facts) (binOf []) convOf
instance : TyOk E := env_tyok
theorem callable_get {f : FuncId} {fn : Func} (h : Tryz.prog.funcs[f]? = some fn) (hb : fn.body.isSome = true) (hn : (fn.name == "runtime.NumGoroutine") = false) : callable E f = true := callable_of h hb hn
theorem fn_get {f : FuncId} {fn : Func} (h : Tryz.prog.funcs[f]? = some fn) : E.fn.get f = some fn := env_fn h
theorem ty_get {t : TypeId} {i : TI} (h : Nat.blt t Tryz.prog.types.size = true) (hi : tiOf Tryz.prog t = some i) : E.ty t = some i := env_ty h hi
end
end Go.Proofs.YthgjnkdealdmoaaGreat
