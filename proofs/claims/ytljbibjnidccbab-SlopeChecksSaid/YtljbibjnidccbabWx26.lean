/- Contracts by what is to be shown of each step: a part of the engine. -/
import Derived.Test.YtljbibjnidccbabWx25
set_option linter.unusedVariables false
set_option linter.unusedSectionVars false
set_option linter.unusedSimpArgs false
namespace Go.Rx
open Go.RowKit
noncomputable section

/-! Iterators that have memory of their own: what they have laid is left alone by the rounds. -/

theorem idxS_val' {n s r o cp:Nat} {sp:Option Nat} {j:Int} {h:Hp} (hs:voidSp sp = false) (hj:0≤j∧j < (n:Int)):hval h (idxSV s (.slice (some ⟨r,o,sp⟩) n cp) (int j)) = .val (ptr r (offAt o j.toNat s)) h:=by
 unfold idxSV
 dsimp only
 rw [hs]
 dsimp only
 rw [idxN_ok (n:=n) (j:=j) hj,offAt_eq]
 simp [hval,ptr]
theorem sameV_ptr (a b:Nat):sameV 4 (ptr a b) (ptr a b) = true:=by simp [sameV,ptr]
def KE (es:List Nat) (h h':Hp):Prop:=∀ d ∈ es,∀ o,h.at d = some o→h'.at d = some o
theorem KE.trans {es:List Nat} {h h1 h2:Hp} (k:KE es h h1) (k2:KE es h1 h2):KE es h h2:=fun d hd o e=>k2 d hd o (k d hd o e)
theorem KE.mono {es es':List Nat} {h h':Hp} (k:KE es h h') (s:∀ d ∈ es',d ∈ es):KE es' h h':=fun d hd o e=>k d (s d hd) o e
theorem KE.kx {es:List Nat} {v:Value} {h h':Hp} (x:Kx (ad v) h h') (a:∀ d ∈ es,ad v≠some d):KE es h h':=fun d hd o e=>x d o (a d hd) e
section
variable {E:Env} [TyOk E]
end
end
end Go.Rx
