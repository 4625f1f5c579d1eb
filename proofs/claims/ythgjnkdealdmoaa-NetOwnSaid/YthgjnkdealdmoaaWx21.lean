/- Contracts by what is to be shown of each step: a part of the engine. -/
import Derived.Test.YthgjnkdealdmoaaWx20
set_option linter.unusedVariables false
set_option linter.unusedSectionVars false
set_option linter.unusedSimpArgs false
namespace Go.Rx
open Go.RowKit
noncomputable section

/-! Maps whose keys are data of one kind; raw operations by name. -/

section
variable {κ:Type} [DecidableEq κ] {enc:κ→Value}
abbrev Ent (κ:Type):=κ×Value×Nat
def entV (enc:κ→Value) (e:Ent κ):Entry:=(enc e.1,e.2.1,e.2.2)
def lookK (es:List (Ent κ)) (k:κ):Option Value:=(es.find? fun e=>decide (k = e.1)).map (·.2.1)
def MapAt (h:Hp) (r:Nat) (enc:κ→Value) (f:κ→Option Value) (n:Nat):Prop :=
 ∃ (es:List (Ent κ)) (c:Nat),h.at r = some (.map (es.map (entV enc)) c)∧(∀ k,lookK es k = f k)∧es.length = n
theorem MapAt.ext {h h':Hp} {r:Nat} {f:κ→Option Value} {n:Nat} (g:Grows h h') (m:MapAt h r enc f n):MapAt h' r enc f n:=by
 obtain ⟨es,c,h1,h2,h3⟩:=m
 exact ⟨es,c,g.at_ _ _ h1,h2,h3⟩
theorem MapAt.congr {h:Hp} {r:Nat} {f g:κ→Option Value} {n:Nat} (m:MapAt h r enc f n) (e:∀ k,f k = g k):MapAt h r enc g n:=by
 obtain ⟨es,c,h1,h2,h3⟩:=m
 exact ⟨es,c,h1,fun k=>(h2 k).trans (e k),h3⟩
variable {E:Env}
end

theorem eqI_iff (m n:Int):eqI m n = decide (m = n):=by
 unfold eqI
 have q:∀ a b:Nat,Nat.beq a b = decide (a = b):=by
  intro a b
  by_cases h:a = b
  ·subst h; simp
  ·rw [decide_eq_false h]
   cases e:Nat.beq a b with
   | false=>rfl
   | true=>exact absurd (Nat.eq_of_beq_eq_true e) h
 cases m <;> cases n <;> dsimp only
 ·rw [q]; congr 1; exact propext ⟨fun h=>by subst h; rfl,fun h=>by injection h⟩
 ·simp
 ·simp
 ·rw [q]; congr 1; exact propext ⟨fun h=>by subst h; rfl,fun h=>by injection h⟩
/-! Raw operations. -/
variable {E:Env}
end
end Go.Rx
