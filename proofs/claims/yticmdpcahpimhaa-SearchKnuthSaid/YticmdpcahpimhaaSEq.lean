/- Contracts of the functions that SKnuthM comes to. -/
import Derived.Test.YticmdpcahpimhaaTypesC

set_option linter.unusedSectionVars false
set_option linter.unusedSimpArgs false
set_option linter.unusedVariables false
namespace Go.Rx
open Go.RowKit
theorem pr_bind {α β : Type} {P : Program} : ∀ (x : Sem α) (f : α → Sem β), pureRun P (x >>= f) = match pureRun P x with | some v => pureRun P (f v) | none => none := by
  intro x f
  show pureRun P (x.bind f) = _
  induction x with
  | pure a => rfl
  | program k ih => exact ih P
  | _ => rfl
theorem pr_pure {α : Type} {P : Program} (a : α) : pureRun P (pure a) = some a := rfl
theorem pr_underlying {P : Program} {t : TypeId} {D : TypeDesc} (hu : P.underlying t = some D) : pureRun P (underlying t) = some D := by
  have := pureRun_underlying hu (fun D => (pure D : Sem TypeDesc))
  rw [pr_bind] at this
  cases h : pureRun P (underlying t) with
  | none => rw [h] at this; cases this
  | some D' => rw [h] at this; cases this; rfl
end Go.Rx
namespace Go.Proofs.Yticmdpcahpimhaa
open Go.Rx Go.RowKit
set_option maxRecDepth 100000
set_option linter.unusedSimpArgs false
theorem eq_int (d : Nat) (a c : Int) : pureRun Try.prog (Op.equalIn (d + 1) 3 (int a) (int c)) = some (a == c) := by
  unfold Op.equalIn
  rw [pr_bind, pr_underlying Try.underlying3]
  rfl
theorem eq_struct (a b c d : Int) : pureRun Try.prog (Op.equal 115 (.agg ⟨[int a, int b]⟩) (.agg ⟨[int c, int d]⟩)) = some (bif (a == c) then (b == d) else false) := by
  have p0 : ∀ x y : Int, pureRun Try.prog (part 3 ⟨[int x, int y]⟩ 0) = some (int x) := fun x y => by kernel_rfl
  have p1 : ∀ x y : Int, pureRun Try.prog (part 3 ⟨[int x, int y]⟩ 1) = some (int y) := fun x y => by kernel_rfl
  have hs : Try.prog.stoodInHeld 115 = false := by kernel_rfl
  have e1 : ∀ x y : Int, pureRun Try.prog (Op.equalIn 9999 3 (int x) (int y)) = some (x == y) := eq_int 9998
  unfold Op.equal Op.maxDepth Op.equalIn
  rw [pr_bind, pr_underlying Try.underlying115]
  dsimp only
  rw [pr_bind, show pureRun Try.prog program = some Try.prog from rfl]
  dsimp only
  rw [hs]
  simp only [Bool.false_eq_true, if_false, ne_eq, String.reduceEq, not_false_eq_true, if_true, pr_bind, pr_pure, p0, p1, e1, List.forIn_toArray, List.forIn_cons, List.forIn_nil]
  generalize (a == c) = p
  cases p
  · simp only [Bool.not_false, Bool.not_true, if_true, Bool.false_eq_true, if_false, pr_pure, cond_false, cond_true]
  · simp only [Bool.not_false, Bool.not_true, if_true, Bool.false_eq_true, if_false, pr_pure, cond_false, cond_true, pr_bind, p1, e1]
    generalize (b == d) = q
    cases q <;> simp only [Bool.not_false, Bool.not_true, if_true, Bool.false_eq_true, if_false, pr_pure, cond_false, cond_true, pr_bind]
theorem part_eq (x y : Operand) (a b c d : Int) : aBin E .eql 115 x y (.agg ⟨[int a, int b]⟩) (.agg ⟨[int c, int d]⟩) = some (.bool (bif (a == c) then (b == d) else false)) := by
  show binData E .eql 115 x y (.agg ⟨[int a, int b]⟩) (.agg ⟨[int c, int d]⟩) = _
  unfold binData
  have hg : pureRun E.prog (eqGuard .eql 115 x y (.agg ⟨[int a, int b]⟩) (.agg ⟨[int c, int d]⟩)) = some () := by kernel_rfl
  rw [pr_bind, hg]
  dsimp only
  have he : pureRun E.prog (Op.equal 115 (.agg ⟨[int a, int b]⟩) (.agg ⟨[int c, int d]⟩)) = some (bif (a == c) then (b == d) else false) := eq_struct a b c d
  have hb : Go.binOp .eql 115 (.agg ⟨[int a, int b]⟩) (.agg ⟨[int c, int d]⟩) = (do let r ← Op.equal 115 (.agg ⟨[int a, int b]⟩) (.agg ⟨[int c, int d]⟩); pure (.bool r)) := rfl
  rw [hb, pr_bind, he]
  rfl
end Go.Proofs.Yticmdpcahpimhaa
