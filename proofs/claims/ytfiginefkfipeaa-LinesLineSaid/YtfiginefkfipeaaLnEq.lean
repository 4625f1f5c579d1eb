/- Contracts of the functions that LnL comes to. -/
import Derived.Test.YtfiginefkfipeaaTypesC
/- '==' of arrays of two and of three integers. -/
set_option linter.unusedSectionVars false
set_option linter.unusedSimpArgs false
set_option linter.unusedVariables false
namespace Go.Rx
open Go.RowKit
theorem pr_bind {α β : Type} {P : Program} : ∀ (x : Sem α) (f : α → Sem β), pureRun P (x >>= f) = match pureRun P x with | some v => pureRun P (f v) | none => none := by
  intro x f
  show pureRun P (x.bind f) = _
  induction x with
  | pure a => rfl
  | program k ih => exact ih P
  | _ => rfl
theorem pr_pure {α : Type} {P : Program} (a : α) : pureRun P (pure a) = some a := rfl
theorem pr_underlying {P : Program} {t : TypeId} {D : TypeDesc} (hu : P.underlying t = some D) : pureRun P (underlying t) = some D := by
  have := pureRun_underlying hu (fun D => (pure D : Sem TypeDesc))
  rw [pr_bind] at this
  cases h : pureRun P (underlying t) with
  | none => rw [h] at this; cases this
  | some D' => rw [h] at this; cases this; rfl
end Go.Rx
namespace Go.Proofs.Ytfiginefkfipeaa
open Go.Rx Go.RowKit
set_option maxRecDepth 100000
set_option linter.unusedSimpArgs false
theorem eq_int (d : Nat) (a c : Int) : pureRun Try.prog (Op.equalIn (d + 1) 3 (int a) (int c)) = some (a == c) := by
  unfold Op.equalIn
  rw [pr_bind, pr_underlying Try.underlying3]
  rfl
theorem eq_array2 (a b c d : Int) : pureRun Try.prog (Op.equal 22 (.agg ⟨[int a, int b]⟩) (.agg ⟨[int c, int d]⟩)) = some (bif (a == c) then (b == d) else false) := by
  have p0 : ∀ x y : Int, pureRun Try.prog (part 3 ⟨[int x, int y]⟩ 0) = some (int x) := fun x y => by kernel_rfl
  have p1 : ∀ x y : Int, pureRun Try.prog (part 3 ⟨[int x, int y]⟩ 1) = some (int y) := fun x y => by kernel_rfl
  have hs : pureRun Try.prog (sizeOf 3) = some 1 := by kernel_rfl
  have e1 : ∀ x y : Int, pureRun Try.prog (Op.equalIn 9999 3 (int x) (int y)) = some (x == y) := eq_int 9998
  unfold Op.equal Op.maxDepth Op.equalIn
  rw [pr_bind, pr_underlying Try.underlying22]
  dsimp only
  rw [pr_bind, hs]
  dsimp only
  have hr : ∀ {β : Type} (i : β) (f : Nat → β → Sem (ForInStep β)), (forIn [0:2] i f : Sem β) = (forIn [0, 1] i f : Sem β) := by
    intro β i f
    rw [Std.Legacy.Range.forIn_eq_forIn_range']
    rfl
  rw [pr_bind, hr]
  simp only [Bool.false_eq_true, if_false, ne_eq, not_false_eq_true, if_true, pr_bind, pr_pure, p0, p1, e1, List.forIn_cons, List.forIn_nil, Nat.zero_mul, Nat.one_mul]
  generalize (a == c) = p
  cases p
  · simp only [Bool.not_false, Bool.not_true, if_true, Bool.false_eq_true, if_false, pr_pure, cond_false, cond_true]
  · simp only [Bool.not_false, Bool.not_true, if_true, Bool.false_eq_true, if_false, pr_pure, cond_false, cond_true, pr_bind, p1, e1]
    generalize (b == d) = q
    cases q <;> simp only [Bool.not_false, Bool.not_true, if_true, Bool.false_eq_true, if_false, pr_pure, cond_false, cond_true, pr_bind]
theorem pair_eq (x y : Operand) (a b c d : Int) : aBin E .eql 22 x y (.agg ⟨[int a, int b]⟩) (.agg ⟨[int c, int d]⟩) = some (.bool (bif (a == c) then (b == d) else false)) := by
  show binData E .eql 22 x y (.agg ⟨[int a, int b]⟩) (.agg ⟨[int c, int d]⟩) = _
  unfold binData
  have hg : pureRun E.prog (eqGuard .eql 22 x y (.agg ⟨[int a, int b]⟩) (.agg ⟨[int c, int d]⟩)) = some () := by kernel_rfl
  rw [pr_bind, hg]
  dsimp only
  have he : pureRun E.prog (Op.equal 22 (.agg ⟨[int a, int b]⟩) (.agg ⟨[int c, int d]⟩)) = some (bif (a == c) then (b == d) else false) := eq_array2 a b c d
  have hb : Go.binOp .eql 22 (.agg ⟨[int a, int b]⟩) (.agg ⟨[int c, int d]⟩) = (do let r ← Op.equal 22 (.agg ⟨[int a, int b]⟩) (.agg ⟨[int c, int d]⟩); pure (.bool r)) := rfl
  rw [hb, pr_bind, he]
  rfl
theorem eq_array3 (a b c d e f : Int) : pureRun Try.prog (Op.equal 23 (.agg ⟨[int a, int b, int c]⟩) (.agg ⟨[int d, int e, int f]⟩)) = some (bif (a == d) then (bif (b == e) then (c == f) else false) else false) := by
  have p0 : ∀ x y z : Int, pureRun Try.prog (part 3 ⟨[int x, int y, int z]⟩ 0) = some (int x) := fun x y z => by kernel_rfl
  have p1 : ∀ x y z : Int, pureRun Try.prog (part 3 ⟨[int x, int y, int z]⟩ 1) = some (int y) := fun x y z => by kernel_rfl
  have p2 : ∀ x y z : Int, pureRun Try.prog (part 3 ⟨[int x, int y, int z]⟩ 2) = some (int z) := fun x y z => by kernel_rfl
  have hs : pureRun Try.prog (sizeOf 3) = some 1 := by kernel_rfl
  have e1 : ∀ x y : Int, pureRun Try.prog (Op.equalIn 9999 3 (int x) (int y)) = some (x == y) := eq_int 9998
  unfold Op.equal Op.maxDepth Op.equalIn
  rw [pr_bind, pr_underlying Try.underlying23]
  dsimp only
  rw [pr_bind, hs]
  dsimp only
  have hr : ∀ {β : Type} (i : β) (f : Nat → β → Sem (ForInStep β)), (forIn [0:3] i f : Sem β) = (forIn [0, 1, 2] i f : Sem β) := by
    intro β i f
    rw [Std.Legacy.Range.forIn_eq_forIn_range']
    rfl
  rw [pr_bind, hr]
  simp only [Bool.false_eq_true, if_false, ne_eq, not_false_eq_true, if_true, pr_bind, pr_pure, p0, p1, p2, e1, List.forIn_cons, List.forIn_nil, Nat.zero_mul, Nat.one_mul]
  generalize (a == d) = p
  cases p
  · simp only [Bool.not_false, Bool.not_true, if_true, Bool.false_eq_true, if_false, pr_pure, cond_false, cond_true]
  · simp only [Bool.not_false, Bool.not_true, if_true, Bool.false_eq_true, if_false, pr_pure, cond_false, cond_true, pr_bind, p1, e1]
    generalize (b == e) = q
    cases q
    · simp only [Bool.not_false, Bool.not_true, if_true, Bool.false_eq_true, if_false, pr_pure, cond_false, cond_true, pr_bind]
    · simp only [Bool.not_false, Bool.not_true, if_true, Bool.false_eq_true, if_false, pr_pure, cond_false, cond_true, pr_bind, p2, e1]
      generalize (c == f) = r
      cases r <;> simp only [Bool.not_false, Bool.not_true, if_true, Bool.false_eq_true, if_false, pr_pure, cond_false, cond_true, pr_bind]
theorem tri_neq (x y : Operand) (a b c d e f : Int) : aBin E .neq 23 x y (.agg ⟨[int a, int b, int c]⟩) (.agg ⟨[int d, int e, int f]⟩) = some (.bool (!(bif (a == d) then (bif (b == e) then (c == f) else false) else false))) := by
  show binData E .neq 23 x y (.agg ⟨[int a, int b, int c]⟩) (.agg ⟨[int d, int e, int f]⟩) = _
  unfold binData
  have hg : pureRun E.prog (eqGuard .neq 23 x y (.agg ⟨[int a, int b, int c]⟩) (.agg ⟨[int d, int e, int f]⟩)) = some () := by kernel_rfl
  rw [pr_bind, hg]
  dsimp only
  have he : pureRun E.prog (Op.equal 23 (.agg ⟨[int a, int b, int c]⟩) (.agg ⟨[int d, int e, int f]⟩)) = some (bif (a == d) then (bif (b == e) then (c == f) else false) else false) := eq_array3 a b c d e f
  have hb : Go.binOp .neq 23 (.agg ⟨[int a, int b, int c]⟩) (.agg ⟨[int d, int e, int f]⟩) = (do let r ← Op.equal 23 (.agg ⟨[int a, int b, int c]⟩) (.agg ⟨[int d, int e, int f]⟩); pure (.bool !r)) := rfl
  rw [hb, pr_bind, he]
  rfl
theorem tri_same (x y : Operand) (a b c : Int) : aBin E .neq 23 x y (.agg ⟨[int a, int b, int c]⟩) (.agg ⟨[int a, int b, int c]⟩) = some (.bool false) := by
  rw [tri_neq]; simp
end Go.Proofs.Ytfiginefkfipeaa
