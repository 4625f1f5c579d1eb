/- Contracts by what is to be shown of each step: a part of the engine. -/
import Derived.Test.YtpiplaicnbapbaaWx16
import Derived.OpenShut
set_option maxRecDepth 100000
set_option linter.unusedVariables false
set_option linter.unusedSectionVars false
set_option linter.unusedSimpArgs false
namespace Go.Rx
open Go.RowKit Go.ChangeShapes

/-! What LinesLine wanted beside Wx1 to Wx17: raw operations, arrays and structs in memory, results of two parts, arrays by value. -/

/-- What a raw unary minus comes to, as 'whnf' leaves it. -/
theorem neg_eq {n : Int} (h1 : n.natAbs ≤ 9223372036854775807) : Value.int IntKind.i64 (IntKind.i64.wrap (0 - n)) = int (-n) := by
  have := @wrapI_id (-n) ⟨by omega, by omega⟩
  unfold wrapI at this
  rw [show (0 : Int) - n = -n by omega, this]
/-- What a raw max(n, -n) comes to. -/
theorem max_eq (n : Int) : Value.int IntKind.i64 (if -n > n then -n else n) = int (n.natAbs : Nat) := congrArg (Value.int .i64) (by split <;> omega)
theorem tmod_nat (a b : Nat) : (a : Int).tmod (b : Int) = ((a % b : Nat) : Int) := by
  rw [Int.tmod_eq_emod_of_nonneg (by omega)]; rfl
theorem tdiv_nat (a b : Nat) : (a : Int).tdiv (b : Int) = ((a / b : Nat) : Int) := by
  rw [Int.tdiv_eq_ediv_of_nonneg (by omega)]; rfl
theorem natAbs_tdiv_le {x : Int} {g m : Nat} (h : x.natAbs ≤ m) : (x.tdiv g).natAbs ≤ m := by
  rw [Int.natAbs_tdiv]
  exact Nat.le_trans (Nat.div_le_self _ _) h
theorem mul_bd {x y : Int} {m n k : Nat} (hx : x.natAbs ≤ m) (hy : y.natAbs ≤ n) (hk : m * n ≤ k) : (x * y).natAbs ≤ k := by
  rw [Int.natAbs_mul]
  exact Nat.le_trans (Nat.mul_le_mul hx hy) hk
/-- A whole array or struct in memory is stored, wherever it lies. -/
theorem storeAt_full {h : Hp} {r : Nat} {e : TypeId} {x : Bool} {cs vs : List Value} (hr : h.at r = some (.row e x cs)) (hl : vs.length = cs.length) (h1 : vs.all oneCell = true) (ho : over cs 0 vs = vs) : storeAt h r 0 vs = some (h.set r (.row e x vs)) := by
  unfold storeAt
  rw [hr]
  dsimp only
  rw [if_pos ⟨by omega, h1⟩, ho]
/-- A result in memory, and one beside it. -/
theorem leave_cell2 {E : Env} {φ : Frame} {h : Hp} {a b : Nat} {t : TypeId} {r o : Nat} {i : TI} {cs : List Value} {w : Value} {Q : Value → Hp → Prop} (hφ : φ a = ptr r o) (hb : φ b = w) (hw : isUndef w = false) (ht : E.ty t = some i) (ha : i.agg = true) (hc : cellsAt h r o i.size = some cs) (hq : Q (.tuple ⟨[.agg ⟨cs⟩, w]⟩) h) : finP E [.cell a t, .tmp b] ⟨φ, h, []⟩ Q := by
  have e1 : resultφ E φ h (.cell a t) = some (.agg ⟨cs⟩) := by
    unfold resultφ
    dsimp only
    rw [hφ]
    dsimp only [ptr]
    unfold hload
    rw [ht]
    dsimp only
    unfold hloadTI
    rw [ha]
    dsimp only
    rw [hc]
    rfl
  have e2 : resultφ E φ h (.tmp b) = some w := by
    unfold resultφ
    dsimp only
    rw [hb, hw]
  have e : resultsφ E φ h [.cell a t, .tmp b] = some [.agg ⟨cs⟩, w] := by
    simp only [resultsφ, e1, e2]
  unfold finP
  dsimp only
  rw [show takeMarksφ [] h = some h from rfl]
  dsimp only
  rw [e]
  exact hq
/-- A slice cut of an array in memory. -/
theorem ints_spot {h : Hp} {r : Nat} {e : TypeId} {x : Bool} {l : List Int} {cs : List Value} {c : Nat} (hr : h.at r = some (.row e x cs)) (hl : ∀ k, (hk : k < l.length) → cs[k]? = some (int l[k])) : Ints h (.slice (some ⟨r, 0, some 1⟩) l.length c) l :=
  ⟨_, _, rfl, fun k hk => ⟨r, 0, some 1, rfl, rfl, cellAt_row hr (hl k hk)⟩⟩
theorem ints_array {h : Hp} {r : Nat} {e : TypeId} {x : Bool} {l : List Int} {c : Nat} (hr : h.at r = some (.row e x (l.map int))) : Ints h (.slice (some ⟨r, 0, some 1⟩) l.length c) l :=
  ints_spot hr fun k hk => by rw [List.getElem?_map, List.getElem?_eq_getElem hk]; rfl
/-- Drawn regions: what a quotient is, and arrays that are the same. -/
theorem quo_val {x y r : Int} {h : Hp} (hy : y ≠ 0) (e : x.tdiv y = r) (b : -9223372036854775808 ≤ r ∧ r < 9223372036854775808) : hval h (arK .i64 .quo x y) = .val (int r) h := by
  unfold arK
  dsimp only
  rw [if_neg hy, e, wrapI_id b]
  rfl
theorem sameV_agg (l : List Int) : sameV 4 (.agg ⟨l.map int⟩) (.agg ⟨l.map int⟩) = true := by
  have q : ∀ n : Int, eqI n n = true := fun n => by unfold eqI; cases n <;> simp
  have hz : ∀ l : List Int, ((l.map int).zip (l.map int)).all (fun p => sameV 3 p.1 p.2) = true := by
    intro l
    induction l with
    | nil => rfl
    | cons x l ih => simp only [List.map_cons, List.zip_cons_cons, List.all_cons, ih, Bool.and_true]; exact q x
  show (Nat.beq _ _ && _) = true
  rw [Bool.and_eq_true]
  exact ⟨by simp, hz l⟩
/-- An address in an array that is drawn. -/
theorem idxA_val {n r j : Nat} {h : Hp} (hj : j < n) : hval h (idxAV n 1 (ptr r 0) (int j)) = .val (ptr r j) h := by
  unfold idxAV
  dsimp only [ptr]
  rw [idxN_ok (n := n) (j := (j : Int)) ⟨by omega, by omega⟩]
  simp [hval, ptr]
/-- An array of integers by value, as the caller gives it. -/
theorem array_of_trod {H : Type} {enc : TypeId × Value → H} {P : Program} {W : World} {t u : TypeId} {n base : Nat} {sp : Nat → Bool} {hd : Bool} {v : Value} {d : DataW H} {p : List MemPlace} (ht : P.underlying t = some (.array n u)) (hu : P.underlying u = some (.int .i64)) (hcu : P.cellsOf u = 1) (hct : P.cellsOf t = n) (hn : 2 ≤ n)
    (h0 : DataW.Trod enc P W base sp hd t v d p) : ∃ l : List Int, v = .agg ⟨l.map int⟩ ∧ l.length = n := by
  obtain ⟨fuel, hf⟩ := h0
  obtain ⟨xs, m, -, -, hcl, hxl, hx⟩ := DataW.trod_array ht hf
  rw [hct] at hcl
  have each : ∀ k, (hk : k < v.cells.toList.length) → ∃ z : Int, v.cells.toList[k] = int z := by
    intro k hk
    have h1 := hx k (by omega)
    rw [hcu, List.getElem?_eq_getElem (by omega), Nat.mul_one] at h1
    obtain ⟨z, hz, -⟩ := DataW.trod_int hu h1
    rw [List.drop_eq_getElem_cons hk, List.take_succ_cons, List.take_zero] at hz
    injection hz with h6 h7
    exact ⟨z, h6⟩
  have all : ∀ cs : List Value, (∀ k, (hk : k < cs.length) → ∃ z : Int, cs[k] = int z) → ∃ l : List Int, cs = l.map int := by
    intro cs
    induction cs with
    | nil => intro _; exact ⟨[], rfl⟩
    | cons c cs ih =>
      intro h
      obtain ⟨z, hz⟩ := h 0 (by simp)
      obtain ⟨l, hl⟩ := ih fun k hk => h (k + 1) (by simp; omega)
      exact ⟨z :: l, by rw [List.map_cons, ← hl]; simp at hz; rw [hz]⟩
  obtain ⟨l, hl⟩ := all _ each
  refine ⟨l, ?_, by rw [← hcl, hl, List.length_map]⟩
  cases v with
  | agg cs =>
    have : cs.toList = l.map int := hl
    rw [← this]
  | _ => simp [Value.cells] at hcl; omega
end Go.Rx
