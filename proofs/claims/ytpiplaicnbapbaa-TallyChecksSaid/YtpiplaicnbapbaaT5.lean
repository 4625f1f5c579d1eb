/- Contracts of the functions that T27 comes to. -/
import Derived.Test.YtpiplaicnbapbaaT4
set_option maxRecDepth 100000
set_option maxHeartbeats 2000000
set_option linter.unusedVariables false
set_option linter.unusedSectionVars false
set_option linter.unusedSimpArgs false
namespace Go.Proofs.Ytpiplaicnbapbaa
open Go.Rx Go.RowKit
/-- A slice of rules that can be read. -/
def RI (h : Hp) (v : Value) (R : List Q4) : Prop := ∃ a c, v = .slice a R.length c ∧ ∀ j, (hj : j < R.length) → ∃ r o, a = some ⟨r, o, none⟩ ∧ cellsAt h r (j * 4 + o) 4 = some [int R[j].a, int R[j].b, int R[j].c, int R[j].d]
theorem RI.ext {h h' : Hp} {v : Value} {R : List Q4} (g : Grows h h') (k : RI h v R) : RI h' v R := by
  obtain ⟨a, c, e, hc⟩ := k
  exact ⟨a, c, e, fun j hj => let ⟨r, o, e1, e2⟩ := hc j hj; ⟨r, o, e1, g.cells e2⟩⟩
theorem RV.ri {h : Hp} {v : Value} {R : List Q4} (k : RV h v R) : RI h v R := by
  obtain ⟨a, e, hc⟩ := k.cells
  exact ⟨a, _, e, fun j hj => let ⟨r, e1, e2⟩ := hc j hj; ⟨r, 0, e1, e2⟩⟩
/-- A protocol of any data, as an argument. -/
def PI (h : Hp) (v : Value) (p : Prot) : Prop := ∃ vo vs vr, v = pval p.n vo vs vr ∧ Ints h vo p.out ∧ Ints h vs p.start ∧ RI h vr p.rules
def bareN (n : Nat) : Hp := ⟨n, fun _ => none⟩
theorem bareN_grows {n : Nat} {h : Hp} (hn : n ≤ h.next) : Grows (bareN n) h := ⟨hn, fun r o e => by
  unfold Hp.at bareN at e
  dsimp only at e
  split at e <;> cases e⟩
/-- What was in memory before stays, but one object. -/
structure PM (H0 H : Hp) (D : Nat) (cs : List Value) : Prop where
  next : H0.next ≤ H.next
  at_ : ∀ r o, r < H0.next → r ≠ D → H0.at r = some o → H.at r = some o
  dat : H.at D = some (.row 26 true cs)
theorem PM.start {H0 : Hp} {D : Nat} {cs : List Value} (h : H0.at D = some (.row 26 true cs)) : PM H0 H0 D cs := ⟨Nat.le_refl _, fun _ _ _ _ e => e, h⟩
theorem PM.ext {H0 H H' : Hp} {D : Nat} {cs : List Value} (k : PM H0 H D cs) (g : Grows H H') : PM H0 H' D cs := ⟨Nat.le_trans k.next g.next, fun r o h1 h2 e => g.at_ _ _ (k.at_ r o h1 h2 e), g.at_ _ _ k.dat⟩
theorem PM.grows {h H0 H : Hp} {D : Nat} {cs : List Value} (k : PM H0 H D cs) (g : Grows h H0) (hD : h.next ≤ D) : Grows h H := ⟨Nat.le_trans g.next k.next, fun r o e => by
  have := Hp.lt_of_at e
  have := g.next
  exact k.at_ r o (by omega) (by omega) (g.at_ _ _ e)⟩
theorem PM.app {H0 H H1 H2 : Hp} {D : Nat} {cs : List Value} {v : Value} (k : PM H0 H D cs) (hD : D < H0.next) (hg : Grows H H1) (keep : ∀ r o, H1.at r = some o → (∀ n c, v ≠ slc r 0 n c) → H2.at r = some o) (hv : ∀ r n c, v = slc r 0 n c → H0.next ≤ r) (hn : H0.next ≤ H2.next) (cs' : List Value) : PM H0 (H2.set D (.row 26 true cs')) D cs' := by
  have hk : ∀ r o, r < H0.next → H1.at r = some o → H2.at r = some o := fun r o hr e => keep r o e fun n c e2 => by have := hv r n c e2; omega
  refine ⟨by rw [Hp.next_set]; exact hn, fun r o h1 h2 e => ?_, ?_⟩
  · rw [Hp.at_set_ne _ h2]
    exact hk r o h1 (hg.at_ _ _ (k.at_ r o h1 h2 e))
  · exact Hp.at_set_self _ (Hp.lt_of_at (hk D _ hD (hg.at_ _ _ k.dat)))
theorem PM.app_dat {H0 H H1 H2 : Hp} {D : Nat} {cs : List Value} {v : Value} (k : PM H0 H D cs) (hD : D < H0.next) (hg : Grows H H1) (keep : ∀ r o, H1.at r = some o → (∀ n c, v ≠ slc r 0 n c) → H2.at r = some o) (hv : ∀ r n c, v = slc r 0 n c → H0.next ≤ r) : H2.at D = some (.row 26 true cs) := keep D _ (hg.at_ _ _ k.dat) fun n c e2 => by have := hv D n c e2; omega
theorem built_ge {N : Nat} {h : Hp} {e : TypeId} {v : Value} {l : List Int} (k : Built (bareN N) h e v l) : ∀ r n c, v = slc r 0 n c → N ≤ r := by
  intro r n c e1
  rcases k with ⟨rfl, _⟩ | ⟨r', rfl, h2, _⟩
  · cases e1
  · have : r' = r := by simp [slc] at e1; exact e1.1
    subst this
    exact h2
theorem builtC_ge {N : Nat} {h : Hp} {e : TypeId} {s m : Nat} {v : Value} {cs : List Value} (k : BuiltC (bareN N) h e s v m cs) : ∀ r n c, v = slc r 0 n c → N ≤ r := by
  intro r n c e1
  obtain ⟨_, k⟩ := k
  rcases k with ⟨rfl, _⟩ | ⟨r', rfl, h2, _⟩
  · cases e1
  · have : r' = r := by simp [slc] at e1; exact e1.1
    subst this
    exact h2
def tri (n : Nat) : Nat → Nat
  | 0 => 0
  | a + 1 => tri n a + (n - a)
theorem tri_le : ∀ n, n ≤ 5 → tri n n ≤ 15 := by decide
/-- The rules up to (a, b). -/
structure RUp (n a b : Nat) (R : List Q4) : Prop where
  ok : ∀ x ∈ R, QIn n x ∧ x.a ≤ x.b ∧ (x.a < a ∨ x.a = a ∧ x.b < b)
  sorted : R.Pairwise QLess
  len : R.length ≤ tri n a + (b - a)
theorem RUp.start (n : Nat) : RUp n 0 0 [] := ⟨fun x h => by simp at h, List.Pairwise.nil, Nat.zero_le _⟩
theorem RUp.skip {n a b : Nat} {R : List Q4} (h : RUp n a b R) (hab : a ≤ b) : RUp n a (b + 1) R := ⟨fun x hx => by have := h.ok x hx; exact ⟨this.1, this.2.1, by omega⟩, h.sorted, by have := h.len; omega⟩
theorem RUp.turn {n a : Nat} {R : List Q4} (h : RUp n a n R) (ha : a < n) : RUp n (a + 1) (a + 1) R := ⟨fun x hx => by
  have := h.ok x hx
  exact ⟨this.1, this.2.1, by omega⟩, h.sorted, by have := h.len; show R.length ≤ tri n a + (n - a) + _; omega⟩
theorem RUp.add {n a b : Nat} {R : List Q4} (h : RUp n a b R) (hab : a ≤ b) (hb : b < n) {c d : Int} (hc : 0 ≤ c ∧ c < n) (hd : 0 ≤ d ∧ d < n) : RUp n a (b + 1) (R ++ [⟨a, b, c, d⟩]) := by
  refine ⟨fun x hx => ?_, ?_, ?_⟩
  · rcases List.mem_append.1 hx with hx | hx
    · have := h.ok x hx; exact ⟨this.1, this.2.1, by omega⟩
    · rw [List.mem_singleton.1 hx]
      refine ⟨⟨?_, ?_, ?_, ?_⟩, ?_, ?_⟩ <;> dsimp only <;> omega
  · refine List.pairwise_append.2 ⟨h.sorted, List.pairwise_singleton _ _, fun x hx y hy => ?_⟩
    rw [List.mem_singleton.1 hy]
    have := (h.ok x hx).2.2
    unfold QLess
    dsimp only
    omega
  · have := h.len
    rw [List.length_append, List.length_singleton]
    omega
theorem RUp.done {n : Nat} {R : List Q4} (h : RUp n n n R) (hn : n ≤ 5) : R.length ≤ 15 ∧ ROk n R R.length := by
  have := h.len
  have := tri_le n hn
  refine ⟨by omega, fun k hk _ => ?_⟩
  have h1 := h.ok _ (List.getElem_mem hk)
  exact ⟨h1.1, h1.2.1, fun h0 => List.pairwise_iff_getElem.1 h.sorted (k - 1) k (by omega) hk (by omega)⟩
theorem min_eq3 (x y : Int) : Value.int IntKind.i64 (if y < x then y else x) = int (min x y) := congrArg (Value.int .i64) (by split <;> omega)
theorem max_eq3 (x y : Int) : Value.int IntKind.i64 (if y > x then y else x) = int (max x y) := congrArg (Value.int .i64) (by split <;> omega)
end Go.Proofs.Ytpiplaicnbapbaa
