/- Contracts of the functions that SKnuthM comes to. -/
import Derived.Test.YticmdpcahpimhaaCodeSKnuthM
import Derived.Test.YticmdpcahpimhaaWx24
import Derived.Test.YticmdpcahpimhaaSIsPlan
import Derived.Test.YticmdpcahpimhaaSIs
set_option maxRecDepth 100000
set_option maxHeartbeats 1000000
set_option linter.unusedVariables false
set_option linter.unusedSectionVars false
set_option linter.unusedSimpArgs false
namespace Go.Proofs.Yticmdpcahpimhaa
open Go.Rx Go.RowKit
theorem ty85 : ∃ i, E.ty 85 = some i ∧ i.agg = true ∧ i.size = 2 := by
  have hs : (tiOf Try.prog 85).isSome = true := by kernel_rfl
  refine ⟨(tiOf Try.prog 85).get hs, ty_get (by kernel_rfl) (Option.some_get hs).symm, ?_, ?_⟩
  · kernel_rfl
  · kernel_rfl
theorem sameV_pair (x y : Int) : sameV 4 (.agg ⟨[int x, int y]⟩) (.agg ⟨[int x, int y]⟩) = true := by
  have q : ∀ n : Int, eqI n n = true := fun n => by unfold eqI; cases n <;> simp
  simp [sameV, sameL, q]
/-- The price of a choice, as a function. -/
def priceF : Value := .func (.func 88) ⟨[]⟩ ⟨[]⟩
def pairV (x : Int × Int) : Value := .agg ⟨[int x.1, int x.2]⟩
def betterOf (x y : Int × Int) : Int × Int := if y.1 < x.1 then y else x
attribute [local irreducible] E idxN cellAt cellsAt storeAt callable helems hmoved lookIn findKey keyOk hentries Hp.at Hp.set Hp.lay arBits hupdated setAt CallP YieldP BoolOf IsWrap Rnd LoopP AppP CutP Int.tmod Int.tdiv Int.fdiv
section
variable [Unknowns]
attribute [local irreducible] SeqP ResP sameAt finP
theorem fin_pair {φ : Rx.Frame} {H : Hp} {c6 : Nat} {x : Bool} {p : Int × Int} {Q : Value → Hp → Prop} (hφ : φ 6 = ptr c6 0) (hat : H.at c6 = some (.row 85 x [int p.1, int p.2])) (q : Q (pairV p) H) : finP E [.cell 6 85] ⟨φ, H, []⟩ Q := by
  obtain ⟨i, hi, hag, hsz⟩ := ty85
  refine leave_cell hφ hi hag ?_ q
  rw [hsz, cellsAt_row hat (by simp)]
  rfl
theorem price_spec (a b : Int) (h : Hp) : CallP E 88 [.agg ⟨[int a, int b]⟩] h (fun r h' => r = int a ∧ Grows h h') := by
  refine enter88 (by simp) ?_
  conv => whnf
  repeat (refine SeqP.go ?_; conv => whnf)
  refine ⟨int a, cellAt_row (Hp.at_lay_self _ _) rfl, ?_⟩
  conv => whnf
  repeat (refine SeqP.go ?_; conv => whnf)
  exact finP_one rfl rfl ⟨rfl, Grows.lay _ _⟩
theorem better_spec (x y : Int × Int) (h : Hp) : CallP E 87 [pairV x, pairV y, priceF] h (fun r h' => r = pairV (betterOf x y) ∧ Grows h h') := by
  obtain ⟨a, b⟩ := x
  obtain ⟨c, d⟩ := y
  have e3 : (((h.lay (.row 85 true [int a, int b])).lay (.row 85 true [int c, int d])).lay (.row 85 true [int 0, int 0])).at h.next = some (.row 85 true [int a, int b]) := Hp.at_lay_old _ (Hp.at_lay_old _ (Hp.at_lay_self _ _))
  have e4 : (((h.lay (.row 85 true [int a, int b])).lay (.row 85 true [int c, int d])).lay (.row 85 true [int 0, int 0])).at (h.lay (.row 85 true [int a, int b])).next = some (.row 85 true [int c, int d]) := Hp.at_lay_old _ (Hp.at_lay_self _ _)
  have e6 : (((h.lay (.row 85 true [int a, int b])).lay (.row 85 true [int c, int d])).lay (.row 85 true [int 0, int 0])).at ((h.lay (.row 85 true [int a, int b])).lay (.row 85 true [int c, int d])).next = some (.row 85 true [int 0, int 0]) := Hp.at_lay_self _ _
  have g0 : Grows h (((h.lay (.row 85 true [int a, int b])).lay (.row 85 true [int c, int d])).lay (.row 85 true [int 0, int 0])) := ((Grows.lay _ _).then_lay _).then_lay _
  have two : ∀ (H : Hp) (r : Nat) (p q : Int), H.at r = some (.row 85 true [int p, int q]) → cellsAt H r 0 2 = some [int p, int q] := fun H r p q hr => by rw [cellsAt_row hr (by simp)]; rfl
  unfold pairV priceF
  refine enter87 (by simp) ?_
  conv => whnf
  refine SeqP.go ?_
  conv => whnf
  refine SeqP.go ?_
  conv => whnf
  refine SeqP.go ?_
  conv => whnf
  refine ⟨[int c, int d], two _ _ _ _ e4, ?_⟩
  conv => whnf
  refine ⟨can88, ?_⟩
  refine CallP.mono (price_spec c d _) ?_
  rintro r h1 ⟨rfl, g1⟩
  conv => whnf
  refine ⟨[int a, int b], two _ _ _ _ (g1.at_ _ _ e3), ?_⟩
  conv => whnf
  refine ⟨can88, ?_⟩
  refine CallP.mono (price_spec a b _) ?_
  rintro r h2 ⟨rfl, g2⟩
  have g12 := g1.trans g2
  have okl : ∀ (H : Hp) (r : Nat) (p q : Int), H.at r = some (.row 85 true [int p, int q]) → hval H (aggOf (cellsAt H r 0 2)) = .val (.agg ⟨[int p, int q]⟩) H := fun H r p q hr => by rw [two H r p q hr]; rfl
  conv => whnf
  refine cmpB (fun hb => ?_) (fun hb => ?_)
  · conv => whnf
    refine ⟨?_, ?_⟩
    · repeat' (first | exact True.intro | (refine And.intro ?_ ?_ <;> (conv => whnf)))
      all_goals first
        | exact sameAt_val (h2 := _) rfl (sameV_int _)
        | exact sameAt_val (h2 := _) rfl (show sameV 4 priceF priceF = true by decide)
        | exact sameAt_val (h2 := h1) (okl h1 _ _ _ (g1.at_ _ _ e3)) (sameV_pair _ _)
        | exact sameAt_val (h2 := h1) (okl h1 _ _ _ (g1.at_ _ _ e4)) (sameV_pair _ _)
        | exact sameAt_val (h2 := _) (okl _ _ _ _ e3) (sameV_pair _ _)
        | exact sameAt_val (h2 := _) (okl _ _ _ _ e4) (sameV_pair _ _)
        | exact sameAt_val (h2 := h2) (okl h2 _ _ _ (g12.at_ _ _ e3)) (sameV_pair _ _)
        | exact sameAt_val (h2 := h2) (okl h2 _ _ _ (g12.at_ _ _ e4)) (sameV_pair _ _)
    conv => whnf
    refine SeqP.go ?_
    conv => whnf
    refine ⟨[int c, int d], two _ _ _ _ (g12.at_ _ _ e4), ?_⟩
    conv => whnf
    refine ⟨rfl, _, storeAt_full (vs := [int c, int d]) (g12.at_ _ _ e6) rfl rfl rfl, ?_⟩
    conv => whnf
    refine fin_pair (p := (c, d)) rfl (Hp.at_set_self _ (Hp.lt_of_at (g12.at_ _ _ e6))) ⟨?_, (g0.trans g12).then_set _ (by simp only [Hp.next_lay]; omega)⟩
    unfold betterOf
    rw [if_pos hb]
    rfl
  · conv => whnf
    refine ⟨?_, ?_⟩
    · repeat' (first | exact True.intro | (refine And.intro ?_ ?_ <;> (conv => whnf)))
      all_goals first
        | exact sameAt_val (h2 := _) rfl (sameV_int _)
        | exact sameAt_val (h2 := _) rfl (show sameV 4 priceF priceF = true by decide)
        | exact sameAt_val (h2 := h1) (okl h1 _ _ _ (g1.at_ _ _ e3)) (sameV_pair _ _)
        | exact sameAt_val (h2 := h1) (okl h1 _ _ _ (g1.at_ _ _ e4)) (sameV_pair _ _)
        | exact sameAt_val (h2 := _) (okl _ _ _ _ e3) (sameV_pair _ _)
        | exact sameAt_val (h2 := _) (okl _ _ _ _ e4) (sameV_pair _ _)
        | exact sameAt_val (h2 := h2) (okl h2 _ _ _ (g12.at_ _ _ e3)) (sameV_pair _ _)
        | exact sameAt_val (h2 := h2) (okl h2 _ _ _ (g12.at_ _ _ e4)) (sameV_pair _ _)
    conv => whnf
    refine SeqP.go ?_
    conv => whnf
    refine ⟨[int a, int b], two _ _ _ _ (g12.at_ _ _ e3), ?_⟩
    conv => whnf
    refine ⟨rfl, _, storeAt_full (vs := [int a, int b]) (g12.at_ _ _ e6) rfl rfl rfl, ?_⟩
    conv => whnf
    refine fin_pair (p := (a, b)) rfl (Hp.at_set_self _ (Hp.lt_of_at (g12.at_ _ _ e6))) ⟨?_, (g0.trans g12).then_set _ (by simp only [Hp.next_lay]; omega)⟩
    unfold betterOf
    rw [if_neg hb]
    rfl
theorem gates_spec (a b : Int) (h : Hp) : CallP E 92 [.agg ⟨[int a, int b]⟩] h (fun r h' => r = .func (.func 95) ⟨[]⟩ ⟨[ptr h.next 0]⟩ ∧ h' = h.lay (.row 115 true [int a, int b])) := by
  refine enter92 (by simp) ?_
  conv => whnf
  repeat (refine SeqP.go ?_; conv => whnf)
  exact finP_one rfl rfl ⟨rfl, rfl⟩
end
section
variable [Unknowns]
attribute [local irreducible] SeqP ResP sameAt
/-- The gates between, one after another. -/
def gv (g : Nat) : List Value := [int g]
theorem gates_iter (a b : Nat) (hb : b ≤ 1000000) (hab : a ≤ b) (c l : Nat) (I : Nat → Hp → Prop) (S : Hp → Prop) (h : Hp) (hJ : ∀ k h, I k h → h.at c = some (.row 115 true [int a, int b])) (h0 : I 0 h) (hit : IterP E l ((List.range' a (b - a)).map gv) I S) : CallP E 95 [yieldVal l, ptr c 0] h (fun _ h' => I ((List.range' a (b - a)).map gv).length h' ∨ S h') := by
  have hlen : ((List.range' a (b - a)).map gv).length = b - a := by simp
  rw [hlen]
  have yld : ∀ (k : Nat) (h : Hp), k < b - a → I k h → YieldP E l [int (a + k : Nat)] h fun v h' => (v = .bool true ∧ I (k + 1) h') ∨ (v = .bool false ∧ S h') := by
    intro k h hk hI
    have := hit k (by rw [hlen]; exact hk) h hI
    rw [List.getElem_map, List.getElem_range', Nat.one_mul] at this
    exact this
  refine enter95 (by simp) ?_
  conv => whnf
  refine SeqP.go ?_
  conv => whnf
  refine ⟨int a, cellAt_row (hJ 0 h h0) rfl, ?_⟩
  conv => whnf
  refine loop_inv (α := Nat × Hp) (fun s => [(3, int (a + s.1 : Nat)), (0, yieldVal l), (1, ptr c 0)]) (fun s => s.2) (fun s => s.1 ≤ b - a ∧ I s.1 s.2) (fun s => b - a - s.1) (0, h) ⟨Nat.zero_le _, h0⟩ ⟨rfl, rfl, rfl, trivial⟩ (Hp.Le.refl _) ?_
  rintro ⟨k, h1⟩ φ ⟨hk, hI⟩
  dsimp only at hk hI ⊢
  conv => whnf
  repeat (refine SeqP.go ?_; conv => whnf)
  refine ⟨int b, cellAt_row (hJ k h1 hI) rfl, ?_⟩
  conv => whnf
  refine cmpB (fun hb1 => ?_) (fun hb1 => ?_)
  rotate_left
  · have hkb : k = b - a := by omega
    conv => whnf
    repeat (refine SeqP.go ?_; conv => whnf)
    exact .inl (by rw [← hkb]; exact hI)
  conv => whnf
  repeat (refine SeqP.go ?_; conv => whnf)
  refine YieldP.mono (yld k h1 (by omega) hI) ?_
  rintro v h2 (⟨rfl, hI2⟩ | ⟨rfl, hS⟩)
  · conv => whnf
    refine ⟨((a + (k + 1) : Nat) : Int), wie (by omega) (by omega), ?_⟩
    conv => whnf
    exact Rnd.mk (k + 1, h2) ⟨by show k + 1 ≤ b - a; omega, hI2⟩ (by show b - a - (k + 1) < b - a - k; omega) ⟨rfl, rfl, rfl, trivial⟩ (Hp.Le.refl _) rfl
  · conv => whnf
    exact .inr hS
end
end Go.Proofs.Yticmdpcahpimhaa
namespace Go.Proofs.Yticmdpcahpimhaa
open Go.Rx Go.RowKit
/-- A table: for each part the best choice. -/
abbrev Tab := Nat → Nat → Int × Int
def tabF (T : Tab) (c : Nat) : Int := if c % 2 = 0 then (T (c / 26) (c % 26 / 2)).1 else (T (c / 26) (c % 26 / 2)).2
def tabV (T : Tab) : List Value := rowF 338 (tabF T)
def updT (T : Tab) (a b : Nat) (x : Int × Int) : Tab := fun i j => if i = a ∧ j = b then x else T i j
theorem tabV_len (T : Tab) : (tabV T).length = 338 := rowF_length _ _
theorem tabV_one (T : Tab) : (tabV T).all oneCell = true := by
  unfold tabV rowF
  rw [List.all_eq_true]
  intro v hv
  obtain ⟨k, _, rfl⟩ := List.mem_map.1 hv
  rfl
theorem tab_cost (T : Tab) {a b : Nat} (ha : a < 13) (hb : b < 13) : (tabV T)[b * 2 + a * 26]? = some (int (T a b).1) := by
  unfold tabV
  rw [rowF_get (by omega)]
  unfold tabF
  rw [if_pos (by omega), show (b * 2 + a * 26) / 26 = a by omega, show (b * 2 + a * 26) % 26 / 2 = b by omega]
theorem tab_at (T : Tab) {a b : Nat} (ha : a < 13) (hb : b < 13) : (tabV T)[b * 2 + a * 26 + 1]? = some (int (T a b).2) := by
  unfold tabV
  rw [rowF_get (by omega)]
  unfold tabF
  rw [if_neg (by omega), show (b * 2 + a * 26 + 1) / 26 = a by omega, show (b * 2 + a * 26 + 1) % 26 / 2 = b by omega]
theorem tab_over (T : Tab) {a b : Nat} (ha : a < 13) (hb : b < 13) (x : Int × Int) : over (tabV T) (b * 2 + a * 26) [int x.1, int x.2] = tabV (updT T a b x) := by
  show ((tabV T).set (b * 2 + a * 26) (int x.1)).set (b * 2 + a * 26 + 1) (int x.2) = _
  unfold tabV
  rw [rowF_set, rowF_set]
  refine rowF_congr fun c hc => ?_
  unfold tabF updT
  by_cases h1 : c = b * 2 + a * 26 + 1
  · rw [if_pos h1, if_neg (by omega), if_pos ⟨by omega, by omega⟩]
  · rw [if_neg h1]
    by_cases h2 : c = b * 2 + a * 26
    · rw [if_pos h2, if_pos (by omega), if_pos ⟨by omega, by omega⟩]
    · rw [if_neg h2]
      by_cases h3 : c % 2 = 0
      · rw [if_pos h3, if_pos h3, if_neg (by omega)]
      · rw [if_neg h3, if_neg h3, if_neg (by omega)]
/-- The best of some candidates, as far as they have been looked at. -/
def BestUp (cand : Nat → Int) (a k : Nat) (x : Int × Int) : Prop := (k = 0 ∧ x = (0, -1)) ∨ (0 < k ∧ ∃ g : Nat, a ≤ g ∧ g < a + k ∧ x = (cand g, (g : Int)) ∧ ∀ j, a ≤ j → j < a + k → cand g ≤ cand j ∧ (j < g → cand g < cand j))
theorem BestUp.zero (cand : Nat → Int) (a : Nat) : BestUp cand a 0 (0, -1) := .inl ⟨rfl, rfl⟩
theorem BestUp.succ {cand : Nat → Int} {a k : Nat} {x : Int × Int} (h : BestUp cand a k x) : BestUp cand a (k + 1) (betterOf (if x.2 < 0 then (cand (a + k), ((a + k : Nat) : Int)) else x) (cand (a + k), ((a + k : Nat) : Int))) := by
  right
  refine ⟨by omega, ?_⟩
  rcases h with ⟨rfl, rfl⟩ | ⟨hk, g, h1, h2, rfl, h3⟩
  · refine ⟨a, by omega, by omega, ?_, fun j hj1 hj2 => ?_⟩
    · rw [if_pos (show ((0 : Int), (-1 : Int)).2 < 0 by decide)]
      unfold betterOf
      dsimp only
      rw [if_neg (by omega)]
      rfl
    · have : j = a := by omega
      subst this
      exact ⟨Int.le_refl _, fun h => by omega⟩
  · rw [if_neg (by show ¬ ((g : Int) < 0); omega)]
    unfold betterOf
    dsimp only
    by_cases hc : cand (a + k) < cand g
    · rw [if_pos hc]
      refine ⟨a + k, by omega, by omega, rfl, fun j hj1 hj2 => ?_⟩
      by_cases hjk : j = a + k
      · subst hjk; exact ⟨Int.le_refl _, fun h => by omega⟩
      · have := h3 j hj1 (by omega)
        exact ⟨by omega, fun _ => by omega⟩
    · rw [if_neg hc]
      refine ⟨g, h1, by omega, rfl, fun j hj1 hj2 => ?_⟩
      by_cases hjk : j = a + k
      · subst hjk; exact ⟨by omega, fun h => by omega⟩
      · exact h3 j hj1 (by omega)
theorem BestUp.at_nonneg {cand : Nat → Int} {a k : Nat} {x : Int × Int} (h : BestUp cand a k x) (hk : 0 < k) : ∃ g : Nat, a ≤ g ∧ g < a + k ∧ x = (cand g, (g : Int)) := by
  rcases h with ⟨h0, _⟩ | ⟨_, g, h1, h2, h3, _⟩
  · omega
  · exact ⟨g, h1, h2, h3⟩
def K : Int := 13000000
abbrev CostF := Nat → Nat → Nat → Int → Int → Int
/-- What lies at a part of the table. -/
def candT (C : CostF) (T : Tab) (a b g : Nat) : Int := C a b g (T a g).1 (T (g + 1) b).1
def Good (C : CostF) (T : Tab) (a b : Nat) : Prop := BestUp (candT C T a b) a (b - a) (T a b) ∧ 0 ≤ (T a b).1 ∧ (T a b).1 ≤ K * ((b - a : Nat) : Int)
/-- What a cost function must be: as a function that can be called. -/
def Bd (m : Nat) (x : Int) : Prop := 0 ≤ x ∧ x ≤ K * (m : Int)
structure CostOk [Unknowns] (h0 : Hp) (gf : FuncId) (caps : List Value) (C : CostF) (n : Nat) : Prop where
  can : callable E gf = true
  bd : ∀ a b g x y, a ≤ g → g < b → b ≤ n → Bd (g - a) x → Bd (b - (g + 1)) y → Bd (b - a) (C a b g x y)
  call : ∀ h', Grows h0 h' → ∀ (a b g : Nat) x y, a ≤ g → g < b → b ≤ n → Bd (g - a) x → Bd (b - (g + 1)) y → CallP E gf (.agg ⟨[int a, int b]⟩ :: int g :: int x :: int y :: caps) h' (fun r h'' => r = int (C a b g x y) ∧ Grows h' h'')
/-- The table, as far as it has been filled: parts of less than len gates, and those of len gates that begin before i. -/
structure Filled (C : CostF) (n : Nat) (T : Tab) (len i : Nat) : Prop where
  good : ∀ a b, a < b → b ≤ n → (b - a < len ∨ b - a = len ∧ a < i) → Good C T a b
  diag : ∀ a, (T a a).1 = 0
def IsTab (C : CostF) (n : Nat) (T : Tab) : Prop := (∀ a b, a < b → b ≤ n → Good C T a b) ∧ ∀ a, (T a a).1 = 0
theorem Filled.bd {C : CostF} {n : Nat} {T : Tab} {len i : Nat} (h : Filled C n T len i) {a b : Nat} (hab : a ≤ b) (hb : b ≤ n) (hl : b - a < len) : Bd (b - a) (T a b).1 := by
  by_cases e : a = b
  · subst e
    rw [h.diag a]
    unfold Bd K
    omega
  · exact (h.good a b (by omega) hb (.inl hl)).2
theorem good_upd {C : CostF} {T : Tab} {a b i j : Nat} {x : Int × Int} (hij : i ≤ j) (hlen : b - a ≤ j - i) (hab : a < b) (hne : ¬ (a = i ∧ b = j)) (h : Good C T a b) : Good C (updT T i j x) a b := by
  have e1 : updT T i j x a b = T a b := by unfold updT; rw [if_neg hne]
  have e2 : ∀ g, a ≤ g → g < b → candT C (updT T i j x) a b g = candT C T a b g := by
    intro g h1 h2
    unfold candT updT
    rw [if_neg (by omega), if_neg (by omega)]
  obtain ⟨h1, h2⟩ := h
  refine ⟨?_, by rw [e1]; exact h2⟩
  rw [e1]
  rcases h1 with h1 | ⟨hk, g, g1, g2, g3, g4⟩
  · exact .inl h1
  · refine .inr ⟨hk, g, g1, g2, by rw [e2 g g1 (by omega)]; exact g3, fun j' hj1 hj2 => ?_⟩
    rw [e2 g g1 (by omega), e2 j' hj1 (by omega)]
    exact g4 j' hj1 hj2
theorem Filled.upd {C : CostF} {n : Nat} {T : Tab} {len i : Nat} {x : Int × Int} (h : Filled C n T len i) (hlen : 0 < len) (hin : i + len ≤ n) (hx : BestUp (candT C T i (i + len)) i len x) (hb : Bd len x.1) : Filled C n (updT T i (i + len) x) len (i + 1) := by
  have e1 : updT T i (i + len) x i (i + len) = x := by unfold updT; rw [if_pos ⟨rfl, rfl⟩]
  constructor
  · intro a b hab hbn hc
    by_cases he : a = i ∧ b = i + len
    · obtain ⟨rfl, rfl⟩ := he
      have e2 : ∀ g, a ≤ g → g < a + len → candT C (updT T a (a + len) x) a (a + len) g = candT C T a (a + len) g := by
        intro g h1 h2
        unfold candT updT
        rw [if_neg (by omega), if_neg (by omega)]
      refine ⟨?_, by rw [e1, show a + len - a = len by omega]; exact hb⟩
      rw [e1, show a + len - a = len by omega]
      rcases hx with hx | ⟨hk, g, g1, g2, g3, g4⟩
      · exact .inl hx
      · refine .inr ⟨hk, g, g1, g2, by rw [e2 g g1 g2]; exact g3, fun j' hj1 hj2 => ?_⟩
        rw [e2 g g1 g2, e2 j' hj1 hj2]
        exact g4 j' hj1 hj2
    · exact good_upd (by omega) (by omega) hab he (h.good a b hab hbn (by omega))
  · intro a
    unfold updT
    rw [if_neg (by omega)]
    exact h.diag a
theorem Filled.next {C : CostF} {n : Nat} {T : Tab} {len i : Nat} (h : Filled C n T len i) (hi : n < i + len) : Filled C n T (len + 1) 0 :=
  ⟨fun a b hab hb hc => h.good a b hab hb (by omega), h.diag⟩
def Z338 : List Value := tabV fun _ _ => (0, 0)
theorem tabV_zero : tabV (fun _ _ => (0, 0)) = times [int 0] 338 := by
  rw [times_zero]
  exact rowF_congr fun k _ => by unfold tabF; simp
end Go.Proofs.Yticmdpcahpimhaa
namespace Go.Proofs.Yticmdpcahpimhaa
open Go.Rx Go.RowKit
def zT : Tab := fun _ _ => (0, 0)
def fnV (gf : FuncId) (caps : List Value) : Value := .func (.func gf) ⟨[]⟩ ⟨caps⟩
/-- What lies in memory while a table is filled. -/
structure Mem (h H : Hp) (F : Value) (T : Tab) (ms : List Nat) : Prop where
  at3 : H.at h.next = some (.row 118 true [F])
  at4 : H.at (h.next + 1) = some (.row 88 true (times [int 0] 338))
  at5 : H.at (h.next + 2) = some (.row 88 true (tabV T))
  nx : h.next + 3 ≤ H.next
  mks : Marks (h.next + 3) ms H
  gr : Grows h H
theorem Mem.ext {h H H' : Hp} {F : Value} {T : Tab} {ms : List Nat} (m : Mem h H F T ms) (g : Grows H H') : Mem h H' F T ms :=
  ⟨g.at_ _ _ m.at3, g.at_ _ _ m.at4, g.at_ _ _ m.at5, Nat.le_trans m.nx g.next, m.mks.ext g, m.gr.trans g⟩
theorem Mem.mark {h H : Hp} {F : Value} {T : Tab} {ms : List Nat} (m : Mem h H F T ms) {d : Nat} (hd : H.at d = some .noDefers) (h1 : h.next + 3 ≤ d) (h2 : d ∉ ms) : Mem h H F T (d :: ms) :=
  { m with mks := ⟨List.nodup_cons.2 ⟨h2, m.mks.1⟩, fun e he => by
      rcases List.mem_cons.1 he with rfl | he
      · exact ⟨h1, hd⟩
      · exact m.mks.2 e he⟩ }
theorem Mem.fresh {h H : Hp} {F : Value} {T : Tab} {ms : List Nat} (m : Mem h H F T ms) : H.next + 3 ∉ ms := fun hd => by
  have := Hp.lt_of_at (m.mks.2 _ hd).2
  omega
theorem Mem.tab {h H : Hp} {F : Value} {T : Tab} {ms : List Nat} (m : Mem h H F T ms) (T' : Tab) : Mem h (H.set (h.next + 2) (.row 88 true (tabV T'))) F T' ms := by
  have hn := m.nx
  refine ⟨?_, ?_, ?_, ?_, ⟨m.mks.1, fun d hd => ⟨(m.mks.2 d hd).1, ?_⟩⟩, m.gr.then_set _ (by omega)⟩
  · rw [Hp.at_set_ne _ (by omega)]; exact m.at3
  · rw [Hp.at_set_ne _ (by omega)]; exact m.at4
  · exact Hp.at_set_self _ (by omega)
  · exact m.nx
  · have := (m.mks.2 d hd).1
    rw [Hp.at_set_ne _ (by omega)]; exact (m.mks.2 d hd).2
theorem Mem.start (h : Hp) (F : Value) : Mem h (((h.lay (.row 118 true [F])).lay (.row 88 true (times [int 0] 338))).lay (.row 88 true (times [int 0] 338))) F zT [] :=
  ⟨Hp.at_lay_old _ (Hp.at_lay_old _ (Hp.at_lay_self _ _)), Hp.at_lay_old _ (Hp.at_lay_self _ _), by rw [show tabV zT = times [int 0] 338 from tabV_zero]; exact Hp.at_lay_self _ _, Nat.le_refl _, Marks.nil _ _, ((Grows.lay _ _).then_lay _).then_lay _⟩
theorem over_app : ∀ (pre cs vs : List Value), vs.length = cs.length → over (pre ++ cs) pre.length vs = pre ++ vs
  | pre, [], [], _ => rfl
  | pre, c :: cs, v :: vs, h => by
    show over ((pre ++ c :: cs).set pre.length v) (pre.length + 1) vs = _
    have e : (pre ++ c :: cs).set pre.length v = (pre ++ [v]) ++ cs := by
      rw [List.set_append_right _ _ (Nat.le_refl _), Nat.sub_self, List.set_cons_zero, List.append_assoc]; rfl
    have := over_app (pre ++ [v]) cs vs (by simpa using h)
    rw [e]
    rw [List.length_append, List.length_singleton] at this
    rw [this, List.append_assoc]
    rfl
theorem over_full {cs vs : List Value} (h : vs.length = cs.length) : over cs 0 vs = vs := over_app [] cs vs h
theorem tab_cells {h : Hp} {r : Nat} {T : Tab} (hr : h.at r = some (.row 88 true (tabV T))) : cellsAt h r 0 338 = some (tabV T) := by
  rw [cellsAt_row hr (by rw [tabV_len]; exact Nat.le_refl _), List.drop_zero, List.take_of_length_le (by rw [tabV_len]; exact Nat.le_refl _)]
theorem ty88 : ∃ i, E.ty 88 = some i ∧ i.agg = true ∧ i.size = 338 := by
  have hs : (tiOf Try.prog 88).isSome = true := by kernel_rfl
  refine ⟨(tiOf Try.prog 88).get hs, ty_get (by kernel_rfl) (Option.some_get hs).symm, ?_, ?_⟩
  · kernel_rfl
  · kernel_rfl
theorem times_len : (times [int 0] 338).length = 338 := by rw [← tabV_zero, tabV_len]
theorem two_cells {H : Hp} {r e : Nat} {x : Bool} {p q : Int} (hr : H.at r = some (.row e x [int p, int q])) : cellsAt H r 0 2 = some [int p, int q] := by
  rw [cellsAt_row hr (by simp)]; rfl
theorem at_nx {h : Hp} {r r' : Nat} {o : Rx.Obj} (e : r = r') (k : h.at r = some o) : h.at r' = some o := e ▸ k
theorem tab_cost' (T : Tab) {a b o : Nat} (ha : a < 13) (hb : b < 13) (e : o = b * 2 + a * 26) : (tabV T)[o]? = some (int (T a b).1) := by rw [e]; exact tab_cost T ha hb
theorem tab_store {h : Hp} {r a b o : Nat} {T : Tab} (x : Int × Int) (hr : h.at r = some (.row 88 true (tabV T))) (ha : a < 13) (hb : b < 13) (e : o = b * 2 + a * 26) : storeAt h r o [int x.1, int x.2] = some (h.set r (.row 88 true (tabV (updT T a b x)))) := by
  subst e
  unfold storeAt
  rw [hr]
  dsimp only
  rw [if_pos ⟨by rw [tabV_len]; show _ + 2 ≤ 338; omega, rfl⟩, tab_over T ha hb]
/-- What a range over the gates keeps. -/
structure Kept (h H1 H : Hp) (F : Value) (T : Tab) (ms : List Nat) (i len : Nat) (x : Int × Int) : Prop where
  gr : Grows H1 H
  mark : H.at (H1.next + 3) = some .noDefers
  part : H.at H1.next = some (.row 115 true [int i, int (i + len : Nat)])
  gate : H.at (H1.next + 2) = some (.row 115 true [int i, int (i + len : Nat)])
  best : H.at (H1.next + 1) = some (.row 85 true [int x.1, int x.2])
theorem Kept.keep {h H1 H H2 : Hp} {F : Value} {T : Tab} {ms : List Nat} {i len : Nat} {x : Int × Int} (k : Kept h H1 H F T ms i len x) {l : Nat} (hl : H1.next + 4 ≤ l) (g : Keeps l H H2) : Kept h H1 H2 F T ms i len x :=
  ⟨g.grows k.gr (by omega), g.at_ _ _ (by omega) k.mark, g.at_ _ _ (by omega) k.part, g.at_ _ _ (by omega) k.gate, g.at_ _ _ (by omega) k.best⟩
theorem Kept.ext {h H1 H H2 : Hp} {F : Value} {T : Tab} {ms : List Nat} {i len : Nat} {x : Int × Int} (k : Kept h H1 H F T ms i len x) (g : Grows H H2) : Kept h H1 H2 F T ms i len x :=
  ⟨k.gr.trans g, g.at_ _ _ k.mark, g.at_ _ _ k.part, g.at_ _ _ k.gate, g.at_ _ _ k.best⟩
theorem Kept.upd {h H1 H : Hp} {F : Value} {T : Tab} {ms : List Nat} {i len : Nat} {x : Int × Int} (k : Kept h H1 H F T ms i len x) (y : Int × Int) {r : Nat} (hr : r = H1.next + 1) : Kept h H1 (H.set r (.row 85 true [int y.1, int y.2])) F T ms i len y := by
  subst hr
  exact ⟨k.gr.then_set _ (by omega), by rw [Hp.at_set_ne _ (by omega)]; exact k.mark, by rw [Hp.at_set_ne _ (by omega)]; exact k.part, by rw [Hp.at_set_ne _ (by omega)]; exact k.gate, Hp.at_set_self _ (Hp.lt_of_at k.best)⟩
theorem Kept.then_set {h H1 H : Hp} {F : Value} {T : Tab} {ms : List Nat} {i len : Nat} {x : Int × Int} (k : Kept h H1 H F T ms i len x) {r : Nat} (o : Rx.Obj) (hr : H1.next + 4 ≤ r) : Kept h H1 (H.set r o) F T ms i len x :=
  ⟨k.gr.then_set _ (by omega), by rw [Hp.at_set_ne _ (by omega)]; exact k.mark, by rw [Hp.at_set_ne _ (by omega)]; exact k.part, by rw [Hp.at_set_ne _ (by omega)]; exact k.gate, by rw [Hp.at_set_ne _ (by omega)]; exact k.best⟩
attribute [local irreducible] E idxN cellAt cellsAt storeAt callable helems hmoved lookIn findKey keyOk hentries Hp.at Hp.set Hp.lay arBits hupdated setAt CallP YieldP BoolOf IsWrap Rnd LoopP AppP CutP Int.tmod Int.tdiv Int.fdiv
section
variable [Unknowns]
attribute [local irreducible] SeqP ResP sameAt finP tabV endQ
theorem filled_spec (n : Nat) (hn : n ≤ 12) (gf : FuncId) (caps : List Value) (C : CostF) (h : Hp) (hC : CostOk h gf caps C n) : CallP E 80 [int n, fnV gf caps] h (fun r h' => ∃ T, IsTab C n T ∧ r = .agg ⟨tabV T⟩ ∧ Grows h h') := by
  refine enter80 (by simp) ?_
  conv => whnf
  refine SeqP.go ?_
  conv => whnf
  refine SeqP.go ?_
  conv => whnf
  refine SeqP.cutM (α := Tab × List Nat) (fun _ => [(4, ptr (h.next + 1) 0), (5, ptr (h.next + 2) 0)]) (fun s => s.2) (fun s H => Mem h H (fnV gf caps) s.1 s.2 ∧ IsTab C n s.1) ?_ ?_
  · conv => whnf
    repeat (refine SeqP.go ?_; conv => whnf)
    refine loop_invM (α := Nat × Tab × Hp × List Nat) (fun s => [(6, int s.1), (0, int n), (3, ptr h.next 0), (4, ptr (h.next + 1) 0), (5, ptr (h.next + 2) 0)]) (fun s => s.2.2.1) (fun s => s.2.2.2) (fun s => 1 ≤ s.1 ∧ s.1 ≤ n + 1 ∧ Mem h s.2.2.1 (fnV gf caps) s.2.1 s.2.2.2 ∧ Filled C n s.2.1 s.1 0) (fun s => n + 1 - s.1) (1, zT, _, []) ⟨Nat.le_refl _, by omega, Mem.start h _, ⟨fun a b h1 h2 h3 => by omega, fun a => rfl⟩⟩ ⟨rfl, rfl, rfl, congrArg (fun k => ptr k 0) (Hp.next_lay h _), congrArg (fun k => ptr k 0) ((Hp.next_lay _ _).trans (congrArg (· + 1) (Hp.next_lay h _))), trivial⟩ (Hp.Le.refl _) rfl ?_
    rintro ⟨len, T, H, ms⟩ φ ⟨hl1, hl2, hm, hf⟩
    dsimp only at hl1 hl2 hm hf ⊢
    conv => whnf
    repeat (refine SeqP.go ?_; conv => whnf)
    refine cmpB (fun hb => ?_) (fun hb => ?_)
    rotate_left
    · conv => whnf
      have hln : len = n + 1 := by omega
      subst hln
      exact ⟨(T, ms), ⟨rfl, rfl, trivial⟩, ⟨hm, fun a b h1 h2 => hf.good a b h1 h2 (.inl (by omega)), hf.diag⟩, rfl⟩
    conv => whnf
    refine SeqP.cutM (α := Tab × List Nat × Hp) (fun s => [(6, int len), (0, int n), (3, ptr h.next 0), (4, ptr (h.next + 1) 0), (5, ptr (h.next + 2) 0)]) (fun s => s.2.1) (fun s H => H = s.2.2 ∧ Mem h H (fnV gf caps) s.1 s.2.1 ∧ Filled C n s.1 (len + 1) 0) ?_ ?_
    · conv => whnf
      repeat (refine SeqP.go ?_; conv => whnf)
      refine ⟨((n - len : Nat) : Int), wie (by omega) (by omega), ?_⟩
      conv => whnf
      refine ⟨((n - len + 1 : Nat) : Int), wie (by omega) (by omega), ?_⟩
      conv => whnf
      refine loop_invM (α := Nat × Tab × Hp × List Nat) (fun s => [(21, int s.1), (20, int (n - len + 1 : Nat)), (6, int len), (0, int n), (3, ptr h.next 0), (4, ptr (h.next + 1) 0), (5, ptr (h.next + 2) 0)]) (fun s => s.2.2.1) (fun s => s.2.2.2) (fun s => s.1 ≤ n - len + 1 ∧ Mem h s.2.2.1 (fnV gf caps) s.2.1 s.2.2.2 ∧ Filled C n s.2.1 len s.1) (fun s => n - len + 1 - s.1) (0, T, H, ms) ⟨Nat.zero_le _, hm, hf⟩ ⟨rfl, rfl, rfl, rfl, rfl, rfl, rfl, trivial⟩ (Hp.Le.refl _) rfl ?_
      clear hm hf
      rintro ⟨i, T, H, ms⟩ φ ⟨hi, hm, hf⟩
      dsimp only at hi hm hf ⊢
      conv => whnf
      repeat (refine SeqP.go ?_; conv => whnf)
      refine cmpB (fun hb1 => ?_) (fun hb1 => ?_)
      rotate_left
      · conv => whnf
        repeat (refine SeqP.go ?_; conv => whnf)
        have hin : i = n - len + 1 := by omega
        exact ⟨(T, ms, H), ⟨rfl, rfl, rfl, rfl, rfl, trivial⟩, ⟨rfl, hm, hf.next (by omega)⟩, rfl⟩
      have hin : i + len ≤ n := by omega
      conv => whnf
      refine SeqP.go ?_
      conv => whnf
      refine SeqP.cutM (α := Tab × List Nat × Hp) (fun s => [(21, int i), (20, int (n - len + 1 : Nat)), (6, int len), (0, int n), (3, ptr h.next 0), (4, ptr (h.next + 1) 0), (5, ptr (h.next + 2) 0)]) (fun s => s.2.1) (fun s H => H = s.2.2 ∧ Mem h H (fnV gf caps) s.1 s.2.1 ∧ Filled C n s.1 len (i + 1)) ?_ ?_
      rotate_left
      · rintro ⟨T', ms', H'⟩ φ' _ ⟨rfl, hm', hf'⟩
        dsimp only at hm' hf' ⊢
        conv => whnf
        refine ⟨((i + 1 : Nat) : Int), wie (by omega) (by omega), ?_⟩
        conv => whnf
        exact RndM.mk (i + 1, T', _, ms') ⟨by show i + 1 ≤ n - len + 1; omega, hm', hf'⟩ (by show n - len + 1 - (i + 1) < n - len + 1 - i; omega) ⟨rfl, rfl, rfl, rfl, rfl, rfl, rfl, trivial⟩ (Hp.Le.refl _) rfl
      conv => whnf
      repeat (refine SeqP.go ?_; conv => whnf)
      conv => whnf
      refine ⟨((i + len : Nat) : Int), wie (by omega) (by omega), ?_⟩
      conv => whnf
      refine ⟨rfl, _, storeAt_all (vs := [int i, int (i + len : Nat)]) rfl rfl rfl, ?_⟩
      conv => whnf
      refine SeqP.go ?_
      conv => whnf
      refine ⟨rfl, _, storeAt_all (vs := [int 0, int (-1)]) rfl rfl rfl, ?_⟩
      conv => whnf
      refine SeqP.cutM (α := Int × Int) (fun _ => [(8, ptr H.next 0), (9, ptr (H.next + 1) 0), (21, int i), (20, int (n - len + 1 : Nat)), (6, int len), (0, int n), (3, ptr h.next 0), (4, ptr (h.next + 1) 0), (5, ptr (h.next + 2) 0)]) (fun _ => (H.next + 3) :: ms) (fun x H' => Kept h H H' (fnV gf caps) T ms i len x ∧ BestUp (candT C T i (i + len)) i len x) ?_ ?_
      · conv => whnf
        repeat (refine SeqP.go ?_; conv => whnf)
        refine ⟨_, two_cells (Hp.at_lay_old _ (Hp.at_lay_self _ _)), ?_⟩
        conv => whnf
        refine CallP.mono (gates_spec i (i + len : Nat) _) ?_
        rintro r _ ⟨rfl, rfl⟩
        conv => whnf
        repeat (refine SeqP.go ?_; conv => whnf)
        have g0 : Grows H (((H.lay (.row 115 true [int i, int (i + len : Nat)])).lay (.row 85 true [int 0, int (-1)])).lay (.row 115 true [int i, int (i + len : Nat)])) := ((Grows.lay _ _).then_lay _).then_lay _
        refine range_goJ (fun hh => hh.at (H.next + 2) = some (.row 115 true [int i, int (i + len : Nat)])) ((List.range' i (i + len - i)).map gv) (fun k hh => ∃ x, Kept h H hh (fnV gf caps) T ms i len x ∧ BestUp (candT C T i (i + len)) i k x) (fun _ => False) can95 ?_ rfl (fun I S hJ h0 hit => gates_iter i (i + len) (by omega) (by omega) _ _ I S _ (fun k hh hI => at_nx (by simp only [Hp.next_lay]) (hJ k hh hI)) h0 hit) ?_ ?_ ?_ ?_ ?_
        · intro k hk
          simp [gv]
        · rintro k hh ⟨x, hk, _⟩
          exact hk.gate
        · refine ⟨(0, -1), ⟨(g0.then_lay _).then_lay _, ?_, ?_, ?_, ?_⟩, BestUp.zero _ _⟩
          · exact at_nx (by simp only [Hp.next_lay]) (Hp.at_lay_old _ (Hp.at_lay_self _ _))
          · exact Hp.at_lay_old _ (Hp.at_lay_old _ (Hp.at_lay_old _ (Hp.at_lay_old _ (Hp.at_lay_self _ _))))
          · exact at_nx (by simp only [Hp.next_lay]) (Hp.at_lay_old _ (Hp.at_lay_old _ (Hp.at_lay_self _ _)))
          · exact at_nx (by simp only [Hp.next_lay]) (Hp.at_lay_old _ (Hp.at_lay_old _ (Hp.at_lay_old _ (Hp.at_lay_self _ _))))
        · rintro k xs hget H3 hl3 ⟨x, hk, hx⟩
          have hget2 := List.getElem?_eq_some_iff.1 hget
          obtain ⟨hkl, exs⟩ := hget2
          rw [List.length_map, List.length_range'] at hkl
          rw [List.getElem_map, List.getElem_range', Nat.one_mul] at exs
          subst exs
          conv => whnf
          refine bodyQ_go hl3 ?_
          intro BO hb2 eBO hbl hbk
          have hk2 := hk.keep (by simp only [Hp.next_lay]; omega) hbk
          clear hget hk
          conv => whnf
          refine SeqP.go ?_
          conv => whnf
          have k3 := hk2.ext (Grows.lay hb2 (.row 85 true [int 0, int 0]))
          have m3 := (hm.ext hk2.gr).ext (Grows.lay hb2 (.row 85 true [int 0, int 0]))
          refine ⟨_, cellAt_row m3.at3 rfl, ?_⟩
          conv => whnf
          refine ⟨_, two_cells k3.part, ?_⟩
          conv => whnf
          refine ⟨int i, cellAt_row k3.part rfl, ?_⟩
          conv => whnf
          refine ⟨⟨by omega, by omega⟩, ?_⟩
          conv => whnf
          refine ⟨⟨by omega, by omega⟩, ?_⟩
          conv => whnf
          refine ⟨int (T i (i + k)).1, cellAt_row m3.at5 (tab_cost' T (a := i) (b := i + k) (by omega) (by omega) (by rw [offAt_eq, offAt_eq]; omega)), ?_⟩
          conv => whnf
          refine ⟨((i + k + 1 : Nat) : Int), wie (by omega) (by omega), ?_⟩
          conv => whnf
          refine ⟨int (i + len : Nat), cellAt_row k3.part rfl, ?_⟩
          conv => whnf
          refine ⟨⟨by omega, by omega⟩, ?_⟩
          conv => whnf
          refine ⟨⟨by omega, by omega⟩, ?_⟩
          conv => whnf
          refine ⟨int (T (i + k + 1) (i + len)).1, cellAt_row m3.at5 (tab_cost' T (a := i + k + 1) (b := i + len) (by omega) (by omega) (by rw [offAt_eq, offAt_eq]; omega)), ?_⟩
          conv => whnf
          refine ⟨hC.can, ?_⟩
          refine CallP.mono (hC.call _ m3.gr i (i + len) (i + k) _ _ (by omega) (by omega) (by omega) (by have := hf.bd (a := i) (b := i + k) (by omega) (by omega) (by omega); rwa [show i + k - i = k by omega] at *) (hf.bd (by omega) (by omega) (by omega))) ?_
          rintro r h5 ⟨rfl, g5⟩
          conv => whnf
          refine ⟨rfl, _, storeAt_full (vs := [int (candT C T i (i + len) (i + k)), int (i + k : Nat)]) (g5.at_ _ _ (Hp.at_lay_self _ _)) rfl rfl rfl, ?_⟩
          conv => whnf
          refine ⟨?_, ?_⟩
          · repeat' (first | exact True.intro | (refine And.intro ?_ ?_ <;> (conv => whnf)))
            · exact sameAt_val (h2 := _) rfl (sameV_int _)
            · exact sameAt_val (h2 := h5) rfl (sameV_int _)
            · exact ⟨_, rfl, Hp.at_lay_self _ _, rfl⟩
            · exact ⟨_, rfl, g5.at_ _ _ (Hp.at_lay_self _ _), rfl⟩
          have hbl2 := at_nx (r' := H.next + 4) (by simp only [Hp.next_lay]) hbl
          have hlt2 := Hp.lt_of_at hbl2
          have hlt5 := Hp.lt_of_at (g5.at_ _ _ (Hp.at_lay_self hb2 (.row 85 true [int 0, int 0])))
          have k5 := (k3.ext g5).then_set (r := hb2.next) (.row 85 true [int (candT C T i (i + len) (i + k)), int (i + k : Nat)]) (by omega)
          have a11 : (h5.set hb2.next (.row 85 true [int (candT C T i (i + len) (i + k)), int (i + k : Nat)])).at hb2.next = some (.row 85 true [int (candT C T i (i + len) (i + k)), int (i + k : Nat)]) := Hp.at_set_self _ hlt5
          have bo5 : (h5.set hb2.next (.row 85 true [int (candT C T i (i + len) (i + k)), int (i + k : Nat)])).at (H.next + 4) = some BO := by rw [Hp.at_set_ne _ (by omega)]; exact g5.at_ _ _ (Hp.at_lay_old _ hbl2)
          conv => whnf
          refine SeqP.cut (α := Int × Int) (fun _ => [(9, ptr (H.next + 1) 0), (11, ptr hb2.next 0)]) (fun z H' => z = (if x.2 < 0 then (candT C T i (i + len) (i + k), ((i + k : Nat) : Int)) else x) ∧ Kept h H H' (fnV gf caps) T ms i len z ∧ H'.at hb2.next = some (.row 85 true [int (candT C T i (i + len) (i + k)), int (i + k : Nat)]) ∧ H'.at (H.next + 4) = some BO) ?_ ?_
          · conv => whnf
            repeat (refine SeqP.go ?_; conv => whnf)
            refine ⟨int x.2, cellAt_row (at_nx (Hp.next_lay _ _).symm k5.best) rfl, ?_⟩
            conv => whnf
            refine cmpB (fun c1 => ?_) (fun c1 => ?_)
            · conv => whnf
              repeat (refine SeqP.go ?_; conv => whnf)
              refine ⟨_, two_cells a11, ?_⟩
              conv => whnf
              refine ⟨rfl, _, storeAt_full (vs := [int (candT C T i (i + len) (i + k)), int (i + k : Nat)]) (at_nx (Hp.next_lay _ _).symm k5.best) rfl rfl rfl, ?_⟩
              conv => whnf
              exact ⟨(candT C T i (i + len) (i + k), ((i + k : Nat) : Int)), ⟨congrArg (fun k => ptr k 0) (Hp.next_lay _ _), rfl, trivial⟩, ⟨(if_pos c1).symm, k5.upd (candT C T i (i + len) (i + k), ((i + k : Nat) : Int)) (Hp.next_lay _ _), by rw [Hp.at_set_ne _ (by simp only [Hp.next_lay]; omega)]; exact a11, by rw [Hp.at_set_ne _ (by simp only [Hp.next_lay]; omega)]; exact bo5⟩, rfl⟩
            · conv => whnf
              repeat (refine SeqP.go ?_; conv => whnf)
              exact ⟨x, ⟨congrArg (fun k => ptr k 0) (Hp.next_lay _ _), rfl, trivial⟩, ⟨(if_neg c1).symm, k5, a11, bo5⟩, rfl⟩
          rintro z φ6 H6 ⟨ez, k6, a6, b6⟩
          have hbs := BestUp.succ hx
          rw [← ez] at hbs
          conv => whnf
          refine ⟨_, two_cells k6.best, ?_⟩
          conv => whnf
          refine ⟨_, two_cells a6, ?_⟩
          conv => whnf
          refine CallP.mono (better_spec z (candT C T i (i + len) (i + k), ((i + k : Nat) : Int)) _) ?_
          rintro r h7 ⟨rfl, g7⟩
          have k7 := k6.ext g7
          have b7 := g7.at_ _ _ b6
          conv => whnf
          refine ⟨rfl, _, storeAt_full (vs := [int (betterOf z (candT C T i (i + len) (i + k), ((i + k : Nat) : Int))).1, int (betterOf z (candT C T i (i + len) (i + k), ((i + k : Nat) : Int))).2]) k7.best rfl rfl rfl, ?_⟩
          have k8 := k7.upd (betterOf z (candT C T i (i + len) (i + k), ((i + k : Nat) : Int))) rfl
          have b8 : (h7.set (H.next + 1) (.row 85 true [int (betterOf z (candT C T i (i + len) (i + k), ((i + k : Nat) : Int))).1, int (betterOf z (candT C T i (i + len) (i + k), ((i + k : Nat) : Int))).2])).at (H.next + 4) = some BO := by rw [Hp.at_set_ne _ (by omega)]; exact b7
          conv => whnf
          refine endQ_next eBO (at_nx (by simp only [Hp.next_lay]) b8) ?_
          intro h9 hr9 hk9
          exact .inl ⟨rfl, hr9, _, k8.keep (by simp only [Hp.next_lay]; omega) hk9, hbs⟩
        · rintro h2 h3 ⟨x, hk, hx⟩ hkp
          rw [List.length_map, List.length_range'] at hx
          have hk3 := hk.keep (by simp only [Hp.next_lay]; omega) hkp
          exact ⟨x, ⟨rfl, congrArg (fun k => ptr k 0) (Hp.next_lay _ _), rfl, rfl, rfl, rfl, rfl, rfl, rfl, trivial⟩, ⟨hk3, by rw [show i + len - i = len by omega] at hx; exact hx⟩, congrArg (· :: ms) (by simp only [Hp.next_lay])⟩
        · intro h2 hF
          exact hF.elim
      rintro x φ' H2 ⟨hk, hx⟩
      have hnx := hm.nx
      have m2 := (hm.ext hk.gr).mark hk.mark (by omega) hm.fresh
      have hbx : Bd len x.1 := by
        obtain ⟨g, g1, g2, e⟩ := hx.at_nonneg (by omega)
        have := hC.bd i (i + len) g _ _ g1 g2 hin (hf.bd (a := i) (b := g) g1 (by omega) (by omega)) (hf.bd (a := g + 1) (b := i + len) (by omega) hin (by omega))
        rw [e]
        rwa [show i + len - i = len by omega] at this
      have hf2 := hf.upd (by omega) hin hx hbx
      conv => whnf
      refine ⟨int i, cellAt_row hk.part rfl, ?_⟩
      conv => whnf
      refine ⟨int (i + len : Nat), cellAt_row hk.part rfl, ?_⟩
      conv => whnf
      refine ⟨_, two_cells hk.best, ?_⟩
      conv => whnf
      refine ⟨⟨by omega, by omega⟩, ?_⟩
      conv => whnf
      refine ⟨⟨by omega, by omega⟩, ?_⟩
      conv => whnf
      refine ⟨rfl, _, tab_store (a := i) (b := i + len) x m2.at5 (by omega) (by omega) (by rw [offAt_eq, offAt_eq]; omega), ?_⟩
      conv => whnf
      exact ⟨(updT T i (i + len) x, (H.next + 3) :: ms, _), ⟨rfl, rfl, rfl, rfl, rfl, rfl, rfl, trivial⟩, ⟨rfl, m2.tab _, hf2⟩, rfl⟩
    rintro ⟨T', ms', H'⟩ φ' _ ⟨rfl, hm', hf'⟩
    dsimp only at hm' hf' ⊢
    conv => whnf
    refine ⟨((len + 1 : Nat) : Int), wie (by omega) (by omega), ?_⟩
    conv => whnf
    exact RndM.mk (len + 1, T', _, ms') ⟨by show 1 ≤ len + 1; omega, by show len + 1 ≤ n + 1; omega, hm', hf'⟩ (by show n + 1 - (len + 1) < n + 1 - len; omega) ⟨rfl, rfl, rfl, rfl, rfl, trivial⟩ (Hp.Le.refl _) rfl
  rintro ⟨T, ms⟩ φ H ⟨hm, hT⟩
  dsimp only at hm hT ⊢
  have hnx := hm.nx
  have hms : Marks (h.next + 3) ms (H.set (h.next + 1) (.row 88 true (tabV T))) := ⟨hm.mks.1, fun d hd => ⟨(hm.mks.2 d hd).1, by have := (hm.mks.2 d hd).1; rw [Hp.at_set_ne _ (by omega)]; exact (hm.mks.2 d hd).2⟩⟩
  conv => whnf
  repeat (refine SeqP.go ?_; conv => whnf)
  refine ⟨tabV T, tab_cells hm.at5, ?_⟩
  conv => whnf
  refine ⟨tabV_len T, _, storeAt_full (vs := tabV T) hm.at4 (by rw [tabV_len, times_len]) (tabV_one T) (over_full (by rw [tabV_len, times_len])), ?_⟩
  conv => whnf
  refine finP_marks hms ?_
  intro h3 n3 k3 _
  obtain ⟨ti, hti, hag, hsz⟩ := ty88
  have at4 : h3.at (h.next + 1) = some (.row 88 true (tabV T)) := k3 _ _ (by omega) (Hp.at_set_self _ (by omega))
  refine leave_cell rfl hti hag (by rw [hsz]; exact tab_cells at4) ⟨T, hT, rfl, ?_⟩
  refine ⟨by rw [n3, Hp.next_set]; omega, fun r o ho => ?_⟩
  have hlt := Hp.lt_of_at ho
  exact k3 r o (by omega) (by rw [Hp.at_set_ne _ (by omega)]; exact hm.gr.at_ _ _ ho)
end
end Go.Proofs.Yticmdpcahpimhaa
namespace Go.Proofs.Yticmdpcahpimhaa
open Go.Rx Go.RowKit
/-- A plan that is read off a table. -/
inductive TPl (T : Tab) : Nat → Nat → List Int → Prop
  | nil (a : Nat) : TPl T a a []
  | node {a b g : Nat} {q1 q2 : List Int} (h1 : a ≤ g) (h2 : g < b) (e : (T a b).2 = (g : Int)) (l : TPl T a g q1) (r : TPl T (g + 1) b q2) : TPl T a b ([(g : Int)] ++ q1 ++ q2)
theorem TPl.pl {T : Tab} {a b : Nat} {q : List Int} (h : TPl T a b q) : Pl a b q := by
  induction h with
  | nil a => exact .nil a
  | node h1 h2 _ _ _ l r => exact .node h1 h2 l r
def bare (n : Nat) : Hp := ⟨n, fun _ => none⟩
theorem bare_grows {n : Nat} {h : Hp} (hn : n ≤ h.next) : Grows (bare n) h := ⟨hn, fun r o e => by
  unfold Hp.at bare at e
  dsimp only at e
  split at e <;> cases e⟩
def NotInts (o : Rx.Obj) : Prop := ∀ x cs, o ≠ .row 3 x cs
/-- What a reading keeps. -/
def Kp (c : Nat) (h h' : Hp) : Prop := ∀ r o, (r < c + 3 ∨ NotInts o) → r ≠ c + 1 → h.at r = some o → h'.at r = some o
theorem Kp.of_grows {c : Nat} {h h' : Hp} (g : Grows h h') : Kp c h h' := fun r o _ _ e => g.at_ r o e
theorem Kp.trans {c : Nat} {a b d : Hp} (x : Kp c a b) (y : Kp c b d) : Kp c a d := fun r o h1 h2 e => y r o h1 h2 (x r o h1 h2 e)
def rdV (c : Nat) : Value := .func (.func 82) ⟨[]⟩ ⟨[ptr c 0, ptr (c + 1) 0, ptr (c + 2) 0]⟩
structure RM (h : Hp) (c : Nat) (T : Tab) (v : Value) (q : List Int) : Prop where
  at1 : h.at c = some (.row 88 true (tabV T))
  at2 : h.at (c + 1) = some (.row 22 true [v])
  at3 : h.at (c + 2) = some (.row 119 true [rdV c])
  built : Built (bare (c + 3)) h 3 v q
  nx : c + 3 ≤ h.next
theorem RM.ext {h h' : Hp} {c : Nat} {T : Tab} {v : Value} {q : List Int} (k : RM h c T v q) (g : Grows h h') : RM h' c T v q :=
  ⟨g.at_ _ _ k.at1, g.at_ _ _ k.at2, g.at_ _ _ k.at3, k.built.ext g, Nat.le_trans k.nx g.next⟩
/-- What a slice that grows may have changed: the row that it lies in. -/
theorem built_kp {c : Nat} {h h' : Hp} {v : Value} {q : List Int} (hb : Built (bare (c + 3)) h 3 v q) (keep : ∀ r o, h.at r = some o → (∀ n c, v ≠ slc r 0 n c) → h'.at r = some o) : ∀ r o, (r < c + 3 ∨ NotInts o) → h.at r = some o → h'.at r = some o := by
  intro r o hr e
  refine keep r o e fun n cp hv => ?_
  rcases hb with ⟨rfl, _⟩ | ⟨r', rfl, h1, x, h2⟩
  · cases hv
  · have : r' = r := by
      simp [slc] at hv
      exact hv.1
    subst this
    rcases hr with hr | hr
    · have : c + 3 ≤ r' := h1
      omega
    · rw [h2] at e
      exact hr x _ (Option.some.inj e).symm
theorem tab_at' (T : Tab) {a b o : Nat} (ha : a < 13) (hb : b < 13) (e : o = b * 2 + a * 26 + 1) : (tabV T)[o]? = some (int (T a b).2) := by rw [e]; exact tab_at T ha hb
theorem finP_zero {φ : Rx.Frame} {H : Hp} {Q : Value → Hp → Prop} (q : Q (.tuple ⟨[]⟩) H) : finP E [] ⟨φ, H, []⟩ Q := q
attribute [local irreducible] E idxN cellAt cellsAt storeAt callable helems hmoved lookIn findKey keyOk hentries Hp.at Hp.set Hp.lay arBits hupdated setAt CallP YieldP BoolOf IsWrap Rnd LoopP AppP CutP Int.tmod Int.tdiv Int.fdiv
section
variable [Unknowns]
theorem piece_yes (a : Int) (h : Hp) : CallP E 77 [.agg ⟨[int a, int a]⟩] h (fun r h' => r = .bool true ∧ Grows h h') :=
  CallP.mono (piece_spec a a h) (by rintro r h' ⟨rfl, g⟩; exact ⟨by simp, g⟩)
theorem piece_no {a b : Int} (hab : a ≠ b) (h : Hp) : CallP E 77 [.agg ⟨[int a, int b]⟩] h (fun r h' => r = .bool false ∧ Grows h h') :=
  CallP.mono (piece_spec a b h) (by rintro r h' ⟨rfl, g⟩; exact ⟨by have : (b == a) = false := by simp; omega
                                                                    simp [this], g⟩)
attribute [local irreducible] SeqP ResP sameAt finP tabV
theorem read_spec (n : Nat) (hn : n ≤ 12) (T : Tab) (c : Nat) (hT : ∀ a b, a < b → b ≤ n → ∃ g : Nat, a ≤ g ∧ g < b ∧ (T a b).2 = (g : Int)) (m : Nat) : ∀ (a b : Nat) (q : List Int) (v : Value) (h : Hp), b - a ≤ m → a ≤ b → b ≤ n → q.length + (b - a) ≤ 1000 → RM h c T v q →
    CallP E 82 [.agg ⟨[int a, int b]⟩, ptr c 0, ptr (c + 1) 0, ptr (c + 2) 0] h (fun r h' => ∃ v' q', RM h' c T v' (q ++ q') ∧ TPl T a b q' ∧ Kp c h h') := by
  induction m with
  | zero =>
    intro a b q v h hm hab hb hq hr
    obtain rfl : a = b := by omega
    have hg0 : Grows h (h.lay (.row 115 true [int a, int a])) := Grows.lay _ _
    refine enter82 (by simp) ?_
    conv => whnf
    repeat (refine SeqP.go ?_; conv => whnf)
    refine ⟨_, two_cells (Hp.at_lay_self _ _), ?_⟩
    conv => whnf
    refine CallP.mono (piece_yes a _) ?_
    rintro r h1 ⟨rfl, g1⟩
    conv => whnf
    repeat (refine SeqP.go ?_; conv => whnf)
    exact finP_zero ⟨v, [], by rw [List.append_nil]; exact hr.ext (hg0.trans g1), .nil a, Kp.of_grows (hg0.trans g1)⟩
  | succ m ih =>
    intro a b q v h hm hab hb hq hr
    have hg0 : Grows h (h.lay (.row 115 true [int a, int b])) := Grows.lay _ _
    refine enter82 (by simp) ?_
    conv => whnf
    repeat (refine SeqP.go ?_; conv => whnf)
    refine ⟨_, two_cells (Hp.at_lay_self _ _), ?_⟩
    conv => whnf
    by_cases hab2 : a = b
    · subst hab2
      refine CallP.mono (piece_yes a _) ?_
      rintro r h1 ⟨rfl, g1⟩
      conv => whnf
      repeat (refine SeqP.go ?_; conv => whnf)
      exact finP_zero ⟨v, [], by rw [List.append_nil]; exact hr.ext (hg0.trans g1), .nil a, Kp.of_grows (hg0.trans g1)⟩
    refine CallP.mono (piece_no (by omega) _) ?_
    rintro r h1 ⟨rfl, g1⟩
    obtain ⟨g, l1, l2, eg⟩ := hT a b (by omega) hb
    have hbox := g1.at_ _ _ (Hp.at_lay_self h (.row 115 true [int a, int b]))
    have r1 := hr.ext (hg0.trans g1)
    conv => whnf
    repeat (refine SeqP.go ?_; conv => whnf)
    refine ⟨int a, cellAt_row hbox rfl, ?_⟩
    conv => whnf
    refine ⟨int b, cellAt_row hbox rfl, ?_⟩
    conv => whnf
    refine ⟨⟨by omega, by omega⟩, ?_⟩
    conv => whnf
    refine ⟨⟨by omega, by omega⟩, ?_⟩
    conv => whnf
    refine ⟨int g, (cellAt_row r1.at1 (tab_at' T (a := a) (b := b) (by omega) (by omega) (by rw [offAt_eq, offAt_eq]; omega))).trans (by rw [eg]), ?_⟩
    conv => whnf
    repeat (refine SeqP.go ?_; conv => whnf)
    refine ⟨v, cellAt_row r1.at2 rfl, ?_⟩
    conv => whnf
    have r2 := r1.ext (Grows.lay h1 (.row 3 true [int g]))
    have hbox2 := Hp.at_lay_old (.row 3 true [int g]) hbox
    refine AppP.ints r2.built (bare_grows r2.nx) Elems.lay1 (by simp; omega) ?_
    intro v2 h2 hb2 hg2 keep2
    have kp2 := built_kp r2.built keep2
    have hb2' := hb2
    rcases hb2' with ⟨rfl, e⟩ | ⟨rr, rfl, hrr, xx, hat⟩
    · simp at e
    have n2 := hg2.next
    have kp12 : Kp c h h2 := (Kp.of_grows ((hg0.trans g1).then_lay _)).trans fun r o e1 _ e2 => kp2 r o e1 e2
    have at1 := kp2 _ _ (.inl (by omega)) r2.at1
    have at2 := kp2 _ _ (.inl (by omega)) r2.at2
    have at3 := kp2 _ _ (.inl (by omega)) r2.at3
    have hbox3 := kp2 _ _ (.inr (fun x cs e => by cases e)) hbox2
    have hlt2 := Hp.lt_of_at at2
    have hbn : (bare (c + 3)).next = c + 3 := rfl
    have hne : h.next ≠ c + 1 := by have := hr.nx; omega
    have r3 : RM (h2.set (c + 1) (.row 22 true [slc rr 0 (q ++ [(g : Int)]).length (q ++ [(g : Int)]).length])) c T (slc rr 0 (q ++ [(g : Int)]).length (q ++ [(g : Int)]).length) (q ++ [(g : Int)]) :=
      ⟨by rw [Hp.at_set_ne _ (by omega)]; exact at1, Hp.at_set_self _ hlt2, by rw [Hp.at_set_ne _ (by omega)]; exact at3, .inr ⟨rr, rfl, hrr, xx, by rw [Hp.at_set_ne _ (by omega)]; exact hat⟩, by rw [Hp.next_set]; omega⟩
    have box3 : (h2.set (c + 1) (.row 22 true [slc rr 0 (q ++ [(g : Int)]).length (q ++ [(g : Int)]).length])).at h.next = some (.row 115 true [int a, int b]) := by rw [Hp.at_set_ne _ hne]; exact hbox3
    have kp3 : Kp c h (h2.set (c + 1) (.row 22 true [slc rr 0 (q ++ [(g : Int)]).length (q ++ [(g : Int)]).length])) := kp12.trans fun r o _ e1 e2 => by rw [Hp.at_set_ne _ e1]; exact e2
    conv => whnf
    refine ⟨rfl, _, storeAt_row at2 (by simp) rfl, ?_⟩
    conv => whnf
    repeat (refine SeqP.go ?_; conv => whnf)
    refine ⟨_, cellAt_row r3.at3 rfl, ?_⟩
    conv => whnf
    refine ⟨_, two_cells box3, ?_⟩
    conv => whnf
    refine CallP.mono (before_spec a b g _) ?_
    rintro r h4 ⟨rfl, g4⟩
    have r4 := r3.ext g4
    conv => whnf
    refine ⟨can82, ?_⟩
    refine CallP.mono (ih a g _ _ h4 (by omega) (by omega) (by omega) (by simp; omega) r4) ?_
    rintro r5 h5 ⟨v5, q5, r5', p5, k5⟩
    have box4 := g4.at_ _ _ box3
    have box5 := k5 _ _ (.inr (fun x cs e => by cases e)) hne box4
    have wf : sameV 4 (rdV c) (rdV c) = true := by unfold rdV; simp [sameV, sameL, ptr]
    conv => whnf
    refine ⟨?_, ?_⟩
    · repeat' (first | exact True.intro | (refine And.intro ?_ ?_ <;> (conv => whnf)))
      all_goals first
        | exact sameAt_val (h2 := _) (congrArg (hval _) (cellAt_row r3.at3 rfl)) wf
        | exact sameAt_val (h2 := _) (congrArg (hval _) (cellAt_row r4.at3 rfl)) wf
        | exact sameAt_val (h2 := _) (congrArg (hval _) (cellAt_row r5'.at3 rfl)) wf
        | exact sameAt_val (h2 := _) rfl (sameV_int _)
    conv => whnf
    repeat (refine SeqP.go ?_; conv => whnf)
    refine ⟨_, cellAt_row r5'.at3 rfl, ?_⟩
    conv => whnf
    refine ⟨_, two_cells box5, ?_⟩
    conv => whnf
    refine CallP.mono (behind_spec a b g (by omega) _) ?_
    rintro r h6 ⟨rfl, g6⟩
    have r6 := r5'.ext g6
    have l5 := p5.pl.length
    conv => whnf
    refine ⟨can82, ?_⟩
    refine CallP.mono (ih (g + 1) b _ _ h6 (by omega) (by omega) (by omega) (by simp; omega) r6) ?_
    rintro r7 h7 ⟨v7, q7, r7', p7, k7⟩
    conv => whnf
    refine ⟨?_, ?_⟩
    · repeat' (first | exact True.intro | (refine And.intro ?_ ?_ <;> (conv => whnf)))
      all_goals first
        | exact sameAt_val (h2 := _) (congrArg (hval _) (cellAt_row r5'.at3 rfl)) wf
        | exact sameAt_val (h2 := _) (congrArg (hval _) (cellAt_row r6.at3 rfl)) wf
        | exact sameAt_val (h2 := _) (congrArg (hval _) (cellAt_row r7'.at3 rfl)) wf
        | exact sameAt_val (h2 := _) rfl (sameV_int _)
    conv => whnf
    repeat (refine SeqP.go ?_; conv => whnf)
    have eq7 : q ++ [(g : Int)] ++ q5 ++ q7 = q ++ ([(g : Int)] ++ q5 ++ q7) := by simp
    rw [eq7] at r7'
    exact finP_zero ⟨v7, _, r7', .node l1 l2 eg p5 p7, ((kp3.trans (Kp.of_grows g4)).trans k5).trans ((Kp.of_grows g6).trans k7)⟩
end
end Go.Proofs.Yticmdpcahpimhaa
namespace Go.Proofs.Yticmdpcahpimhaa
open Go.Rx Go.RowKit
def worstC (cs : List Int) : CostF := fun _ _ g x y => (cs[g]?.getD 0) + max x y
attribute [local irreducible] E idxN cellAt cellsAt storeAt callable helems hmoved lookIn findKey keyOk hentries Hp.at Hp.set Hp.lay arBits hupdated setAt CallP YieldP BoolOf IsWrap Rnd LoopP AppP CutP Int.tmod Int.tdiv Int.fdiv
section
variable [Unknowns]
attribute [local irreducible] SeqP ResP sameAt finP tabV
theorem max_eq2 (x y : Int) : Value.int IntKind.i64 (if y > x then y else x) = int (max x y) := congrArg (Value.int .i64) (by split <;> omega)
theorem worst_ok (cs : List Int) (hcs : ∀ x ∈ cs, 1 ≤ x ∧ x ≤ 1000) (hl : cs.length ≤ 12) (v : Value) (c : Nat) (h : Hp) (hv : Ints h v cs) (hc : h.at c = some (.row 22 true [v])) : CostOk h 81 [ptr c 0] (worstC cs) cs.length := by
  have hget : ∀ g, g < cs.length → 1 ≤ cs[g]?.getD 0 ∧ cs[g]?.getD 0 ≤ 1000 := by
    intro g hg
    rw [List.getElem?_eq_getElem hg]
    exact hcs _ (List.getElem_mem hg)
  refine ⟨can81, ?_, ?_⟩
  · intro a b g x y h1 h2 h3 hx hy
    have := hget g (by omega)
    unfold Bd K worstC at *
    omega
  · intro h1 gr a b g x y l1 l2 l3 hx hy
    have hgv := hget g (by omega)
    have hv1 := hv.ext gr
    have hc1 := gr.at_ _ _ hc
    obtain ⟨av, cp, rfl, hcell⟩ := hv1
    obtain ⟨r, o, sp, rfl, hsp, hval⟩ := hcell g (by omega)
    unfold Bd K at hx hy
    have hmx : 0 ≤ max x y ∧ max x y ≤ 13000000 * 12 := by omega
    show CallP E 81 [.agg ⟨[int a, int b]⟩, int g, int x, int y, ptr c 0] h1 _
    refine enter81 (by simp) ?_
    conv => whnf
    repeat (refine SeqP.go ?_; conv => whnf)
    refine ⟨_, cellAt_row (Hp.at_lay_old _ hc1) rfl, ?_⟩
    conv => whnf
    refine ⟨hsp, ⟨by omega, by omega⟩, ?_⟩
    conv => whnf
    refine ⟨int cs[g], (Grows.lay _ _).cell (by rw [offAt_eq, Nat.add_comm]; simpa using hval), ?_⟩
    conv => whnf
    refine resP_val (v := int (max x y)) (h := h1.lay (.row 115 true [int a, int b])) ?_ ?_
    · conv => lhs; whnf
      exact congrArg (HRes.val · _) (max_eq2 x y)
    conv => whnf
    have ecs : cs[g]?.getD 0 = cs[g] := by rw [List.getElem?_eq_getElem (by omega)]; rfl
    rw [ecs] at hgv
    refine ⟨_, wid (by omega), ?_⟩
    conv => whnf
    repeat (refine SeqP.go ?_; conv => whnf)
    refine finP_one rfl rfl ⟨?_, Grows.lay _ _⟩
    unfold worstC
    rw [ecs]
    rfl
theorem worst_spec (cs : List Int) (hcs : ∀ x ∈ cs, 1 ≤ x ∧ x ≤ 1000) (hl : cs.length ≤ 12) (v : Value) (h : Hp) (hv : Ints h v cs) : CallP E 57 [v] h (fun r h' => ∃ T, IsTab (worstC cs) cs.length T ∧ r = .agg ⟨tabV T⟩ ∧ Grows h h') := by
  obtain ⟨av, cp, rfl, hcell⟩ := id hv
  have g0 : Grows h ((h.lay (.row 22 true [.slice av cs.length cp])).lay (.row 88 true (times [int 0] 338))) := (Grows.lay _ _).then_lay _
  refine enter57 (by simp) ?_
  conv => whnf
  repeat (refine SeqP.go ?_; conv => whnf)
  refine ⟨_, cellAt_row (Hp.at_lay_old _ (Hp.at_lay_self _ _)) rfl, ?_⟩
  conv => whnf
  refine CallP.mono (filled_spec cs.length hl 81 [ptr h.next 0] (worstC cs) _ (worst_ok cs hcs hl _ h.next _ (hv.ext g0) (Hp.at_lay_old _ (Hp.at_lay_self _ _)))) ?_
  rintro r h1 ⟨T, hT, rfl, g1⟩
  have g1' : Grows ((h.lay (.row 22 true [.slice av cs.length cp])).lay (.row 88 true (times [int 0] 338))) h1 := g1
  have at2 := g1'.at_ _ _ (Hp.at_lay_self _ _)
  have hlt := Hp.lt_of_at at2
  conv => whnf
  refine ⟨tabV_len T, _, storeAt_full (vs := tabV T) at2 (by rw [tabV_len, times_len]) (tabV_one T) (over_full (by rw [tabV_len, times_len])), ?_⟩
  conv => whnf
  repeat (refine SeqP.go ?_; conv => whnf)
  obtain ⟨ti, hti, hag, hsz⟩ := ty88
  refine leave_cell rfl hti hag (by rw [hsz]; exact tab_cells (Hp.at_set_self _ hlt)) ⟨T, hT, rfl, ?_⟩
  exact (g0.trans g1').then_set _ (by simp only [Hp.next_lay]; omega)
theorem read_spec' (n : Nat) (hn : n ≤ 12) (T : Tab) (c : Nat) (hT : ∀ a b, a < b → b ≤ n → ∃ g : Nat, a ≤ g ∧ g < b ∧ (T a b).2 = (g : Int)) (a b : Nat) (hab : a ≤ b) (hb : b ≤ n) (v : Value) (h : Hp) (hr : RM h c T v []) (x y z : Value) (ex : x = ptr c 0) (ey : y = ptr (c + 1) 0) (ez : z = ptr (c + 2) 0) :
    CallP E 82 [.agg ⟨[int a, int b]⟩, x, y, z] h (fun r h' => ∃ v' q', RM h' c T v' q' ∧ TPl T a b q' ∧ Kp c h h') := by
  subst ex ey ez
  refine CallP.mono (read_spec n hn T c hT (b - a) a b [] v h (Nat.le_refl _) hab hb (by simp; omega) hr) ?_
  rintro r h' ⟨v', q', h1, h2, h3⟩
  exact ⟨v', q', h1, h2, h3⟩
theorem rd_start (h : Hp) (T : Tab) (x y z : Value) (ex : x = ptr h.next 0) (ey : y = ptr (h.next + 1) 0) (ez : z = ptr (h.next + 2) 0) : RM (((h.lay (.row 88 true (tabV T))).lay (.row 22 true [.slice none 0 0])).lay (.row 119 true [.func (.func 82) ⟨[]⟩ ⟨[x, y, z]⟩])) h.next T (.slice none 0 0) [] := by
  subst ex ey ez
  refine ⟨Hp.at_lay_old _ (Hp.at_lay_old _ (Hp.at_lay_self _ _)), ?_, ?_, .inl ⟨rfl, rfl⟩, by simp only [Hp.next_lay]; omega⟩
  · exact Hp.at_lay_old _ (at_nx (Hp.next_lay _ _) (Hp.at_lay_self _ _))
  · exact at_nx (by simp only [Hp.next_lay]) (Hp.at_lay_self _ _)
theorem tplan_spec (n : Nat) (hn : n ≤ 12) (T : Tab) (hT : ∀ a b, a < b → b ≤ n → ∃ g : Nat, a ≤ g ∧ g < b ∧ (T a b).2 = (g : Int)) (h : Hp) : CallP E 58 [.agg ⟨tabV T⟩, int n] h (fun r h' => ∃ q, Built h h' 3 r q ∧ TPl T 0 n q ∧ Grows h h') := by
  have e1 : ptr (h.lay (.row 88 true (tabV T))).next 0 = ptr (h.next + 1) 0 := congrArg (fun k => ptr k 0) (Hp.next_lay _ _)
  have e2 : ptr ((h.lay (.row 88 true (tabV T))).lay (.row 22 true [.slice none 0 0])).next 0 = ptr (h.next + 2) 0 := congrArg (fun k => ptr k 0) (by simp only [Hp.next_lay])
  have rm := rd_start h T _ _ _ rfl e1 e2
  refine enter58 (by simp) ?_
  conv => whnf
  refine SeqP.go ?_
  conv => whnf
  refine SeqP.go ?_
  conv => whnf
  refine SeqP.go ?_
  conv => whnf
  refine SeqP.go ?_
  conv => whnf
  refine ⟨rfl, _, storeAt_lay (by simp) rfl, ?_⟩
  conv => whnf
  refine SeqP.go ?_
  conv => whnf
  refine ⟨_, cellAt_lay rfl, ?_⟩
  conv => whnf
  refine ⟨can82, ?_⟩
  refine CallP.mono (read_spec' n hn T h.next hT 0 n (Nat.zero_le _) (Nat.le_refl _) _ _ rm _ _ _ rfl e1 e2) ?_
  rintro r h1 ⟨v, q, r1, pl, kp⟩
  have hb := r1.built.back (h1 := h) (show h.next ≤ h.next + 3 by omega)
  have hg : Grows h h1 := ⟨by have := r1.nx; omega, fun r o ho => by
    have hlt := Hp.lt_of_at ho
    exact kp r o (.inl (by omega)) (by omega) (Hp.at_lay_old _ (Hp.at_lay_old _ (Hp.at_lay_old _ ho)))⟩
  have at2 := at_nx (Hp.next_lay h (.row 88 true (tabV T))).symm r1.at2
  conv => whnf
  refine SeqP.go ?_
  conv => whnf
  refine ⟨v, cellAt_row at2 rfl, ?_⟩
  have hb' := hb
  rcases hb' with ⟨rfl, e⟩ | ⟨rr, rfl, _⟩
  · conv => whnf
    repeat (refine SeqP.go ?_; conv => whnf)
    exact finP_one rfl rfl ⟨q, hb, pl, hg⟩
  · conv => whnf
    repeat (refine SeqP.go ?_; conv => whnf)
    exact finP_one rfl rfl ⟨q, hb, pl, hg⟩
theorem idxA_val' {n s r o : Nat} {j : Int} {h : Hp} (hj : 0 ≤ j ∧ j < (n : Int)) : hval h (idxAV n s (ptr r o) (int j)) = .val (ptr r (offAt o j.toNat s)) h := by
  unfold idxAV
  dsimp only [ptr]
  rw [idxN_ok (n := n) (j := j) hj, offAt_eq]
  simp [hval, ptr]
theorem finP_three {φ : Rx.Frame} {h : Hp} {a b c : Nat} {x y z : Value} {Q : Value → Hp → Prop} (ha : φ a = x) (hb : φ b = y) (hc : φ c = z) (ux : isUndef x = false) (uy : isUndef y = false) (uz : isUndef z = false) (q : Q (.tuple ⟨[x, y, z]⟩) h) : finP E [.tmp a, .tmp b, .tmp c] ⟨φ, h, []⟩ Q := by
  unfold finP
  dsimp only
  rw [show takeMarksφ [] h = some h from rfl]
  dsimp only
  rw [show resultsφ E φ h [.tmp a, .tmp b, .tmp c] = some [x, y, z] from by unfold resultsφ resultφ resultsφ resultφ resultsφ resultφ; dsimp only; rw [ha, hb, hc, ux, uy, uz]; rfl]
  exact q
theorem sameV_ptr (a b : Nat) : sameV 4 (ptr a b) (ptr a b) = true := by simp [sameV, ptr]
theorem IsTab.at_ {C : CostF} {n : Nat} {T : Tab} (h : IsTab C n T) : ∀ a b, a < b → b ≤ n → ∃ g : Nat, a ≤ g ∧ g < b ∧ (T a b).2 = (g : Int) := by
  intro a b hab hb
  obtain ⟨g, h1, h2, e⟩ := (h.1 a b hab hb).1.at_nonneg (by omega)
  exact ⟨g, h1, by omega, by rw [e]⟩
theorem IsTab.cost {C : CostF} {n : Nat} {T : Tab} (h : IsTab C n T) {a b : Nat} (hab : a ≤ b) (hb : b ≤ n) : Bd (b - a) (T a b).1 := by
  by_cases e : a = b
  · subst e
    rw [h.2 a]
    unfold Bd K
    omega
  · exact (h.1 a b (by omega) hb).2
theorem Worst_spec (cs : List Int) (hcs : ∀ x ∈ cs, 1 ≤ x ∧ x ≤ 1000) (hl : cs.length ≤ 12) (v : Value) (h : Hp) (hv : Ints h v cs) : CallP E 20 [v] h (fun r h' => ∃ T x q, IsTab (worstC cs) cs.length T ∧ r = .tuple ⟨[int (T 0 cs.length).1, x, int 0]⟩ ∧ Built h h' 3 x q ∧ TPl T 0 cs.length q ∧ Grows h h') := by
  obtain ⟨av, cp, rfl, hcell⟩ := id hv
  refine enter20 (by simp) ?_
  conv => whnf
  refine SeqP.go ?_
  conv => whnf
  refine SeqP.go ?_
  conv => whnf
  refine SeqP.go ?_
  conv => whnf
  refine CallP.mono (check_spec _ cs h hv (by omega)) ?_
  rintro r h1 ⟨rfl, e, rfl, he, _⟩
  obtain rfl := he ⟨hl, hcs⟩
  conv => whnf
  repeat (refine SeqP.go ?_; conv => whnf)
  refine cmpF (by omega) ?_
  conv => whnf
  repeat (refine SeqP.go ?_; conv => whnf)
  refine CallP.mono (worst_spec cs hcs hl _ h1 hv) ?_
  rintro r h2 ⟨T, hT, rfl, g2⟩
  conv => whnf
  refine ⟨tabV_len T, _, storeAt_all (by rw [tabV_len]; rfl) (tabV_one T) (over_full (by rw [tabV_len]; rfl)), ?_⟩
  conv => whnf
  repeat (refine SeqP.go ?_; conv => whnf)
  have atc : (h2.lay (.row 88 true (tabV T))).at h2.next = some (.row 88 true (tabV T)) := Hp.at_lay_self _ _
  refine ⟨⟨by omega, by omega⟩, ?_⟩
  conv => whnf
  refine ⟨⟨by omega, by omega⟩, ?_⟩
  conv => whnf
  refine ⟨int (T 0 cs.length).1, cellAt_row atc (tab_cost' T (a := 0) (b := cs.length) (by omega) (by omega) (by rw [offAt_eq, offAt_eq]; simp)), ?_⟩
  conv => whnf
  refine ⟨tabV T, tab_cells atc, ?_⟩
  conv => whnf
  refine CallP.mono (tplan_spec cs.length hl T hT.at_ _) ?_
  rintro x h3 ⟨q, hq, hp, g3⟩
  have at3 := g3.at_ _ _ atc
  have g13 := (g2.then_lay (.row 88 true (tabV T))).trans g3
  conv => whnf
  refine ⟨?_, ?_⟩
  · repeat' (first | exact True.intro | (refine And.intro ?_ ?_ <;> (conv => whnf)))
    all_goals first
      | exact sameAt_val (h2 := _) rfl (sameV_int _)
      | exact sameAt_val (h2 := _) rfl (sameV_ptr _ _)
      | exact sameAt_val (h2 := _) (show hval _ (idxAV 13 26 (ptr h2.next 0) (int 0)) = _ from idxA_val' ⟨by omega, by omega⟩) (sameV_ptr _ _)
      | exact sameAt_val (h2 := _) (show hval _ (idxAV 13 2 (ptr h2.next (offAt 0 (Int.toNat 0) 26)) (int cs.length)) = _ from idxA_val' ⟨by omega, by omega⟩) (sameV_ptr _ _)
      | exact sameAt_val (h2 := _) (congrArg (hval _) (cellAt_row atc (tab_cost' T (a := 0) (b := cs.length) (by omega) (by omega) (by rw [offAt_eq, offAt_eq]; simp)))) (sameV_int _)
      | exact sameAt_val (h2 := _) (congrArg (hval _) (cellAt_row at3 (tab_cost' T (a := 0) (b := cs.length) (by omega) (by omega) (by rw [offAt_eq, offAt_eq]; simp)))) (sameV_int _)
  have hq' := hq.back (h1 := h1) (by have := g2.next; simp only [Hp.next_lay]; omega)
  have hq2 := hq'
  rcases hq2 with ⟨rfl, e⟩ | ⟨rr, rfl, _⟩
  · conv => whnf
    repeat (refine SeqP.go ?_; conv => whnf)
    exact finP_three rfl rfl rfl rfl rfl rfl ⟨T, _, q, hT, rfl, hq', hp, g13⟩
  · conv => whnf
    repeat (refine SeqP.go ?_; conv => whnf)
    exact finP_three rfl rfl rfl rfl rfl rfl ⟨T, _, q, hT, rfl, hq', hp, g13⟩
end
end Go.Proofs.Yticmdpcahpimhaa
