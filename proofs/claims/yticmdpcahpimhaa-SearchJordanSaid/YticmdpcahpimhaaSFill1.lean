/- Contracts of the functions that SJorZ comes to. -/
import Derived.Test.YticmdpcahpimhaaCodeSJorZ
import Derived.Test.YticmdpcahpimhaaWx24
set_option maxRecDepth 100000
set_option maxHeartbeats 1000000
set_option linter.unusedVariables false
set_option linter.unusedSectionVars false
set_option linter.unusedSimpArgs false
namespace Go.Proofs.Yticmdpcahpimhaa
open Go.Rx Go.RowKit
theorem ty85 : ∃ i, E.ty 85 = some i ∧ i.agg = true ∧ i.size = 2 := by
  have hs : (tiOf Try.prog 85).isSome = true := by kernel_rfl
  refine ⟨(tiOf Try.prog 85).get hs, ty_get (by kernel_rfl) (Option.some_get hs).symm, ?_, ?_⟩
  · kernel_rfl
  · kernel_rfl
theorem sameV_pair (x y : Int) : sameV 4 (.agg ⟨[int x, int y]⟩) (.agg ⟨[int x, int y]⟩) = true := by
  have q : ∀ n : Int, eqI n n = true := fun n => by unfold eqI; cases n <;> simp
  simp [sameV, sameL, q]
/-- The price of a choice, as a function. -/
def priceF : Value := .func (.func 88) ⟨[]⟩ ⟨[]⟩
def pairV (x : Int × Int) : Value := .agg ⟨[int x.1, int x.2]⟩
def betterOf (x y : Int × Int) : Int × Int := if y.1 < x.1 then y else x
attribute [local irreducible] E idxN cellAt cellsAt storeAt callable helems hmoved lookIn findKey keyOk hentries Hp.at Hp.set Hp.lay arBits hupdated setAt CallP YieldP BoolOf IsWrap Rnd LoopP AppP CutP Int.tmod Int.tdiv Int.fdiv
section
variable [Unknowns]
attribute [local irreducible] ResP sameAt finP
theorem fin_pair {φ : Rx.Frame} {H : Hp} {c6 : Nat} {x : Bool} {p : Int × Int} {Q : Value → Hp → Prop} (hφ : φ 6 = ptr c6 0) (hat : H.at c6 = some (.row 85 x [int p.1, int p.2])) (q : Q (pairV p) H) : finP E [.cell 6 85] ⟨φ, H, []⟩ Q := by
  obtain ⟨i, hi, hag, hsz⟩ := ty85
  refine leave_cell hφ hi hag ?_ q
  rw [hsz, cellsAt_row hat (by simp)]
  rfl
theorem price_spec (a b : Int) (h : Hp) : CallP E 88 [.agg ⟨[int a, int b]⟩] h (fun r h' => r = int a ∧ Grows h h') := by
  refine enter88 (by simp) ?_
  conv => whnf
  repeat (refine SeqP.go ?_; conv => whnf)
  refine ⟨int a, cellAt_row (Hp.at_lay_self _ _) rfl, ?_⟩
  conv => whnf
  repeat (refine SeqP.go ?_; conv => whnf)
  exact finP_one rfl rfl ⟨rfl, Grows.lay _ _⟩
theorem better_spec (x y : Int × Int) (h : Hp) : CallP E 87 [pairV x, pairV y, priceF] h (fun r h' => r = pairV (betterOf x y) ∧ Grows h h') := by
  obtain ⟨a, b⟩ := x
  obtain ⟨c, d⟩ := y
  have e3 : (((h.lay (.row 85 true [int a, int b])).lay (.row 85 true [int c, int d])).lay (.row 85 true [int 0, int 0])).at h.next = some (.row 85 true [int a, int b]) := Hp.at_lay_old _ (Hp.at_lay_old _ (Hp.at_lay_self _ _))
  have e4 : (((h.lay (.row 85 true [int a, int b])).lay (.row 85 true [int c, int d])).lay (.row 85 true [int 0, int 0])).at (h.lay (.row 85 true [int a, int b])).next = some (.row 85 true [int c, int d]) := Hp.at_lay_old _ (Hp.at_lay_self _ _)
  have e6 : (((h.lay (.row 85 true [int a, int b])).lay (.row 85 true [int c, int d])).lay (.row 85 true [int 0, int 0])).at ((h.lay (.row 85 true [int a, int b])).lay (.row 85 true [int c, int d])).next = some (.row 85 true [int 0, int 0]) := Hp.at_lay_self _ _
  have g0 : Grows h (((h.lay (.row 85 true [int a, int b])).lay (.row 85 true [int c, int d])).lay (.row 85 true [int 0, int 0])) := ((Grows.lay _ _).then_lay _).then_lay _
  have two : ∀ (H : Hp) (r : Nat) (p q : Int), H.at r = some (.row 85 true [int p, int q]) → cellsAt H r 0 2 = some [int p, int q] := fun H r p q hr => by rw [cellsAt_row hr (by simp)]; rfl
  unfold pairV priceF
  refine enter87 (by simp) ?_
  conv => whnf
  refine SeqP.go ?_
  conv => whnf
  refine SeqP.go ?_
  conv => whnf
  refine SeqP.go ?_
  conv => whnf
  refine ⟨[int c, int d], two _ _ _ _ e4, ?_⟩
  conv => whnf
  refine ⟨can88, ?_⟩
  refine CallP.mono (price_spec c d _) ?_
  rintro r h1 ⟨rfl, g1⟩
  conv => whnf
  refine ⟨[int a, int b], two _ _ _ _ (g1.at_ _ _ e3), ?_⟩
  conv => whnf
  refine ⟨can88, ?_⟩
  refine CallP.mono (price_spec a b _) ?_
  rintro r h2 ⟨rfl, g2⟩
  have g12 := g1.trans g2
  have okl : ∀ (H : Hp) (r : Nat) (p q : Int), H.at r = some (.row 85 true [int p, int q]) → hval H (aggOf (cellsAt H r 0 2)) = .val (.agg ⟨[int p, int q]⟩) H := fun H r p q hr => by rw [two H r p q hr]; rfl
  conv => whnf
  refine cmpB (fun hb => ?_) (fun hb => ?_)
  · conv => whnf
    refine ⟨?_, ?_⟩
    · repeat' (first | exact True.intro | (refine And.intro ?_ ?_ <;> (conv => whnf)))
      all_goals first
        | exact sameAt_val (h2 := _) rfl (sameV_int _)
        | exact sameAt_val (h2 := _) rfl (show sameV 4 priceF priceF = true by decide)
        | exact sameAt_val (h2 := h1) (okl h1 _ _ _ (g1.at_ _ _ e3)) (sameV_pair _ _)
        | exact sameAt_val (h2 := h1) (okl h1 _ _ _ (g1.at_ _ _ e4)) (sameV_pair _ _)
        | exact sameAt_val (h2 := _) (okl _ _ _ _ e3) (sameV_pair _ _)
        | exact sameAt_val (h2 := _) (okl _ _ _ _ e4) (sameV_pair _ _)
        | exact sameAt_val (h2 := h2) (okl h2 _ _ _ (g12.at_ _ _ e3)) (sameV_pair _ _)
        | exact sameAt_val (h2 := h2) (okl h2 _ _ _ (g12.at_ _ _ e4)) (sameV_pair _ _)
    conv => whnf
    refine SeqP.go ?_
    conv => whnf
    refine ⟨[int c, int d], two _ _ _ _ (g12.at_ _ _ e4), ?_⟩
    conv => whnf
    refine ⟨rfl, _, storeAt_full (vs := [int c, int d]) (g12.at_ _ _ e6) rfl rfl rfl, ?_⟩
    conv => whnf
    refine fin_pair (p := (c, d)) rfl (Hp.at_set_self _ (Hp.lt_of_at (g12.at_ _ _ e6))) ⟨?_, (g0.trans g12).then_set _ (by simp only [Hp.next_lay]; omega)⟩
    unfold betterOf
    rw [if_pos hb]
    rfl
  · conv => whnf
    refine ⟨?_, ?_⟩
    · repeat' (first | exact True.intro | (refine And.intro ?_ ?_ <;> (conv => whnf)))
      all_goals first
        | exact sameAt_val (h2 := _) rfl (sameV_int _)
        | exact sameAt_val (h2 := _) rfl (show sameV 4 priceF priceF = true by decide)
        | exact sameAt_val (h2 := h1) (okl h1 _ _ _ (g1.at_ _ _ e3)) (sameV_pair _ _)
        | exact sameAt_val (h2 := h1) (okl h1 _ _ _ (g1.at_ _ _ e4)) (sameV_pair _ _)
        | exact sameAt_val (h2 := _) (okl _ _ _ _ e3) (sameV_pair _ _)
        | exact sameAt_val (h2 := _) (okl _ _ _ _ e4) (sameV_pair _ _)
        | exact sameAt_val (h2 := h2) (okl h2 _ _ _ (g12.at_ _ _ e3)) (sameV_pair _ _)
        | exact sameAt_val (h2 := h2) (okl h2 _ _ _ (g12.at_ _ _ e4)) (sameV_pair _ _)
    conv => whnf
    refine SeqP.go ?_
    conv => whnf
    refine ⟨[int a, int b], two _ _ _ _ (g12.at_ _ _ e3), ?_⟩
    conv => whnf
    refine ⟨rfl, _, storeAt_full (vs := [int a, int b]) (g12.at_ _ _ e6) rfl rfl rfl, ?_⟩
    conv => whnf
    refine fin_pair (p := (a, b)) rfl (Hp.at_set_self _ (Hp.lt_of_at (g12.at_ _ _ e6))) ⟨?_, (g0.trans g12).then_set _ (by simp only [Hp.next_lay]; omega)⟩
    unfold betterOf
    rw [if_neg hb]
    rfl
theorem gates_spec (a b : Int) (h : Hp) : CallP E 92 [.agg ⟨[int a, int b]⟩] h (fun r h' => r = .func (.func 95) ⟨[]⟩ ⟨[ptr h.next 0]⟩ ∧ h' = h.lay (.row 115 true [int a, int b])) := by
  refine enter92 (by simp) ?_
  conv => whnf
  repeat (refine SeqP.go ?_; conv => whnf)
  exact finP_one rfl rfl ⟨rfl, rfl⟩
end
section
variable [Unknowns]
attribute [local irreducible] ResP sameAt
/-- The gates between, one after another. -/
def gv (g : Nat) : List Value := [int g]
theorem gates_iter (a b : Nat) (hb : b ≤ 1000000) (hab : a ≤ b) (c l : Nat) (I : Nat → Hp → Prop) (S : Hp → Prop) (h : Hp) (hJ : ∀ k h, I k h → h.at c = some (.row 115 true [int a, int b])) (h0 : I 0 h) (hit : IterP E l ((List.range' a (b - a)).map gv) I S) : CallP E 95 [yieldVal l, ptr c 0] h (fun _ h' => I ((List.range' a (b - a)).map gv).length h' ∨ S h') := by
  have hlen : ((List.range' a (b - a)).map gv).length = b - a := by simp
  rw [hlen]
  have yld : ∀ (k : Nat) (h : Hp), k < b - a → I k h → YieldP E l [int (a + k : Nat)] h fun v h' => (v = .bool true ∧ I (k + 1) h') ∨ (v = .bool false ∧ S h') := by
    intro k h hk hI
    have := hit k (by rw [hlen]; exact hk) h hI
    rw [List.getElem_map, List.getElem_range', Nat.one_mul] at this
    exact this
  refine enter95 (by simp) ?_
  conv => whnf
  refine SeqP.go ?_
  conv => whnf
  refine ⟨int a, cellAt_row (hJ 0 h h0) rfl, ?_⟩
  conv => whnf
  refine loop_inv (α := Nat × Hp) (fun s => [(3, int (a + s.1 : Nat)), (0, yieldVal l), (1, ptr c 0)]) (fun s => s.2) (fun s => s.1 ≤ b - a ∧ I s.1 s.2) (fun s => b - a - s.1) (0, h) ⟨Nat.zero_le _, h0⟩ ⟨rfl, rfl, rfl, trivial⟩ (Hp.Le.refl _) ?_
  rintro ⟨k, h1⟩ φ ⟨hk, hI⟩
  dsimp only at hk hI ⊢
  conv => whnf
  repeat (refine SeqP.go ?_; conv => whnf)
  refine ⟨int b, cellAt_row (hJ k h1 hI) rfl, ?_⟩
  conv => whnf
  refine cmpB (fun hb1 => ?_) (fun hb1 => ?_)
  rotate_left
  · have hkb : k = b - a := by omega
    conv => whnf
    repeat (refine SeqP.go ?_; conv => whnf)
    exact .inl (by rw [← hkb]; exact hI)
  conv => whnf
  repeat (refine SeqP.go ?_; conv => whnf)
  refine YieldP.mono (yld k h1 (by omega) hI) ?_
  rintro v h2 (⟨rfl, hI2⟩ | ⟨rfl, hS⟩)
  · conv => whnf
    refine ⟨((a + (k + 1) : Nat) : Int), wie (by omega) (by omega), ?_⟩
    conv => whnf
    exact Rnd.mk (k + 1, h2) ⟨by show k + 1 ≤ b - a; omega, hI2⟩ (by show b - a - (k + 1) < b - a - k; omega) ⟨rfl, rfl, rfl, trivial⟩ (Hp.Le.refl _) rfl
  · conv => whnf
    exact .inr hS
end
end Go.Proofs.Yticmdpcahpimhaa
