/- Contracts of the functions that SJorZ comes to. -/
import Derived.Test.YticmdpcahpimhaaSJorM
import Derived.Test.YticmdpcahpimhaaSLkM
import Derived.Test.YticmdpcahpimhaaSAwake
import Derived.Test.YticmdpcahpimhaaWx11
set_option maxRecDepth 100000
set_option maxHeartbeats 1000000
set_option linter.unusedVariables false
set_option linter.unusedSectionVars false
set_option linter.unusedSimpArgs false
namespace Go.Proofs.Yticmdpcahpimhaa
open Go.Rx Go.RowKit Go.Comp
attribute [local irreducible] E idxN cellAt cellsAt storeAt callable helems hmoved lookIn findKey keyOk hentries Hp.at Hp.set Hp.lay arBits hupdated setAt CallP YieldP BoolOf IsWrap Rnd LoopP AppP CutP Int.tmod Int.tdiv Int.fdiv
section
variable [Unknowns]
attribute [local irreducible] ResP sameAt natI tv Z bestM mS
theorem jordan_law (n0 : Int) (hn0 : -9223372036854775808 ≤ n0 ∧ n0 < 9223372036854775808) (v0 : Value) (l : List Int) (hl : l.length ≤ maxLen) (hl' : ∀ n ∈ l, -9223372036854775808 ≤ n ∧ n < 9223372036854775808) :
    ∀ h vs, AllIs h vs [.i n0, .s v0 l] → CallP E 12 vs h (fun r _ => r = .bool true) := by
  have hmax : maxLen < 9223372036854775808 := by decide
  intro h vs hvs
  match vs, hvs with
  | [a0, a1], hvs =>
  obtain ⟨rfl, k0, -⟩ := hvs
  refine enter12 (by simp) ?_
  conv => whnf
  refine SeqP.go ?_
  conv => whnf
  refine SeqP.cut (α := Nat × List (Int × Int) × Value × (Nat → Nat)) (fun s => [(5, s.2.2.1), (0, int s.1)]) (fun s H => 1 ≤ s.1 ∧ s.1 ≤ 10 ∧ TreeP s.1 s.2.1 ∧ s.2.1.length ≤ 10 ∧ PairsV H s.2.2.1 s.2.1 ∧ Par s.1 s.2.2.2 s.2.1 ∧ BuiltC h H 81 2 s.2.2.1 s.2.1.length ((flat s.2.1).map int)) ?_ ?_
  · conv => whnf
    refine CallP.mono (lawtree_spec2 n0 l a1 h k0.ints (by omega)) ?_
    rintro r h1 ⟨⟨n, P, w, par, rfl, hn1, hn2, hT, hPl, hw, hpp, hwb⟩, hg1⟩
    conv => whnf
    exact ⟨(n, P, w, par), ⟨rfl, rfl, trivial⟩, ⟨hn1, hn2, hT, hPl, hw, hpp, hwb⟩, rfl⟩
  rintro ⟨n, P, w, par⟩ φ1 h1 ⟨hn1, hn2, hT, hPl, hw, hpp, hwb⟩
  dsimp only at hn1 hn2 hT hPl hw hpp hwb ⊢
  have hS : 2 ^ n - 1 < 2 ^ n := by have := Nat.two_pow_pos n; omega
  have hc1 : 1 ≤ cnt n (2 ^ n - 1) := cnt_pos (v := 0) (by rw [all_bit, decide_eq_true (by omega)]) n hn1
  have hlb := bestM_len P n
  have hbb := bestM_bd P n
  have htop := bestM_top P hn1
  have hok := bestM_ok P hn1 hn2
  have hpow := looks_pow hpp.up (cnt n (2 ^ n - 1)) (2 ^ n - 1) (Nat.le_refl _) hS hT.conn.1 hc1
  have hcn := cnt_le n (2 ^ n - 1)
  have hlb0 := B_bd (adj P) n _ (2 ^ n - 1) (Nat.le_refl _)
  have hmid := middle_half hn1 hn2 hpp hT
  have hmore := fun hlt : n + 1 ≤ 10 => And.intro (more_tree hn1 hlt hpp hT) (looks_more hn1 hpp hT)
  have hexx : ∃ x : Nat, (B (adj P) n (2 ^ n - 1)).1 = (x : Int) := ⟨(B (adj P) n (2 ^ n - 1)).1.toNat, by omega⟩
  obtain ⟨lk, elk⟩ := hexx
  rw [elk] at htop hpow hlb0
  rw [Int.toNat_natCast] at hpow
  have hpow' : 2 ^ lk ≤ n := by omega
  have hlk10 : lk ≤ 10 := by omega
  conv => whnf
  refine SeqP.cut (α := Unit) (fun _ => [(6, int lk), (7, int 0), (5, w), (0, int n)]) (fun _ H => Grows h1 H) ?_ ?_
  · conv => whnf
    refine CallP.mono (Looks_spec n P (by omega) hT w h1 hw) ?_
    rintro r h2 ⟨rfl, hg2⟩
    rw [elk]
    conv => whnf
    exact ⟨(), ⟨rfl, rfl, rfl, rfl, trivial⟩, hg2, rfl⟩
  rintro _ φ2 h2 hg2
  conv => whnf
  refine SeqP.cut (α := Value × Hp) (fun s => [(8, s.1), (9, int 0), (6, int lk), (7, int 0), (5, w), (0, int n)]) (fun s H => s.2 = H ∧ Ints s.2 s.1 (bestM P n) ∧ Grows h1 s.2) ?_ ?_
  · conv => whnf
    refine CallP.mono (Marks_spec n P (by omega) hT w h2 (hw.ext hg2)) ?_
    rintro r h3 ⟨⟨v, rfl, hb⟩, hg3⟩
    conv => whnf
    exact ⟨(v, h3), ⟨rfl, rfl, rfl, rfl, rfl, rfl, trivial⟩, ⟨rfl, hb.ints, hg2.trans hg3⟩, rfl⟩
  rintro ⟨v, h3⟩ φ3 _ ⟨rfl, hv, hg3⟩
  dsimp only at hv hg3 ⊢
  conv => whnf
  refine SeqP.cut (α := Hp) (fun s => [(10, .bool true), (11, int 0), (8, v), (9, int 0), (6, int lk), (7, int 0), (5, w), (0, int n)]) (fun s H => s = H ∧ Grows h3 s) ?_ ?_
  · conv => whnf
    refine CallP.mono (arem_spec n P (by omega) hT (bestM P n) w v h3 (hw.ext hg3) hv (by omega)) ?_
    rintro r h4 ⟨⟨b, rfl, hb⟩, hg4⟩
    have e : b = true := hb.of_t hok
    subst e
    conv => whnf
    exact ⟨h4, ⟨rfl, rfl, rfl, rfl, rfl, rfl, rfl, rfl, trivial⟩, ⟨rfl, hg4⟩, rfl⟩
  rintro h4 φ4 _ ⟨rfl, hg4⟩
  have hexm : ∃ z, mS n (midC P n) n = z := ⟨_, rfl⟩
  obtain ⟨z, ez⟩ := hexm
  conv => whnf
  refine SeqP.cut (α := Hp) (fun s => [(12, int z.2), (13, int z.1), (14, int 0), (10, .bool true), (11, int 0), (8, v), (9, int 0), (6, int lk), (7, int 0), (5, w), (0, int n)]) (fun s H => s = H ∧ Grows h4 s) ?_ ?_
  · conv => whnf
    refine CallP.mono (Middle_spec n P (by omega) hT w h4 (hw.ext (hg3.trans hg4))) ?_
    rintro r h5 ⟨rfl, hg5⟩
    rw [ez]
    conv => whnf
    exact ⟨h5, ⟨rfl, rfl, rfl, rfl, rfl, rfl, rfl, rfl, rfl, rfl, rfl, trivial⟩, ⟨rfl, hg5⟩, rfl⟩
  rintro h5 φ5 _ ⟨rfl, hg5⟩
  rw [ez] at hmid
  have hg35 := hg4.trans hg5
  have hvi := hv.ext hg35
  obtain ⟨av, cv, rfl, hcell⟩ := hvi
  conv => whnf
  refine SeqP.cut (α := Unit) (fun s => [(8, .slice av (bestM P n).length cv), (6, int lk), (5, w), (0, int n)]) (fun _ H => h5 = H) ?_ ?_
  · conv => whnf
    repeat (refine SeqP.go ?_; conv => whnf)
    refine cmpF (by omega) ?_
    conv => whnf
    refine cmpF (by omega) ?_
    conv => whnf
    refine cmpF (by omega) ?_
    conv => whnf
    refine cmpF (by omega) ?_
    conv => whnf
    refine cmpF (by omega) ?_
    conv => whnf
    refine cmpF (by omega) ?_
    conv => whnf
    refine cmpF (by omega) ?_
    conv => whnf
    refine ⟨by omega, ((2 ^ lk : Nat) : Int), shl_one (by omega), ?_⟩
    conv => whnf
    refine cmpF (by omega) ?_
    conv => whnf
    refine cmpF (by omega) ?_
    conv => whnf
    refine cmpF (by omega) ?_
    conv => whnf
    refine cmpF (by omega) ?_
    conv => whnf
    refine ⟨2 * z.1, wie rfl (by omega), ?_⟩
    conv => whnf
    refine cmpF (by omega) ?_
    conv => whnf
    repeat (refine SeqP.go ?_; conv => whnf)
    exact ⟨(), ⟨rfl, rfl, rfl, rfl, trivial⟩, rfl, rfl⟩
  rintro _ φ6 _ rfl
  conv => whnf
  refine SeqP.go ?_
  conv => whnf
  refine SeqP.cut (α := Unit) (fun s => [(15, int lk), (6, int lk), (5, w), (0, int n)]) (fun _ H => h5 = H) ?_ ?_
  · conv => whnf
    repeat (refine SeqP.go ?_; conv => whnf)
    refine loop_inv (α := Nat × Int) (fun s => [(16, int s.1), (15, int s.2), (8, .slice av (bestM P n).length cv), (6, int lk), (5, w), (0, int n)]) (fun _ => h5) (fun s => s.1 ≤ n ∧ s.2 ≤ lk ∧ (∀ x ∈ (bestM P n).take s.1, x ≤ s.2) ∧ 0 ≤ s.2) (fun s => n - s.1) (0, 0) ⟨Nat.zero_le _, by show (0 : Int) ≤ lk; omega, by simp, Int.le_refl _⟩ ⟨rfl, rfl, rfl, rfl, rfl, rfl, trivial⟩ (Hp.Le.refl _) ?_
    rintro ⟨i, cur⟩ φ7 ⟨hi, hc, hall, hc0⟩
    dsimp only at hi hc hall hc0 ⊢
    conv => whnf
    repeat (refine SeqP.go ?_; conv => whnf)
    refine cmpB (fun hb => ?_) (fun hb => ?_)
    rotate_left
    · have : i = n := by omega
      subst this
      rw [List.take_of_length_le (by omega)] at hall
      have := hall _ htop.2
      have e : cur = lk := by omega
      subst e
      conv => whnf
      repeat (refine SeqP.go ?_; conv => whnf)
      exact ⟨(), ⟨rfl, rfl, rfl, rfl, trivial⟩, rfl, rfl⟩
    have hi' : i < (bestM P n).length := by omega
    have hx := htop.1 _ (List.getElem_mem hi')
    have hc := hcell i hi'
    obtain ⟨r, o, sp, ea, hsp, hvl⟩ := hc
    subst ea
    conv => whnf
    repeat (refine SeqP.go ?_; conv => whnf)
    refine ⟨hsp, ⟨by omega, by omega⟩, ?_⟩
    conv => whnf
    refine ⟨int (bestM P n)[i], by rw [offAt_eq, Nat.add_comm]; simpa using hvl, ?_⟩
    conv => whnf
    refine resP_val (v := int (max cur (bestM P n)[i])) (h := h5) ?_ ?_
    · conv => lhs; whnf
      exact congrArg (HRes.val · _) (max_eq3 cur (bestM P n)[i])
    conv => whnf
    refine ⟨((i + 1 : Nat) : Int), wie (by omega) (by omega), ?_⟩
    conv => whnf
    refine Rnd.mk (i + 1, max cur (bestM P n)[i]) ⟨by show i + 1 ≤ n; omega, by show max cur (bestM P n)[i] ≤ lk; omega, ?_, by show 0 ≤ max cur (bestM P n)[i]; omega⟩ (by show n - (i + 1) < n - i; omega) ⟨rfl, rfl, rfl, rfl, rfl, rfl, trivial⟩ (Hp.Le.refl _) rfl
    intro x hx2
    show x ≤ max cur (bestM P n)[i]
    rw [List.take_succ_eq_append_getElem hi'] at hx2
    rcases List.mem_append.1 hx2 with h1 | h1
    · have := hall x h1; omega
    · have := List.mem_singleton.1 h1; omega
  rintro _ φ8 _ rfl
  conv => whnf
  refine SeqP.cut (α := Unit) (fun s => [(15, int lk), (6, int lk)]) (fun _ _ => True) ?_ ?_
  rotate_left
  · rintro _ φ9 h9 -
    conv => whnf
    repeat (refine SeqP.go ?_; conv => whnf)
    refine cmpT rfl ?_
    conv => whnf
    refine memo27 ?_
    conv => whnf
    rfl
  have hg15 := hg3.trans hg35
  have hwb5 := hwb.ext hg15
  have hone : ∀ e : List Value, e = (flat P).map int → e.all oneCell = true := fun e he => by rw [he]; exact ints_one _
  have lit : ∀ (h1 : Hp) (x y : Int), ElemsC (h1.lay (.row 81 true [int x, int y])) 2 (slc h1.next 0 1 1) 1 ((flat [(x, y)]).map int) := fun h1 x y => BuiltC.elems (h0 := h1) (e := 81) rfl ⟨rfl, .inr ⟨h1.next, rfl, Nat.le_refl _, true, Hp.at_lay_self _ _⟩⟩
  conv => whnf
  repeat (refine SeqP.go ?_; conv => whnf)
  refine cmpB (fun hb2 => ?_) (fun hb2 => ?_)
  rotate_left
  · conv => whnf
    repeat (refine SeqP.go ?_; conv => whnf)
    exact ⟨(), ⟨rfl, rfl, trivial⟩, trivial, rfl⟩
  conv => whnf
  refine SeqP.go ?_
  conv => whnf
  refine SeqP.cut (α := Value) (fun s => [(17, s), (15, int lk), (6, int lk), (0, int n)]) (fun s H => BuiltC h5 H 81 2 s P.length ((flat P).map int) ∧ Grows h5 H) ?_ ?_
  · conv => whnf
    refine AppP.cells (h0 := h5) BuiltC.nil (.refl _) (hwb5.elems (hone _ rfl)) (by omega) (by omega) ?_
    intro w2 h6 hb6 hg6 _
    rw [Nat.zero_add, List.nil_append] at hb6
    conv => whnf
    exact ⟨w2, ⟨rfl, rfl, rfl, rfl, trivial⟩, ⟨hb6, hg6⟩, rfl⟩
  rintro w2 φ10 h6 ⟨hb6, hg6⟩
  conv => whnf
  refine SeqP.cut (α := Value) (fun s => [(17, s), (15, int lk), (6, int lk), (0, int n)]) (fun s H => PairsV H s (P ++ [(((n - 1 : Nat) : Int), (n : Int))])) ?_ ?_
  · conv => whnf
    refine ⟨((n - 1 : Nat) : Int), wie (by omega) (by omega), ?_⟩
    conv => whnf
    refine AppP.cells (h0 := h5) (hb6.ext (Grows.lay _ _)) (hg6.then_lay _) (lit _ _ _) (by omega) (by omega) ?_
    intro w3 h7 hb7 hg7 _
    conv => whnf
    refine ⟨w3, ⟨rfl, rfl, rfl, rfl, trivial⟩, ?_, rfl⟩
    have e2 : (flat P).map int ++ (flat [(((n - 1 : Nat) : Int), (n : Int))]).map int = (flat (P ++ [(((n - 1 : Nat) : Int), (n : Int))])).map int := by rw [flat_app, List.map_append]
    rw [e2] at hb7
    refine BuiltC.pairs (h0 := h5) (e := 81) ?_
    rw [List.length_append]
    exact hb7
  rintro w3 φ11 h7 hw3
  conv => whnf
  repeat (refine SeqP.go ?_; conv => whnf)
  refine cmpB (fun hb3 => ?_) (fun hb3 => ?_)
  rotate_left
  · conv => whnf
    repeat (refine SeqP.go ?_; conv => whnf)
    exact ⟨(), ⟨rfl, rfl, trivial⟩, trivial, rfl⟩
  obtain ⟨hT', hm1, hm2⟩ := hmore (by omega)
  rw [elk] at hm1 hm2
  have hexb : ∃ x, (B (adj (P ++ [(((n - 1 : Nat) : Int), (n : Int))])) (n + 1) (2 ^ (n + 1) - 1)).1 = x := ⟨_, rfl⟩
  obtain ⟨lb, elb⟩ := hexb
  rw [elb] at hm1 hm2
  conv => whnf
  refine SeqP.cut (α := Unit) (fun s => [(18, int lb), (19, int 0), (15, int lk), (6, int lk), (0, int n)]) (fun _ _ => True) ?_ ?_
  · conv => whnf
    refine ⟨((n + 1 : Nat) : Int), wie (by omega) (by omega), ?_⟩
    conv => whnf
    refine CallP.mono (Looks_spec (n + 1) _ (by rw [List.length_append, List.length_singleton]; omega) hT' w3 h7 hw3) ?_
    rintro r h8 ⟨rfl, hg8⟩
    rw [elb]
    conv => whnf
    exact ⟨(), ⟨rfl, rfl, rfl, rfl, rfl, trivial⟩, trivial, rfl⟩
  rintro _ φ12 h8 -
  conv => whnf
  repeat (refine SeqP.go ?_; conv => whnf)
  refine cmpF (by omega) ?_
  conv => whnf
  refine cmpF (by omega) ?_
  conv => whnf
  refine ⟨(lk : Int) + 1, wie rfl (by omega), ?_⟩
  conv => whnf
  refine cmpF (by omega) ?_
  conv => whnf
  repeat (refine SeqP.go ?_; conv => whnf)
  exact ⟨(), ⟨rfl, rfl, trivial⟩, trivial, rfl⟩
end
end Go.Proofs.Yticmdpcahpimhaa
