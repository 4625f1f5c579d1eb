/- Contracts of the functions that SKnuthM comes to. -/
import Derived.Test.YticmdpcahpimhaaSBestM
import Derived.Test.YticmdpcahpimhaaWx17
set_option maxRecDepth 100000
set_option maxHeartbeats 1000000
set_option linter.unusedVariables false
set_option linter.unusedSectionVars false
set_option linter.unusedSimpArgs false
namespace Go.Proofs.Yticmdpcahpimhaa
open Go.Rx Go.RowKit
/-- How many plans there are. -/
def catS (l : List Int) (g : Nat) : Nat → Int
  | 0 => 0
  | f + 1 => catS l g f + l.getD f 0 * l.getD (g - f) 0
def catL : Nat → List Int
  | 0 => [1]
  | g + 1 => catL g ++ [catS (catL g) g (g + 1)]
theorem catL_length : ∀ g, (catL g).length = g + 1
  | 0 => rfl
  | g + 1 => by show (catL g ++ [_]).length = _; rw [List.length_append, catL_length g]; rfl
def cat (n : Nat) : Int := (catL n).getD n 0
theorem cat_bd : ∀ g, g < 14 → ∀ f, f ≤ g + 1 → 0 ≤ catS (catL g) g f ∧ catS (catL g) g f ≤ 10000000 ∧ 0 ≤ (catL g).getD f 0 ∧ (catL g).getD f 0 ≤ 1000000 ∧ 0 ≤ (catL g).getD f 0 * (catL g).getD (g - f) 0 ∧ (catL g).getD f 0 * (catL g).getD (g - f) 0 ≤ 10000000 := by decide +kernel
theorem cat_step : ∀ n : Nat, n < 13 → ((n : Int) + 2) * cat (n + 1) = 2 * (2 * n + 1) * cat n ∧ 1 ≤ cat n ∧ cat n ≤ 1000000 ∧ 1 ≤ cat (n + 1) ∧ cat (n + 1) ≤ 1000000 := by decide +kernel
/-- Halvings. -/
def lg (m : Nat) : Nat := [0, 1, 2, 2, 3, 3, 3, 3, 4, 4, 4, 4, 4].getD m 0
theorem lg_min : ∀ m, m < 13 → 0 < m → (∀ j, j < m → lg m ≤ 1 + max (lg j) (lg (m - 1 - j))) ∧ ∃ j, j < m ∧ lg m = 1 + max (lg j) (lg (m - 1 - j)) := by
  have h : ∀ m, m < 13 → 0 < m → (∀ j, j < m → lg m ≤ 1 + max (lg j) (lg (m - 1 - j))) ∧ lg m = 1 + max (lg (m / 2)) (lg (m - 1 - m / 2)) := by decide +kernel
  intro m h1 h2
  exact ⟨(h m h1 h2).1, m / 2, by omega, (h m h1 h2).2⟩
theorem lg_pow : ∀ m, m < 13 → m + 1 ≤ 2 ^ lg m ∧ lg m ≤ 4 ∧ ∀ d, d < lg m → 2 ^ d < m + 1 := by decide +kernel
theorem lg_isMin (n : Nat) (hn : n ≤ 12) : IsMin (worstC (List.replicate n 1)) n (fun a b => (lg (b - a) : Int)) := by
  have hget : ∀ g, g < n → (List.replicate n (1 : Int))[g]?.getD 0 = 1 := fun g hg => by
    rw [List.getElem?_eq_getElem (by simpa using hg)]; simp
  refine ⟨fun a b hab hb => ?_, fun a _ => by show ((lg (a - a) : Nat) : Int) = 0; rw [Nat.sub_self]; rfl⟩
  obtain ⟨h1, j, h2, h3⟩ := lg_min (b - a) (by omega) (by omega)
  refine .inr ⟨by omega, ⟨a + j, by omega, by omega, ?_⟩, fun g g1 g2 => ?_⟩
  · show (lg (b - a) : Int) = (List.replicate n (1 : Int))[a + j]?.getD 0 + max (lg (a + j - a) : Int) (lg (b - (a + j + 1)) : Int)
    rw [hget (a + j) (by omega), show a + j - a = j by omega, show b - (a + j + 1) = b - a - 1 - j by omega]
    omega
  · show (lg (b - a) : Int) ≤ (List.replicate n (1 : Int))[g]?.getD 0 + max (lg (g - a) : Int) (lg (b - (g + 1)) : Int)
    have := h1 (g - a) (by omega)
    rw [hget g (by omega), show b - (g + 1) = b - a - 1 - (g - a) by omega]
    omega
theorem Sf_mono {f h : Nat → Int} {a : Nat} : ∀ {m : Nat}, (∀ i, a ≤ i → i < a + m → f i ≤ h i) → Sf f a m ≤ Sf h a m
  | 0, _ => Int.le_refl _
  | m + 1, k => by
    show Sf f a m + _ ≤ Sf h a m + _
    have h1 := Sf_mono (m := m) (fun i h1 h2 => k i h1 (by omega))
    have h2 := k (a + m) (by omega) (by omega)
    omega
theorem Sf_mul (u : Nat → Int) (c : Int) (a : Nat) : ∀ m, Sf (fun i => c * u i) a m = c * Sf u a m
  | 0 => by simp [Sf]
  | m + 1 => by
    show Sf _ a m + c * u (a + m) = c * (Sf u a m + u (a + m))
    rw [Sf_mul u c a m, Int.mul_add]
theorem IsTab.le {C : CostF} {n : Nat} {T : Tab} (h : IsTab C n T) {a b g : Nat} (h1 : a ≤ g) (h2 : g < b) (hb : b ≤ n) : (T a b).1 ≤ C a b g (T a g).1 (T (g + 1) b).1 := by
  rcases (h.1 a b (by omega) hb).1 with ⟨h0, _⟩ | ⟨_, g', k1, k2, k3, k4⟩
  · omega
  · rw [k3]
    exact (k4 g h1 (by omega)).1
/-- The table's value is not above any plan's price. -/
theorem pl_weigh (cs u : List Int) (hul : u.length = cs.length + 1) (T : Tab) (hT : IsTab (weighC cs u) cs.length T) : ∀ (k a b : Nat) (q : List Int), Pl a b q → b - a ≤ k → b ≤ cs.length →
    (T a b).1 ≤ Sf (fun i => ((ans k a q i).map (cost cs)).sum * u.getD i 0) a (b + 1 - a) := by
  have nil : ∀ k a m, Sf (fun i => ((ans k a [] i).map (cost cs)).sum * u.getD i 0) a m = 0 := by
    intro k a m
    induction m with
    | zero => rfl
    | succ m ih =>
      show Sf _ a m + _ = 0
      rw [ih]
      show 0 + ((ans k a [] (a + m)).map (cost cs)).sum * u.getD (a + m) 0 = 0
      rw [ans_nil]
      simp
  intro k
  induction k with
  | zero =>
    intro a b q hp hk hb
    cases hp with
    | nil => rw [hT.2 a, nil]; exact Int.le_refl _
    | node l1 l2 => omega
  | succ k ih =>
    intro a b q hp hk hb
    cases hp with
    | nil => rw [hT.2 a, nil]; exact Int.le_refl _
    | @node _ _ g q1 q2 l1 l2 p1 p2 =>
      have ev := hT.le l1 l2 hb
      have i1 := ih a g q1 p1 (by omega) (by omega)
      have i2 := ih (g + 1) b q2 p2 (by omega) hb
      have step : Sf (fun i => ((ans (k + 1) a ([(g : Int)] ++ q1 ++ q2) i).map (cost cs)).sum * u.getD i 0) a (b + 1 - a) = Sf (fun i => (cs[g]?.getD 0 + (if i ≤ g then ((ans k a q1 i).map (cost cs)).sum else ((ans k (g + 1) q2 i).map (cost cs)).sum)) * u.getD i 0) a (b + 1 - a) := by
        refine Sf_congr fun i _ _ => ?_
        rw [ans_node p1 p2, List.map_cons, List.sum_cons, cost_get]
        split <;> rfl
      rw [step, Sf_lin]
      unfold weighC at ev
      rw [partSum_Sf (by omega) (by omega)] at ev
      have sp : b + 1 - a = (g + 1 - a) + (b + 1 - (g + 1)) := by omega
      have s1 : Sf (fun i => (if i ≤ g then ((ans k a q1 i).map (cost cs)).sum else ((ans k (g + 1) q2 i).map (cost cs)).sum) * u.getD i 0) a (b + 1 - a) = Sf (fun i => ((ans k a q1 i).map (cost cs)).sum * u.getD i 0) a (g + 1 - a) + Sf (fun i => ((ans k (g + 1) q2 i).map (cost cs)).sum * u.getD i 0) (g + 1) (b + 1 - (g + 1)) := by
        rw [sp, Sf_add, show a + (g + 1 - a) = g + 1 by omega]
        congr 1
        · exact Sf_congr fun i h1 h2 => by rw [if_pos (by omega)]
        · exact Sf_congr fun i h1 h2 => by rw [if_neg (by omega)]
      rw [s1]
      omega
theorem weigh_le (cs u q : List Int) (hul : u.length = cs.length + 1) (hu : ∀ x ∈ u, 0 ≤ x ∧ x ≤ 1000) (T : Tab) (hT : IsTab (weighC cs u) cs.length T) (hq : Pl 0 cs.length q) (M : Int) (hM : ∀ x ∈ pricesOf cs q, x ≤ M) : (T 0 cs.length).1 ≤ u.sum * M := by
  have h1 := pl_weigh cs u hul T hT cs.length 0 cs.length q hq (by omega) (Nat.le_refl _)
  have h2 : u.sum = Sf (fun i => u.getD i 0) 0 (cs.length + 1) := by
    have := Sf_part u 0 (cs.length + 1) (by omega)
    rw [List.drop_zero, List.take_of_length_le (by omega)] at this
    exact this
  have h3 : Sf (fun i => ((ans cs.length 0 q i).map (cost cs)).sum * u.getD i 0) 0 (cs.length + 1 - 0) ≤ Sf (fun i => M * u.getD i 0) 0 (cs.length + 1 - 0) := by
    refine Sf_mono fun i _ hi => ?_
    have hi' : i < cs.length + 1 := by omega
    have ha := hM _ (List.mem_map.2 ⟨i, List.mem_range.2 hi', rfl⟩)
    have hb : 0 ≤ u.getD i 0 := by rw [getD_at (by omega)]; exact (hu _ (List.getElem_mem (by omega))).1
    exact Int.mul_le_mul_of_nonneg_right ha hb
  rw [Sf_mul, Nat.sub_zero, ← h2] at h3
  rw [Nat.sub_zero] at h1
  rw [Int.mul_comm]
  omega
theorem gate_le (cs q : List Int) (hl : cs.length ≤ 12) (hc : ∀ x ∈ cs, 1 ≤ x ∧ x ≤ 1000) (hq : Pl 0 cs.length q) (M : Int) (hM : ∀ x ∈ pricesOf cs q, x ≤ M) {i : Nat} (hi : i < cs.length) : cs[i] ≤ M := by
  have h1 := hM _ (List.mem_map.2 ⟨i, List.mem_range.2 (show i < cs.length + 1 by omega), rfl⟩)
  have h2 := (ans_ok cs.length 0 cs.length q i hq (by omega) (Nat.zero_le _) (by omega)).here hi
  have h3 : cs[i] ∈ (ans cs.length 0 q i).map (cost cs) := List.mem_map.2 ⟨(i : Int), h2, by rw [cost_get, List.getElem?_eq_getElem hi]; rfl⟩
  have h4 : ∀ (l : List Int), (∀ x ∈ l, 0 ≤ x) → ∀ x ∈ l, x ≤ l.sum := by
    intro l
    induction l with
    | nil => intro _ x hx; simp at hx
    | cons y l ih =>
      intro hn x hx
      have h5 := hn y (by simp)
      have h6 := sum_nn l (fun z hz => hn z (by simp [hz]))
      rw [List.sum_cons]
      rcases List.mem_cons.1 hx with rfl | hx
      · omega
      · have := ih (fun z hz => hn z (by simp [hz])) x hx
        omega
  have h5 := h4 _ (fun x hx => (costs_bd hc _ x hx).1) _ h3
  exact Int.le_trans h5 h1
end Go.Proofs.Yticmdpcahpimhaa
namespace Go.Proofs.Yticmdpcahpimhaa
open Go.Rx Go.RowKit
attribute [local irreducible] E idxN cellAt cellsAt storeAt callable helems hmoved lookIn findKey keyOk hentries Hp.at Hp.set Hp.lay arBits hupdated setAt CallP YieldP BoolOf IsWrap Rnd LoopP AppP CutP Int.tmod Int.tdiv Int.fdiv
section
variable [Unknowns]
attribute [local irreducible] SeqP ResP tabV
theorem count_spec (n : Nat) (hn : n ≤ 13) (h : Hp) : CallP E 66 [int n] h (fun r h' => r = int (cat n) ∧ Grows h h') := by
  refine enter66 (by simp) ?_
  conv => whnf
  refine SeqP.go ?_
  conv => whnf
  refine SeqP.go ?_
  conv => whnf
  refine SeqP.cut (α := Value) (fun v => [(0, int n), (3, v)]) (fun v H => Built h H 2 v (catL n) ∧ Grows h H) ?_ ?_
  · conv => whnf
    repeat (refine SeqP.go ?_; conv => whnf)
    refine loop_inv (α := Nat × Value × Hp) (fun s => [(4, int (s.1 + 1 : Nat)), (3, s.2.1), (0, int n)]) (fun s => s.2.2) (fun s => s.1 ≤ n ∧ Built h s.2.2 2 s.2.1 (catL s.1) ∧ Grows h s.2.2) (fun s => n - s.1) (0, _, _) ⟨Nat.zero_le _, .inr ⟨h.next, rfl, Nat.le_refl _, true, Hp.at_lay_self _ _⟩, Grows.lay _ _⟩ ⟨rfl, rfl, rfl, trivial⟩ (Hp.Le.refl _) ?_
    rintro ⟨g, v, H⟩ φ ⟨hg, hb, hgr⟩
    dsimp only at hg hb hgr ⊢
    have hlen := catL_length g
    conv => whnf
    repeat (refine SeqP.go ?_; conv => whnf)
    refine cmpB (fun hb1 => ?_) (fun hb1 => ?_)
    rotate_left
    · have : g = n := by omega
      subst this
      conv => whnf
      repeat (refine SeqP.go ?_; conv => whnf)
      exact ⟨v, ⟨rfl, rfl, trivial⟩, ⟨hb, hgr⟩, rfl⟩
    have hvi := hb.ints
    obtain ⟨a, cp, rfl, hcell⟩ := hvi
    conv => whnf
    refine SeqP.cut (α := Value × Hp) (fun s => [(4, int (g + 1 : Nat)), (3, s.1), (0, int n)]) (fun s H' => H' = s.2 ∧ Built h s.2 2 s.1 (catL (g + 1)) ∧ Grows h s.2) ?_ ?_
    rotate_left
    · rintro ⟨v', H'⟩ φ' _ ⟨rfl, hb', hg'⟩
      dsimp only at hb' hg' ⊢
      conv => whnf
      refine ⟨((g + 1 + 1 : Nat) : Int), wie (by omega) (by omega), ?_⟩
      conv => whnf
      exact Rnd.mk (g + 1, v', _) ⟨by show g + 1 ≤ n; omega, hb', hg'⟩ (by show n - (g + 1) < n - g; omega) ⟨rfl, rfl, rfl, trivial⟩ (Hp.Le.refl _) rfl
    conv => whnf
    refine SeqP.go ?_
    conv => whnf
    refine SeqP.cut (α := Unit) (fun _ => [(5, int (catS (catL g) g (g + 1))), (4, int (g + 1 : Nat)), (3, .slice a (catL g).length cp), (0, int n)]) (fun _ H' => H' = H) ?_ ?_
    · conv => whnf
      repeat (refine SeqP.go ?_; conv => whnf)
      refine loop_inv (α := Nat) (fun f => [(14, int f), (13, int (g + 1 : Nat)), (5, int (catS (catL g) g f)), (4, int (g + 1 : Nat)), (3, .slice a (catL g).length cp), (0, int n)]) (fun _ => H) (fun f => f ≤ g + 1) (fun f => g + 1 - f) 0 (Nat.zero_le _) ⟨rfl, rfl, rfl, rfl, rfl, rfl, trivial⟩ (Hp.Le.refl _) ?_
      rintro f φ2 hf

      conv => whnf
      repeat (refine SeqP.go ?_; conv => whnf)
      refine cmpB (fun hb2 => ?_) (fun hb2 => ?_)
      rotate_left
      · have : f = g + 1 := by omega
        subst this
        conv => whnf
        repeat (refine SeqP.go ?_; conv => whnf)
        exact ⟨(), ⟨rfl, rfl, rfl, rfl, trivial⟩, rfl, rfl⟩
      have hbd := cat_bd g (by omega) f (by omega)
      have hbd2 := cat_bd g (by omega) (f + 1) (by omega)
      have es : catS (catL g) g (f + 1) = catS (catL g) g f + (catL g).getD f 0 * (catL g).getD (g - f) 0 := rfl
      have hc1 := hcell f (by omega)
      obtain ⟨r, o, sp, ea, hsp, hv1⟩ := hc1
      subst ea
      have hc2 := hcell (g - f) (by omega)
      obtain ⟨r2, o2, sp2, ea2, hsp2, hv2⟩ := hc2
      cases ea2
      rw [getD_at (show f < (catL g).length by omega), getD_at (show g - f < (catL g).length by omega)] at es hbd
      conv => whnf
      repeat (refine SeqP.go ?_; conv => whnf)
      refine ⟨hsp, ⟨by omega, by omega⟩, ?_⟩
      conv => whnf
      refine ⟨int (catL g)[f], by rw [offAt_eq, Nat.add_comm]; simpa using hv1, ?_⟩
      conv => whnf
      refine ⟨((g : Nat) : Int), wie (by omega) (by omega), ?_⟩
      conv => whnf
      refine ⟨((g - f : Nat) : Int), wie (by omega) (by omega), ?_⟩
      conv => whnf
      refine ⟨hsp, ⟨by omega, by omega⟩, ?_⟩
      conv => whnf
      refine ⟨int (catL g)[g - f], by rw [offAt_eq, Nat.add_comm]; simpa using hv2, ?_⟩
      conv => whnf
      refine ⟨(catL g)[f] * (catL g)[g - f], wie rfl (by omega), ?_⟩
      conv => whnf
      refine ⟨catS (catL g) g (f + 1), wie es.symm (by omega), ?_⟩
      conv => whnf
      refine ⟨((f + 1 : Nat) : Int), wie (by omega) (by omega), ?_⟩
      conv => whnf
      exact Rnd.mk (f + 1) (by show f + 1 ≤ g + 1; omega) (by show g + 1 - (f + 1) < g + 1 - f; omega) ⟨rfl, rfl, rfl, rfl, rfl, rfl, trivial⟩ (Hp.Le.refl _) rfl
    rintro _ φ3 _ rfl
    conv => whnf
    refine AppP.ints (hb.ext (Grows.lay _ _)) (hgr.then_lay _) Elems.lay1 (by simp; omega) ?_
    intro v' h' hb' hg' _
    conv => whnf
    exact ⟨(v', h'), ⟨rfl, rfl, rfl, trivial⟩, ⟨rfl, hb', hg'⟩, rfl⟩
  rintro v φ9 H ⟨hb, hgr⟩
  have hlen := catL_length n
  have hvi := hb.ints
  obtain ⟨a, cp, rfl, hcell⟩ := hvi
  have hc1 := hcell n (by omega)
  obtain ⟨r, o, sp, ea, hsp, hv1⟩ := hc1
  subst ea
  have ec : (catL n)[n] = cat n := (getD_at (by omega)).symm
  rw [ec] at hv1
  conv => whnf
  repeat (refine SeqP.go ?_; conv => whnf)
  refine ⟨hsp, ⟨by omega, by omega⟩, ?_⟩
  conv => whnf
  refine ⟨int (cat n), by rw [offAt_eq, Nat.add_comm]; simpa using hv1, ?_⟩
  conv => whnf
  repeat (refine SeqP.go ?_; conv => whnf)
  exact ⟨rfl, hgr⟩
theorem Count_spec (n : Nat) (hn : n ≤ 13) (h : Hp) : CallP E 36 [int n] h (fun r h' => r = .tuple ⟨[int (cat n), int 0]⟩ ∧ Grows h h') := by
  refine enter36 (by simp) ?_
  conv => whnf
  repeat (refine SeqP.go ?_; conv => whnf)
  refine cmpF (by omega) ?_
  conv => whnf
  refine cmpF (by omega) ?_
  conv => whnf
  repeat (refine SeqP.go ?_; conv => whnf)
  refine CallP.mono (count_spec n hn h) ?_
  rintro r h1 ⟨rfl, g1⟩
  conv => whnf
  repeat (refine SeqP.go ?_; conv => whnf)
  exact ⟨rfl, g1⟩
end
end Go.Proofs.Yticmdpcahpimhaa
namespace Go.Proofs.Yticmdpcahpimhaa
open Go.Rx Go.RowKit
attribute [local irreducible] E idxN cellAt cellsAt storeAt callable helems hmoved lookIn findKey keyOk hentries Hp.at Hp.set Hp.lay arBits hupdated setAt CallP YieldP BoolOf IsWrap Rnd LoopP AppP CutP Int.tmod Int.tdiv Int.fdiv
section
variable [Unknowns]
attribute [local irreducible] SeqP ResP tabV
theorem knuth_law (n0 : Int) (hn0 : -9223372036854775808 ≤ n0 ∧ n0 < 9223372036854775808) (v0 : Value) (l : List Int) (hl : l.length ≤ maxLen) (hl' : ∀ n ∈ l, -9223372036854775808 ≤ n ∧ n < 9223372036854775808) (v1 : Value) (p : List Int) (hp : p.length ≤ maxLen) (hp' : ∀ n ∈ p, -9223372036854775808 ≤ n ∧ n < 9223372036854775808) :
    ∀ h vs, AllIs h vs [.i n0, .s v0 l, .s v1 p] → CallP E 11 vs h (fun r _ => r = .bool true) := by
  have hmax : maxLen < 9223372036854775808 := by decide
  intro h vs hvs
  match vs, hvs with
  | [a0, a1, a2], hvs =>
  obtain ⟨rfl, k0, k1, -⟩ := hvs
  refine enter11 (by simp) ?_
  conv => whnf
  refine SeqP.go ?_
  conv => whnf
  refine SeqP.cut (α := Nat) (fun n => [(0, int n), (1, a1), (2, a2)]) (fun n H => n < 13 ∧ h = H) ?_ ?_
  · conv => whnf
    have hux := u64_of n0
    obtain ⟨u, u0, u1, hu⟩ := hux
    refine ⟨u, hu, ?_⟩
    conv => whnf
    refine ⟨by omega, ?_⟩
    have b1 := tmod_bd u0 (show (0 : Int) < 13 by omega)
    have hexn : ∃ n : Nat, u.tmod 13 = (n : Int) := ⟨(u.tmod 13).toNat, by omega⟩
    obtain ⟨n, hn⟩ := hexn
    conv => whnf
    refine ⟨(n : Int), wie hn (by omega), ?_⟩
    conv => whnf
    exact ⟨n, ⟨rfl, rfl, rfl, trivial⟩, ⟨by omega, rfl⟩, rfl⟩
  rintro n φ _ ⟨hn, rfl⟩
  conv => whnf
  refine SeqP.go ?_
  conv => whnf
  refine SeqP.cut (α := Value) (fun v => [(7, v), (0, int n), (1, a1), (2, a2)]) (fun v H => Built h H 3 v (List.replicate n 1) ∧ Grows h H) ?_ ?_
  · conv => whnf
    repeat (refine SeqP.go ?_; conv => whnf)
    refine loop_inv (α := Nat × Value × Hp) (fun s => [(8, int s.1), (7, s.2.1), (0, int n), (1, a1), (2, a2)]) (fun s => s.2.2) (fun s => s.1 ≤ n ∧ Built h s.2.2 3 s.2.1 (List.replicate s.1 1) ∧ Grows h s.2.2) (fun s => n - s.1) (0, .slice none 0 0, h) ⟨Nat.zero_le _, .inl ⟨rfl, rfl⟩, Grows.refl _⟩ ⟨rfl, rfl, rfl, rfl, rfl, trivial⟩ (Hp.Le.refl _) ?_
    rintro ⟨k, v, H⟩ φ ⟨hk, hb, hg⟩
    dsimp only at hk hb hg ⊢
    conv => whnf
    repeat (refine SeqP.go ?_; conv => whnf)
    refine cmpB (fun hb1 => ?_) (fun hb1 => ?_)
    rotate_left
    · have : k = n := by omega
      subst this
      conv => whnf
      repeat (refine SeqP.go ?_; conv => whnf)
      exact ⟨v, ⟨rfl, rfl, rfl, rfl, trivial⟩, ⟨hb, hg⟩, rfl⟩
    conv => whnf
    repeat (refine SeqP.go ?_; conv => whnf)
    refine AppP.ints (hb.ext (Grows.lay _ _)) (hg.then_lay _) Elems.lay1 (by simp; omega) ?_
    intro v' h' hb' hg' _
    rw [← List.replicate_succ'] at hb'
    conv => whnf
    repeat (refine SeqP.go ?_; conv => whnf)
    refine ⟨((k + 1 : Nat) : Int), wie (by omega) (by omega), ?_⟩
    conv => whnf
    exact Rnd.mk (k + 1, v', h') ⟨by show k + 1 ≤ n; omega, hb', hg'⟩ (by show n - (k + 1) < n - k; omega) ⟨rfl, rfl, rfl, rfl, rfl, trivial⟩ (Hp.Le.refl _) rfl
  rintro v φ1 h1 ⟨hb1, hg1⟩
  have hone : ∀ x ∈ List.replicate n (1 : Int), 1 ≤ x ∧ x ≤ 1000 := fun x hx => by have := List.eq_of_mem_replicate hx; omega
  have hrl : (List.replicate n (1 : Int)).length = n := by simp
  conv => whnf
  refine SeqP.cut (α := Unit) (fun _ => [(9, int (lg n : Nat)), (11, int 0), (0, int n), (1, a1), (2, a2)]) (fun _ H => Grows h H) ?_ ?_
  · conv => whnf
    refine CallP.mono (Worst_spec _ hone (by omega) _ h1 hb1.ints) ?_
    rintro r h2 ⟨T, x, q, hT, er, _, _, hg2⟩
    rw [hrl] at hT er
    have eL := IsMin.uniq hT.min (lg_isMin n (by omega)) n 0 n (by omega) (Nat.zero_le _) (Nat.le_refl _)
    have eL2 : (T 0 n).1 = (lg n : Int) := eL
    rw [eL2] at er
    subst er
    conv => whnf
    exact ⟨(), ⟨rfl, rfl, rfl, rfl, rfl, trivial⟩, hg1.trans hg2, rfl⟩
  rintro _ φ2 h2 hg2
  have hlg := lg_pow n hn
  conv => whnf
  refine SeqP.go ?_
  conv => whnf
  refine SeqP.cut (α := Unit) (fun _ => [(12, int (lg n : Nat)), (9, int (lg n : Nat)), (11, int 0), (0, int n), (1, a1), (2, a2)]) (fun _ H => Grows h H) ?_ ?_
  · conv => whnf
    refine loop_inv (α := Nat) (fun d => [(12, int d), (9, int (lg n : Nat)), (11, int 0), (0, int n), (1, a1), (2, a2)]) (fun _ => h2) (fun d => d ≤ lg n) (fun d => lg n - d) 0 (Nat.zero_le _) ⟨rfl, rfl, rfl, rfl, rfl, rfl, trivial⟩ (Hp.Le.refl _) ?_
    rintro d φ hd

    have hpd : 2 ^ d ≤ 2 ^ 4 := Nat.pow_le_pow_right (by omega) (by omega)
    conv => whnf
    repeat (refine SeqP.go ?_; conv => whnf)
    refine ⟨by omega, ((2 ^ d : Nat) : Int), Go.Rx.shl_one (by omega), ?_⟩
    conv => whnf
    refine ⟨((n + 1 : Nat) : Int), wie (by omega) (by omega), ?_⟩
    conv => whnf
    refine cmpB (fun hb3 => ?_) (fun hb3 => ?_)
    · have hdl : d < lg n := by
        rcases Nat.lt_or_ge d (lg n) with h4 | h4
        · exact h4
        · have : d = lg n := by omega
          subst this
          omega
      conv => whnf
      repeat (refine SeqP.go ?_; conv => whnf)
      refine ⟨((d + 1 : Nat) : Int), wie (by omega) (by omega), ?_⟩
      conv => whnf
      exact Rnd.mk (d + 1) (by show d + 1 ≤ lg n; omega) (by show lg n - (d + 1) < lg n - d; omega) ⟨rfl, rfl, rfl, rfl, rfl, rfl, trivial⟩ (Hp.Le.refl _) rfl
    · have hdl : d = lg n := by
        rcases Nat.lt_or_ge d (lg n) with h4 | h4
        · have := hlg.2.2 d h4
          omega
        · omega
      subst hdl
      conv => whnf
      repeat (refine SeqP.go ?_; conv => whnf)
      exact ⟨(), ⟨rfl, rfl, rfl, rfl, rfl, rfl, trivial⟩, hg2, rfl⟩
  rintro _ φ3 h3 hg3
  conv => whnf
  refine SeqP.cut (α := Unit) (fun _ => [(13, int (cat n)), (14, int 0), (12, int (lg n : Nat)), (9, int (lg n : Nat)), (11, int 0), (0, int n), (1, a1), (2, a2)]) (fun _ H => Grows h H) ?_ ?_
  · conv => whnf
    refine CallP.mono (Count_spec n (by omega) h3) ?_
    rintro r h4 ⟨rfl, hg4⟩
    conv => whnf
    exact ⟨(), ⟨rfl, rfl, rfl, rfl, rfl, rfl, rfl, rfl, trivial⟩, hg3.trans hg4, rfl⟩
  rintro _ φ4 h4 hg4
  conv => whnf
  refine SeqP.cut (α := Unit) (fun _ => [(15, int (cat (n + 1))), (16, int 0), (13, int (cat n)), (14, int 0), (12, int (lg n : Nat)), (9, int (lg n : Nat)), (11, int 0), (0, int n), (1, a1), (2, a2)]) (fun _ H => Grows h H) ?_ ?_
  · conv => whnf
    refine ⟨((n + 1 : Nat) : Int), wie (by omega) (by omega), ?_⟩
    conv => whnf
    refine CallP.mono (Count_spec (n + 1) (by omega) h4) ?_
    rintro r h5 ⟨rfl, hg5⟩
    conv => whnf
    exact ⟨(), ⟨rfl, rfl, rfl, rfl, rfl, rfl, rfl, rfl, rfl, rfl, trivial⟩, hg4.trans hg5, rfl⟩
  rintro _ φ5 h5 hg5
  obtain ⟨ceq, c1, c2, c3, c4⟩ := cat_step n hn
  conv => whnf
  refine SeqP.cut (α := Unit) (fun _ => [(1, a1), (2, a2)]) (fun _ H => h5 = H) ?_ ?_
  · have hm1 := Int.mul_le_mul (show ((n : Int) + 2) ≤ 15 by omega) c4 (by omega) (by omega)
    have hm0 := Int.mul_nonneg (show 0 ≤ (n : Int) + 2 by omega) (show 0 ≤ cat (n + 1) by omega)
    conv => whnf
    repeat (refine SeqP.go ?_; conv => whnf)
    refine cmpF (by omega) ?_
    conv => whnf
    refine cmpF (by omega) ?_
    conv => whnf
    refine cmpF (by omega) ?_
    conv => whnf
    refine cmpF (by omega) ?_
    conv => whnf
    refine cmpF (by omega) ?_
    conv => whnf
    refine cmpF (by omega) ?_
    conv => whnf
    refine ⟨(n : Int) + 2, wie rfl (by omega), ?_⟩
    conv => whnf
    refine ⟨((n : Int) + 2) * cat (n + 1), wie rfl (by omega), ?_⟩
    conv => whnf
    refine ⟨2 * (n : Int), wie rfl (by omega), ?_⟩
    conv => whnf
    refine ⟨2 * (n : Int) + 1, wie rfl (by omega), ?_⟩
    conv => whnf
    refine ⟨2 * (2 * (n : Int) + 1), wie rfl (by omega), ?_⟩
    conv => whnf
    refine ⟨2 * (2 * (n : Int) + 1) * cat n, wie rfl (by rw [← ceq]; omega), ?_⟩
    conv => whnf
    refine cmpF (by rw [ceq]; omega) ?_
    conv => whnf
    repeat (refine SeqP.go ?_; conv => whnf)
    exact ⟨(), ⟨rfl, rfl, trivial⟩, rfl, rfl⟩
  rintro _ φ6 _ rfl
  conv => whnf
  refine SeqP.cut (α := Value × List Int) (fun s => [(17, s.1), (2, a2)]) (fun s H => Built h5 H 3 s.1 s.2 ∧ s.2.length ≤ 12 ∧ (∀ c ∈ s.2, 1 ≤ c ∧ c ≤ 1000) ∧ Grows h5 H) ?_ ?_
  · conv => whnf
    refine CallP.mono (costs_spec a1 l h5 (k0.ints.ext hg5) (by omega)) ?_
    rintro vc h6 ⟨cs, hbc, hcl, hc, hg6⟩
    conv => whnf
    exact ⟨(vc, cs), ⟨rfl, rfl, trivial⟩, ⟨hbc, by show cs.length ≤ 12; omega, hc, hg6⟩, rfl⟩
  rintro ⟨vc, cs⟩ φ7 h6 ⟨hbc, hn2, hc, hg6⟩
  dsimp only at hbc hn2 hc ⊢
  have hvc := hbc.ints
  have hkc := hvc
  obtain ⟨ac, cc, rfl, hccell⟩ := hkc
  conv => whnf
  refine SeqP.cut (α := Value × List Int) (fun s => [(17, .slice ac cs.length cc), (18, s.1)]) (fun s H => Built h6 H 3 s.1 s.2 ∧ s.2.length = cs.length + 1 ∧ (∀ x ∈ s.2, 0 ≤ x ∧ x ≤ 1000) ∧ (∃ x ∈ s.2, 0 < x) ∧ Grows h6 H) ?_ ?_
  · conv => whnf
    refine CallP.mono (weights_spec a2 p cs.length hn2 h6 (k1.ints.ext (hg5.trans hg6)) (by omega)) ?_
    rintro vu h7 ⟨u, hbu, hul, hub, hup, hg7⟩
    conv => whnf
    exact ⟨(vu, u), ⟨rfl, rfl, trivial⟩, ⟨hbu, hul, hub, hup, hg7⟩, rfl⟩
  rintro ⟨vu, u⟩ φ8 h7 ⟨hbu, hul, hub, hup, hg7⟩
  dsimp only at hbu hul hub hup ⊢
  have hW : WOk cs u := ⟨hub, hup, hul⟩
  have c7 := hvc.ext hg7
  have w7 := hbu.view
  have hwk := w7.ints
  obtain ⟨aw, cw, rfl, hcw⟩ := hwk
  conv => whnf
  refine SeqP.cut (α := Tab × Value × List Int) (fun s => [(17, .slice ac cs.length cc), (18, .slice aw u.length cw), (19, int (s.1 0 cs.length).1), (20, s.2.1), (21, int 0)]) (fun s H => IsTab (worstC cs) cs.length s.1 ∧ Built h7 H 3 s.2.1 s.2.2 ∧ TPl s.1 0 cs.length s.2.2 ∧ Grows h7 H) ?_ ?_
  · conv => whnf
    refine CallP.mono (Worst_spec cs hc hn2 _ h7 c7) ?_
    rintro r h8 ⟨T, vw, qw, hT, rfl, hbw, hpw, hg8⟩
    conv => whnf
    exact ⟨(T, vw, qw), ⟨rfl, rfl, rfl, rfl, rfl, trivial⟩, ⟨hT, hbw, hpw, hg8⟩, rfl⟩
  rintro ⟨T, vq, q⟩ φ9 h8 ⟨hT, hbq, hpq, hg8⟩
  dsimp only at hT hbq hpq ⊢
  conv => whnf
  refine SeqP.cut (α := Tab) (fun s => [(17, .slice ac cs.length cc), (18, .slice aw u.length cw), (19, int (T 0 cs.length).1), (20, vq), (21, int 0), (22, int (s 0 cs.length).1), (24, int 0)]) (fun s H => IsTab (weighC cs u) cs.length s ∧ Grows h8 H) ?_ ?_
  · conv => whnf
    refine CallP.mono (Weighed_spec cs u hc hn2 hW _ _ h8 (c7.ext hg8) (w7.ext hg8)) ?_
    rintro r h9 ⟨T2, vx, qx, hT2, rfl, hbx, hpx, hg9⟩
    conv => whnf
    exact ⟨T2, ⟨rfl, rfl, rfl, rfl, rfl, rfl, rfl, trivial⟩, ⟨hT2, hg9⟩, rfl⟩
  rintro T2 φ10 h9 ⟨hT2, hg9⟩
  have hg79 := hg8.trans hg9
  have hprl : (pricesOf cs q).length = cs.length + 1 := by simp [pricesOf]
  have hwt := worst_tab cs q T hT hpq
  have hpb := prices_bd hn2 hc hpq.pl
  have hM := hpb _ hwt.2
  have hle := weigh_le cs u q hul hub T2 hT2 hpq.pl _ hwt.1
  have hge := fun i (hi : i < cs.length) => gate_le cs q hn2 hc hpq.pl _ hwt.1 (i := i) hi
  have hw0 := hT2.cost (a := 0) (b := cs.length) (Nat.zero_le _) (Nat.le_refl _)
  have hexM : ∃ M, (T 0 cs.length).1 = M := ⟨_, rfl⟩
  obtain ⟨M, eM⟩ := hexM
  have hexW : ∃ W, (T2 0 cs.length).1 = W := ⟨_, rfl⟩
  obtain ⟨W, eW⟩ := hexW
  rw [eM] at hwt hM hle
  rw [eW] at hle hw0
  have hge2 : ∀ i, (hi : i < cs.length) → cs[i] ≤ M := fun i hi => by rw [← eM]; exact hge i hi
  have hWb : 0 ≤ W ∧ W ≤ 13000000 * 12 := by unfold Bd K at hw0; omega
  conv => whnf
  refine SeqP.cut (α := Value) (fun s => [(17, .slice ac cs.length cc), (18, .slice aw u.length cw), (19, int M), (21, int 0), (22, int W), (24, int 0), (25, s), (26, int 0)]) (fun s H => Built h9 H 3 s (pricesOf cs q) ∧ Grows h9 H) ?_ ?_
  · conv => whnf
    refine CallP.mono (Prices_spec cs q _ vq h9 (c7.ext hg79) (hbq.view.ext hg9) hn2 hc hpq.pl) ?_
    rintro r h10 ⟨vp, rfl, hbp, hg10⟩
    conv => whnf
    exact ⟨vp, ⟨rfl, rfl, congrArg int eM, rfl, congrArg int eW, rfl, rfl, rfl, trivial⟩, ⟨hbp, hg10⟩, rfl⟩
  rintro vp φ11 h10 ⟨hbp, hg10⟩
  have hvp := hbp.ints
  obtain ⟨ap, cp, rfl, hpcell⟩ := hvp
  have c10 := c7.ext (hg79.trans hg10)
  have w10 := w7.ints.ext (hg79.trans hg10)
  conv => whnf
  refine SeqP.cut (α := Unit) (fun _ => [(17, .slice ac cs.length cc), (18, .slice aw u.length cw), (19, int M), (22, int W), (25, .slice ap (pricesOf cs q).length cp)]) (fun _ H => h10 = H) ?_ ?_
  · conv => whnf
    repeat (refine SeqP.go ?_; conv => whnf)
    refine cmpF (by omega) ?_
    conv => whnf
    refine cmpF (by omega) ?_
    conv => whnf
    refine cmpF (by omega) ?_
    conv => whnf
    refine ⟨((cs.length + 1 : Nat) : Int), wie (by omega) (by omega), ?_⟩
    conv => whnf
    refine cmpF (by omega) ?_
    conv => whnf
    refine cmpF (by omega) ?_
    conv => whnf
    refine cmpF (by omega) ?_
    conv => whnf
    repeat (refine SeqP.go ?_; conv => whnf)
    exact ⟨(), ⟨rfl, rfl, rfl, rfl, rfl, trivial⟩, rfl, rfl⟩
  rintro _ φ12 _ rfl
  obtain ⟨aw', cw', ew, hcw10⟩ := w10
  cases ew
  obtain ⟨ac', cc', ec, hcc10⟩ := c10
  cases ec
  conv => whnf
  refine SeqP.go ?_
  conv => whnf
  refine SeqP.cut (α := Unit) (fun _ => [(27, int u.sum), (28, int M), (17, .slice ac cs.length cc), (19, int M), (22, int W)]) (fun _ H => h10 = H) ?_ ?_
  · conv => whnf
    repeat (refine SeqP.go ?_; conv => whnf)
    refine loop_inv (α := Nat × Int) (fun s => [(29, int s.1), (27, int (u.take s.1).sum), (28, int s.2), (17, .slice ac cs.length cc), (18, .slice aw u.length cw), (19, int M), (22, int W), (25, .slice ap (pricesOf cs q).length cp)]) (fun _ => h10) (fun s => s.1 ≤ u.length ∧ 0 ≤ s.2 ∧ s.2 ≤ M ∧ ∀ x ∈ (pricesOf cs q).take s.1, x ≤ s.2) (fun s => u.length - s.1) (0, 0) ⟨Nat.zero_le _, Int.le_refl _, hM.1, by simp⟩ ⟨rfl, rfl, rfl, rfl, rfl, rfl, rfl, rfl, trivial⟩ (Hp.Le.refl _) ?_
    rintro ⟨i, cur⟩ φ ⟨hi, hc0, hcM, hall⟩
    dsimp only at hi hc0 hcM hall ⊢
    conv => whnf
    repeat (refine SeqP.go ?_; conv => whnf)
    refine cmpB (fun hb4 => ?_) (fun hb4 => ?_)
    · have hiu : i < u.length := by omega
      have hip : i < (pricesOf cs q).length := by omega
      have hx := hpb _ (List.getElem_mem hip)
      have hy := hub _ (List.getElem_mem hiu)
      have hst := sum_take_succ hiu
      have hsb := sum_le (u.take i) (fun x hx => hub x (List.mem_of_mem_take hx))
      have hsl : (u.take i).length ≤ 13 := by rw [List.length_take]; omega
      have h1c := hcw10 i hiu
      obtain ⟨r, o, sp, ea, hsp, hv1⟩ := h1c
      subst ea
      have h2c := hpcell i hip
      obtain ⟨r2, o2, sp2, ea2, hsp2, hv2⟩ := h2c
      subst ea2
      conv => whnf
      repeat (refine SeqP.go ?_; conv => whnf)
      refine ⟨hsp, ⟨by omega, by omega⟩, ?_⟩
      conv => whnf
      refine ⟨int u[i], by rw [offAt_eq, Nat.add_comm]; simpa using hv1, ?_⟩
      conv => whnf
      refine ⟨(u.take (i + 1)).sum, wie hst.symm (by omega), ?_⟩
      conv => whnf
      repeat (refine SeqP.go ?_; conv => whnf)
      refine ⟨hsp2, ⟨by omega, by omega⟩, ?_⟩
      conv => whnf
      refine ⟨int (pricesOf cs q)[i], by rw [offAt_eq, Nat.add_comm]; simpa using hv2, ?_⟩
      conv => whnf
      refine resP_val (v := int (max cur (pricesOf cs q)[i])) (h := h10) ?_ ?_
      · conv => lhs; whnf
        exact congrArg (HRes.val · _) (max_eq2 cur (pricesOf cs q)[i])
      conv => whnf
      refine ⟨((i + 1 : Nat) : Int), wie (by omega) (by omega), ?_⟩
      conv => whnf
      have hxM := hwt.1 _ (List.getElem_mem hip)
      refine Rnd.mk (i + 1, max cur (pricesOf cs q)[i]) ⟨by show i + 1 ≤ _; omega, by show 0 ≤ max cur (pricesOf cs q)[i]; omega, by show max cur (pricesOf cs q)[i] ≤ M; omega, ?_⟩ (by show _ - (i + 1) < _ - i; omega) ⟨rfl, rfl, rfl, rfl, rfl, rfl, rfl, rfl, trivial⟩ (Hp.Le.refl _) rfl
      intro x hx2
      show x ≤ max cur (pricesOf cs q)[i]
      rw [List.take_succ_eq_append_getElem hip] at hx2
      rcases List.mem_append.1 hx2 with h1 | h1
      · have := hall x h1; omega
      · have := List.mem_singleton.1 h1; omega
    · have hil : i = u.length := by omega
      subst hil
      rw [List.take_of_length_le (by omega)] at hall
      have hcur : cur = M := by have := hall M hwt.2; omega
      subst hcur
      conv => whnf
      repeat (refine SeqP.go ?_; conv => whnf)
      exact ⟨(), ⟨congrArg int (by rw [List.take_of_length_le (Nat.le_refl _)]), rfl, rfl, rfl, rfl, trivial⟩, rfl, rfl⟩
  rintro _ φ13 _ rfl
  have hsu := sum_le u hub
  conv => whnf
  refine SeqP.cut (α := Unit) (fun _ => [(27, int u.sum), (28, int M), (19, int M), (22, int W)]) (fun _ H => h10 = H) ?_ ?_
  · conv => whnf
    repeat (refine SeqP.go ?_; conv => whnf)
    refine loop_inv (α := Nat) (fun i => [(30, int i), (27, int u.sum), (28, int M), (17, .slice ac cs.length cc), (19, int M), (22, int W)]) (fun _ => h10) (fun i => i ≤ cs.length) (fun i => cs.length - i) 0 (Nat.zero_le _) ⟨rfl, rfl, rfl, rfl, rfl, rfl, trivial⟩ (Hp.Le.refl _) ?_
    rintro i φ hi

    conv => whnf
    repeat (refine SeqP.go ?_; conv => whnf)
    refine cmpB (fun hb4 => ?_) (fun hb4 => ?_)
    · have hic : i < cs.length := by omega
      have hgi := hge2 i hic
      have h1c := hcc10 i hic
      obtain ⟨r, o, sp, ea, hsp, hv1⟩ := h1c
      subst ea
      conv => whnf
      repeat (refine SeqP.go ?_; conv => whnf)
      refine ⟨hsp, ⟨by omega, by omega⟩, ?_⟩
      conv => whnf
      refine ⟨int cs[i], by rw [offAt_eq, Nat.add_comm]; simpa using hv1, ?_⟩
      conv => whnf
      refine cmpF (by omega) ?_
      conv => whnf
      repeat (refine SeqP.go ?_; conv => whnf)
      refine ⟨((i + 1 : Nat) : Int), wie (by omega) (by omega), ?_⟩
      conv => whnf
      exact Rnd.mk (i + 1) (by show i + 1 ≤ _; omega) (by show _ - (i + 1) < _ - i; omega) ⟨rfl, rfl, rfl, rfl, rfl, rfl, trivial⟩ (Hp.Le.refl _) rfl
    · conv => whnf
      repeat (refine SeqP.go ?_; conv => whnf)
      exact ⟨(), ⟨rfl, rfl, rfl, rfl, trivial⟩, rfl, rfl⟩
  rintro _ φ14 _ rfl
  have hm0 := Int.mul_nonneg hsu.1 hM.1
  have hm1 := Int.mul_le_mul hsu.2 hM.2 hM.1 (by omega)
  conv => whnf
  repeat (refine SeqP.go ?_; conv => whnf)
  refine cmpT rfl ?_
  conv => whnf
  refine ⟨u.sum * M, wie rfl (by omega), ?_⟩
  conv => whnf
  refine cmpT hle ?_
  conv => whnf
  refine cmpT hWb.1 ?_
  conv => whnf
  refine memo27 ?_
  conv => whnf
  rfl
end
end Go.Proofs.Yticmdpcahpimhaa
