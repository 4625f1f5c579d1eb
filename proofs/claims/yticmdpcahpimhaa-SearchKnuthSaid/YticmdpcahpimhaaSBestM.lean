/- Contracts of the functions that SKnuthM comes to. -/
import Derived.Test.YticmdpcahpimhaaSFillM
import Derived.Test.YticmdpcahpimhaaSPlans0
import Derived.Test.YticmdpcahpimhaaSPlans1
import Derived.Test.YticmdpcahpimhaaSOpened
import Derived.Test.YticmdpcahpimhaaSAwake
set_option maxRecDepth 100000
set_option maxHeartbeats 1000000
set_option linter.unusedVariables false
set_option linter.unusedSectionVars false
set_option linter.unusedSimpArgs false
namespace Go.Proofs.Yticmdpcahpimhaa
open Go.Rx Go.RowKit
def partSum (u : List Int) (a b : Nat) : Int := ((u.drop a).take (b + 1 - a)).sum
def weighC (cs u : List Int) : CostF := fun a b g x y => (cs[g]?.getD 0) * partSum u a b + x + y
theorem sum_le : ∀ (l : List Int), (∀ x ∈ l, 0 ≤ x ∧ x ≤ 1000) → 0 ≤ l.sum ∧ l.sum ≤ 1000 * l.length
  | [], _ => by simp
  | x :: l, h => by
    have h1 := h x (by simp)
    have h2 := sum_le l (fun y hy => h y (by simp [hy]))
    rw [List.sum_cons, List.length_cons]; omega
theorem partSum_bd {u : List Int} (hu : ∀ x ∈ u, 0 ≤ x ∧ x ≤ 1000) (hl : u.length ≤ 13) (a b : Nat) : 0 ≤ partSum u a b ∧ partSum u a b ≤ 13000 := by
  have h1 := sum_le ((u.drop a).take (b + 1 - a)) (fun x hx => hu x (List.mem_of_mem_drop (List.mem_of_mem_take hx)))
  have h2 : ((u.drop a).take (b + 1 - a)).length ≤ 13 := by rw [List.length_take, List.length_drop]; omega
  unfold partSum
  omega
theorem nbeq : ∀ n : Nat, Nat.beq n n = true
  | 0 => rfl
  | n + 1 => nbeq n
theorem sameV_slice (a : Option Addr) (n c : Nat) : sameV 4 (.slice a n c) (.slice a n c) = true := by
  show (decide (a = a) && Nat.beq n n && Nat.beq c c) = true
  rw [nbeq, nbeq, decide_eq_true rfl]
  rfl
theorem idxS_val' {n s r o cp : Nat} {sp : Option Nat} {j : Int} {h : Hp} (hs : voidSp sp = false) (hj : 0 ≤ j ∧ j < (n : Int)) : hval h (idxSV s (.slice (some ⟨r, o, sp⟩) n cp) (int j)) = .val (ptr r (offAt o j.toNat s)) h := by
  unfold idxSV
  dsimp only
  rw [hs]
  dsimp only
  rw [idxN_ok (n := n) (j := j) hj, offAt_eq]
  simp [hval, ptr]
attribute [local irreducible] E idxN cellAt cellsAt storeAt callable helems hmoved lookIn findKey keyOk hentries Hp.at Hp.set Hp.lay arBits hupdated setAt CallP YieldP BoolOf IsWrap Rnd LoopP AppP CutP Int.tmod Int.tdiv Int.fdiv
section
variable [Unknowns]
attribute [local irreducible] SeqP ResP sameAt finP tabV
theorem weigh_ok (cs u : List Int) (hcs : ∀ x ∈ cs, 1 ≤ x ∧ x ≤ 1000) (hl : cs.length ≤ 12) (hu : ∀ x ∈ u, 0 ≤ x ∧ x ≤ 1000) (hul : u.length = cs.length + 1) (v w x1 x2 : Value) (c d : Nat) (h : Hp) (hv : Ints h v cs) (hc : h.at c = some (.row 22 true [v])) (hw : View h w u) (hd : h.at d = some (.row 22 true [w])) (e1 : x1 = ptr c 0) (e2 : x2 = ptr d 0) : CostOk h 83 [x1, x2] (weighC cs u) cs.length := by
  subst e1 e2
  have hget : ∀ g, g < cs.length → 1 ≤ cs[g]?.getD 0 ∧ cs[g]?.getD 0 ≤ 1000 := by
    intro g hg
    rw [List.getElem?_eq_getElem hg]
    exact hcs _ (List.getElem_mem hg)
  have hprod : ∀ a b g, g < cs.length → 0 ≤ (cs[g]?.getD 0) * partSum u a b ∧ (cs[g]?.getD 0) * partSum u a b ≤ 13000000 := by
    intro a b g hg
    have h1 := hget g hg
    have h2 := partSum_bd hu (by omega) a b
    have := mul_bd (p := cs[g]?.getD 0) (u := partSum u a b) (a := 1000) (b := 13000) (by omega) h2
    omega
  refine ⟨can83, ?_, ?_⟩
  · intro a b g x y h1 h2 h3 hx hy
    have := hprod a b g (by omega)
    unfold Bd K weighC at *
    omega
  · intro h1 gr a b g x y l1 l2 l3 hx hy
    have hgv := hget g (by omega)
    have hpv := hprod a b g (by omega)
    have hps := partSum_bd hu (by omega) a b
    have ecs : cs[g]?.getD 0 = cs[g] := by rw [List.getElem?_eq_getElem (by omega)]; rfl
    rw [ecs] at hgv hpv
    have hv1 := hv.ext gr
    have hc1 := gr.at_ _ _ hc
    have hw1 := hw.ext (gr.trans (Grows.lay h1 (.row 115 true [int a, int b])))
    have hd1 := gr.at_ _ _ hd
    obtain ⟨av, cp, rfl, hcell⟩ := hv1
    obtain ⟨r, o, sp, rfl, hsp, hvl⟩ := hcell g (by omega)
    unfold Bd K at hx hy
    show CallP E 83 [.agg ⟨[int a, int b]⟩, int g, int x, int y, ptr c 0, ptr d 0] h1 _
    refine enter83 (by simp) ?_
    conv => whnf
    repeat (refine SeqP.go ?_; conv => whnf)
    refine ⟨_, cellAt_row (Hp.at_lay_old _ hc1) rfl, ?_⟩
    conv => whnf
    refine ⟨hsp, ⟨by omega, by omega⟩, ?_⟩
    conv => whnf
    refine ⟨int cs[g], (Grows.lay _ _).cell (by rw [offAt_eq, Nat.add_comm]; simpa using hvl), ?_⟩
    conv => whnf
    refine ⟨w, cellAt_row (Hp.at_lay_old _ hd1) rfl, ?_⟩
    conv => whnf
    refine ⟨int a, cellAt_row (Hp.at_lay_self _ _) rfl, ?_⟩
    conv => whnf
    refine ⟨int b, cellAt_row (Hp.at_lay_self _ _) rfl, ?_⟩
    conv => whnf
    refine ⟨((b + 1 : Nat) : Int), wie (by omega) (by omega), ?_⟩
    conv => whnf
    refine CutP.ints (i := a) (j := b + 1) hw1 ⟨.inr rfl, .inr rfl⟩ (by omega) (by omega) ?_
    intro v2 hv2 _ hw2
    conv => whnf
    refine CallP.mono (sum_big _ _ _ hv2.ints (by rw [List.length_take, List.length_drop]; omega) (fun x hx => by have := hu x (List.mem_of_mem_drop (List.mem_of_mem_take hx)); omega)) ?_
    rintro r2 h2 ⟨rfl, rfl⟩
    conv => whnf
    refine ⟨cs[g] * partSum u a b, wie rfl (by omega), ?_⟩
    conv => whnf
    refine ⟨_, wid (by omega), ?_⟩
    conv => whnf
    refine ⟨_, wid (by omega), ?_⟩
    conv => whnf
    have hcx : cellAt (h1.lay (.row 115 true [int a, int b])) c 0 = some (.slice (some ⟨r, o, sp⟩) cs.length cp) := cellAt_row (Hp.at_lay_old _ hc1) rfl
    have hgx : cellAt (h1.lay (.row 115 true [int a, int b])) r (offAt o g 1) = some (int cs[g]) := (Grows.lay _ _).cell (by rw [offAt_eq, Nat.add_comm]; simpa using hvl)
    refine ⟨?_, ?_⟩
    · repeat' (first | exact True.intro | (refine And.intro ?_ ?_ <;> (conv => whnf)))
      all_goals first
        | exact sameAt_val (h2 := _) rfl (sameV_int _)
        | exact sameAt_val (h2 := _) (congrArg (hval _) hcx) (sameV_slice _ _ _)
        | exact sameAt_val (h2 := _) (show hval _ (idxSV 1 (.slice (some ⟨r, o, sp⟩) cs.length cp) (int g)) = _ from idxS_val' hsp ⟨by omega, by omega⟩) (sameV_ptr _ _)
        | exact sameAt_val (h2 := _) (congrArg (hval _) hgx) (sameV_int _)
    conv => whnf
    repeat (refine SeqP.go ?_; conv => whnf)
    refine finP_one rfl rfl ⟨?_, Grows.lay _ _⟩
    unfold weighC
    rw [ecs]
    rfl
theorem weighed_spec (cs u : List Int) (hcs : ∀ x ∈ cs, 1 ≤ x ∧ x ≤ 1000) (hl : cs.length ≤ 12) (hu : ∀ x ∈ u, 0 ≤ x ∧ x ≤ 1000) (hul : u.length = cs.length + 1) (v w : Value) (h : Hp) (hv : Ints h v cs) (hw : View h w u) : CallP E 61 [v, w] h (fun r h' => ∃ T, IsTab (weighC cs u) cs.length T ∧ r = .agg ⟨tabV T⟩ ∧ Grows h h') := by
  obtain ⟨av, cp, rfl, hcell⟩ := id hv
  have hwk := hw.known
  obtain ⟨aw, cw, rfl⟩ := hwk
  have g0 : Grows h (((h.lay (.row 22 true [.slice av cs.length cp])).lay (.row 22 true [.slice aw u.length cw])).lay (.row 88 true (times [int 0] 338))) := ((Grows.lay _ _).then_lay _).then_lay _
  have at1 : (((h.lay (.row 22 true [.slice av cs.length cp])).lay (.row 22 true [.slice aw u.length cw])).lay (.row 88 true (times [int 0] 338))).at h.next = some (.row 22 true [.slice av cs.length cp]) := Hp.at_lay_old _ (Hp.at_lay_old _ (Hp.at_lay_self _ _))
  have at2 : (((h.lay (.row 22 true [.slice av cs.length cp])).lay (.row 22 true [.slice aw u.length cw])).lay (.row 88 true (times [int 0] 338))).at (h.lay (.row 22 true [.slice av cs.length cp])).next = some (.row 22 true [.slice aw u.length cw]) := Hp.at_lay_old _ (Hp.at_lay_self _ _)
  refine enter61 (by simp) ?_
  conv => whnf
  repeat (refine SeqP.go ?_; conv => whnf)
  refine ⟨_, cellAt_row at1 rfl, ?_⟩
  conv => whnf
  refine CallP.mono (filled_spec cs.length hl 83 _ (weighC cs u) _ (weigh_ok cs u hcs hl hu hul _ _ _ _ _ _ _ (hv.ext g0) at1 (hw.ext g0) at2 rfl rfl)) ?_
  rintro r h1 ⟨T, hT, rfl, g1⟩
  have g1' : Grows (((h.lay (.row 22 true [.slice av cs.length cp])).lay (.row 22 true [.slice aw u.length cw])).lay (.row 88 true (times [int 0] 338))) h1 := g1
  have at3 := g1'.at_ _ _ (Hp.at_lay_self _ _)
  have hlt := Hp.lt_of_at at3
  conv => whnf
  refine ⟨tabV_len T, _, storeAt_full (vs := tabV T) at3 (by rw [tabV_len, times_len]) (tabV_one T) (over_full (by rw [tabV_len, times_len])), ?_⟩
  conv => whnf
  repeat (refine SeqP.go ?_; conv => whnf)
  obtain ⟨ti, hti, hag, hsz⟩ := ty88
  refine leave_cell rfl hti hag (by rw [hsz]; exact tab_cells (Hp.at_set_self _ hlt)) ⟨T, hT, rfl, ?_⟩
  exact (g0.trans g1').then_set _ (by simp only [Hp.next_lay]; omega)
theorem Weighed_spec (cs u : List Int) (hcs : ∀ x ∈ cs, 1 ≤ x ∧ x ≤ 1000) (hl : cs.length ≤ 12) (hW : WOk cs u) (v w : Value) (h : Hp) (hv : Ints h v cs) (hw : View h w u) : CallP E 23 [v, w] h (fun r h' => ∃ T x q, IsTab (weighC cs u) cs.length T ∧ r = .tuple ⟨[int (T 0 cs.length).1, x, int 0]⟩ ∧ Built h h' 3 x q ∧ TPl T 0 cs.length q ∧ Grows h h') := by
  obtain ⟨av, cp, rfl, hcell⟩ := id hv
  have hwk := hw.known
  obtain ⟨aw, cw, rfl⟩ := hwk
  have hul := hW.2.2
  refine enter23 (by simp) ?_
  conv => whnf
  repeat (refine SeqP.go ?_; conv => whnf)
  refine CallP.mono (checkweights_any cs u _ _ h hv hw.ints (by omega) (by omega)) ?_
  rintro r h1 ⟨⟨e, rfl, he⟩, g1⟩
  obtain rfl := he.2.2 ⟨hl, hcs⟩ hW
  conv => whnf
  repeat (refine SeqP.go ?_; conv => whnf)
  refine cmpF (by omega) ?_
  conv => whnf
  repeat (refine SeqP.go ?_; conv => whnf)
  refine CallP.mono (weighed_spec cs u hcs hl hW.1 hul _ _ h1 (hv.ext g1) (hw.ext g1)) ?_
  rintro r h2 ⟨T, hT, rfl, g2⟩
  conv => whnf
  refine ⟨tabV_len T, _, storeAt_all (by rw [tabV_len]; rfl) (tabV_one T) (over_full (by rw [tabV_len]; rfl)), ?_⟩
  conv => whnf
  repeat (refine SeqP.go ?_; conv => whnf)
  have atc : (h2.lay (.row 88 true (tabV T))).at h2.next = some (.row 88 true (tabV T)) := Hp.at_lay_self _ _
  refine ⟨⟨by omega, by omega⟩, ?_⟩
  conv => whnf
  refine ⟨⟨by omega, by omega⟩, ?_⟩
  conv => whnf
  refine ⟨int (T 0 cs.length).1, cellAt_row atc (tab_cost' T (a := 0) (b := cs.length) (by omega) (by omega) (by rw [offAt_eq, offAt_eq]; simp)), ?_⟩
  conv => whnf
  refine ⟨tabV T, tab_cells atc, ?_⟩
  conv => whnf
  refine CallP.mono (tplan_spec cs.length hl T hT.at_ _) ?_
  rintro x h3 ⟨q, hq, hp, g3⟩
  have at3 := g3.at_ _ _ atc
  have g13 := g1.trans ((g2.then_lay (.row 88 true (tabV T))).trans g3)
  conv => whnf
  refine ⟨?_, ?_⟩
  · repeat' (first | exact True.intro | (refine And.intro ?_ ?_ <;> (conv => whnf)))
    all_goals first
      | exact sameAt_val (h2 := _) rfl (sameV_int _)
      | exact sameAt_val (h2 := _) rfl (sameV_ptr _ _)
      | exact sameAt_val (h2 := _) (show hval _ (idxAV 13 26 (ptr h2.next 0) (int 0)) = _ from idxA_val' ⟨by omega, by omega⟩) (sameV_ptr _ _)
      | exact sameAt_val (h2 := _) (show hval _ (idxAV 13 2 (ptr h2.next (offAt 0 (Int.toNat 0) 26)) (int cs.length)) = _ from idxA_val' ⟨by omega, by omega⟩) (sameV_ptr _ _)
      | exact sameAt_val (h2 := _) (congrArg (hval _) (cellAt_row atc (tab_cost' T (a := 0) (b := cs.length) (by omega) (by omega) (by rw [offAt_eq, offAt_eq]; simp)))) (sameV_int _)
      | exact sameAt_val (h2 := _) (congrArg (hval _) (cellAt_row at3 (tab_cost' T (a := 0) (b := cs.length) (by omega) (by omega) (by rw [offAt_eq, offAt_eq]; simp)))) (sameV_int _)
  have hq' := hq.back (h1 := h) (by have := g1.next; have := g2.next; simp only [Hp.next_lay]; omega)
  have hq2 := hq'
  rcases hq2 with ⟨rfl, e⟩ | ⟨rr, rfl, _⟩
  · conv => whnf
    repeat (refine SeqP.go ?_; conv => whnf)
    exact finP_three rfl rfl rfl rfl rfl rfl ⟨T, _, q, hT, rfl, hq', hp, g13⟩
  · conv => whnf
    repeat (refine SeqP.go ?_; conv => whnf)
    exact finP_three rfl rfl rfl rfl rfl rfl ⟨T, _, q, hT, rfl, hq', hp, g13⟩
end
end Go.Proofs.Yticmdpcahpimhaa
namespace Go.Proofs.Yticmdpcahpimhaa
open Go.Rx Go.RowKit
/-- The least of some candidates, as far as they have been looked at; -1 before. -/
def MinUp (cand : Nat → Int) (a k : Nat) (x : Int) : Prop := (k = 0 ∧ x = -1) ∨ (0 < k ∧ (∃ g, a ≤ g ∧ g < a + k ∧ x = cand g) ∧ ∀ j, a ≤ j → j < a + k → x ≤ cand j)
theorem MinUp.succ {cand : Nat → Int} {a k : Nat} {x : Int} (h : MinUp cand a k x) (hc : 0 ≤ cand (a + k)) (hx : 0 < k → 0 ≤ x) : MinUp cand a (k + 1) (if x < 0 ∨ cand (a + k) < x then cand (a + k) else x) := by
  right
  refine ⟨by omega, ?_⟩
  rcases h with ⟨rfl, rfl⟩ | ⟨hk, ⟨g, h1, h2, rfl⟩, h3⟩
  · rw [if_pos (.inl (by omega))]
    refine ⟨⟨a, by omega, by omega, rfl⟩, fun j hj1 hj2 => ?_⟩
    have : j = a := by omega
    subst this
    exact Int.le_refl _
  · have := hx hk
    by_cases hcc : cand (a + k) < cand g
    · rw [if_pos (.inr hcc)]
      refine ⟨⟨a + k, by omega, by omega, rfl⟩, fun j hj1 hj2 => ?_⟩
      by_cases hjk : j = a + k
      · subst hjk; exact Int.le_refl _
      · have := h3 j hj1 (by omega); omega
    · rw [if_neg (by omega)]
      refine ⟨⟨g, h1, by omega, rfl⟩, fun j hj1 hj2 => ?_⟩
      by_cases hjk : j = a + k
      · subst hjk; omega
      · exact h3 j hj1 (by omega)
def IsMin (C : CostF) (n : Nat) (L : Nat → Nat → Int) : Prop := (∀ a b, a < b → b ≤ n → MinUp (fun g => C a b g (L a g) (L (g + 1) b)) a (b - a) (L a b)) ∧ ∀ a, a ≤ n → L a a = 0
theorem IsTab.min {C : CostF} {n : Nat} {T : Tab} (h : IsTab C n T) : IsMin C n fun a b => (T a b).1 := by
  refine ⟨fun a b hab hb => ?_, fun a _ => h.2 a⟩
  rcases (h.1 a b hab hb).1 with ⟨h0, _⟩ | ⟨hk, g, h1, h2, h3, h4⟩
  · omega
  · refine .inr ⟨hk, ⟨g, h1, h2, by show (T a b).1 = _; rw [h3]; rfl⟩, fun j hj1 hj2 => ?_⟩
    show (T a b).1 ≤ _
    rw [h3]
    exact (h4 j hj1 hj2).1
theorem IsMin.uniq {C : CostF} {n : Nat} {L M : Nat → Nat → Int} (h : IsMin C n L) (k : IsMin C n M) (m : Nat) : ∀ a b, b - a ≤ m → a ≤ b → b ≤ n → L a b = M a b := by
  induction m with
  | zero =>
    intro a b hm hab hb
    obtain rfl : a = b := by omega
    rw [h.2 a hb, k.2 a hb]
  | succ m ih =>
    intro a b hm hab hb
    by_cases e : a = b
    · subst e
      rw [h.2 a hb, k.2 a hb]
    have hc : ∀ g, a ≤ g → g < b → C a b g (L a g) (L (g + 1) b) = C a b g (M a g) (M (g + 1) b) := fun g h1 h2 => by
      rw [ih a g (by omega) h1 (by omega), ih (g + 1) b (by omega) (by omega) hb]
    rcases h.1 a b (by omega) hb with ⟨h0, _⟩ | ⟨_, ⟨g, h1, h2, h3⟩, h4⟩
    · omega
    rcases k.1 a b (by omega) hb with ⟨h0, _⟩ | ⟨_, ⟨g', k1, k2, k3⟩, k4⟩
    · omega
    have x1 := h4 g' k1 k2
    have x2 := k4 g h1 h2
    dsimp only at h3 k3 x1 x2
    rw [hc g' k1 (by omega)] at x1
    rw [← hc g h1 (by omega)] at x2
    omega
theorem IsTab.val {C : CostF} {n : Nat} {T : Tab} (h : IsTab C n T) {a b g : Nat} (hab : a < b) (hb : b ≤ n) (e : (T a b).2 = (g : Int)) : (T a b).1 = C a b g (T a g).1 (T (g + 1) b).1 := by
  obtain ⟨g', h1, h2, h3⟩ := (h.1 a b hab hb).1.at_nonneg (by omega)
  rw [h3] at e
  have : g' = g := by have e' : (g' : Int) = (g : Int) := e; omega
  subst this
  rw [h3]
  rfl
theorem cost_get (cs : List Int) (g : Nat) : cost cs (g : Int) = cs[g]?.getD 0 := by
  unfold cost
  rw [Int.toNat_natCast, List.getD_eq_getElem?_getD]
theorem tpl_worst (cs : List Int) (T : Tab) (hT : IsTab (worstC cs) cs.length T) : ∀ (k a b : Nat) (q : List Int), TPl T a b q → b - a ≤ k → b ≤ cs.length →
    (∀ i, a ≤ i → i ≤ b → ((ans k a q i).map (cost cs)).sum ≤ (T a b).1) ∧ ∃ i, a ≤ i ∧ i ≤ b ∧ ((ans k a q i).map (cost cs)).sum = (T a b).1 := by
  intro k
  induction k with
  | zero =>
    intro a b q hp hk hb
    cases hp with
    | nil =>
      rw [hT.2 a]
      simp only [ans_nil]
      exact ⟨fun i _ _ => by simp, a, Nat.le_refl _, Nat.le_refl _, by simp⟩
    | node l1 l2 => omega
  | succ k ih =>
    intro a b q hp hk hb
    cases hp with
    | nil =>
      rw [hT.2 a]
      simp only [ans_nil]
      exact ⟨fun i _ _ => by simp, a, Nat.le_refl _, Nat.le_refl _, by simp⟩
    | @node _ _ g q1 q2 l1 l2 e p1 p2 =>
      have ev := hT.val (by omega) hb e
      obtain ⟨u1, i1, a1, b1, c1⟩ := ih a g q1 p1 (by omega) (by omega)
      obtain ⟨u2, i2, a2, b2, c2⟩ := ih (g + 1) b q2 p2 (by omega) hb
      have step : ∀ i, ((ans (k + 1) a ([(g : Int)] ++ q1 ++ q2) i).map (cost cs)).sum = cs[g]?.getD 0 + (if i ≤ g then ((ans k a q1 i).map (cost cs)).sum else ((ans k (g + 1) q2 i).map (cost cs)).sum) := by
        intro i
        rw [ans_node p1.pl p2.pl, List.map_cons, List.sum_cons, cost_get]
        split <;> rfl
      simp only [step]
      rw [ev]
      unfold worstC
      refine ⟨fun i hi1 hi2 => ?_, ?_⟩
      · by_cases hi : i ≤ g
        · rw [if_pos hi]
          have := u1 i hi1 hi
          omega
        · rw [if_neg hi]
          have := u2 i (by omega) hi2
          omega
      · by_cases hm : (T a g).1 ≤ (T (g + 1) b).1
        · exact ⟨i2, by omega, b2, by rw [if_neg (by omega), c2]; omega⟩
        · exact ⟨i1, a1, by omega, by rw [if_pos b1, c1]; omega⟩
/-- Sums of some numbers that follow each other. -/
def Sf (f : Nat → Int) (a : Nat) : Nat → Int
  | 0 => 0
  | m + 1 => Sf f a m + f (a + m)
theorem Sf_add (f : Nat → Int) (a m k : Nat) : Sf f a (m + k) = Sf f a m + Sf f (a + m) k := by
  induction k with
  | zero => simp [Sf]
  | succ k ih =>
    show Sf f a (m + k) + f (a + (m + k)) = Sf f a m + (Sf f (a + m) k + f (a + m + k))
    rw [ih, Nat.add_assoc]
    omega
theorem Sf_congr {f h : Nat → Int} {a : Nat} : ∀ {m : Nat}, (∀ i, a ≤ i → i < a + m → f i = h i) → Sf f a m = Sf h a m
  | 0, _ => rfl
  | m + 1, k => by
    show Sf f a m + _ = Sf h a m + _
    rw [Sf_congr (fun i h1 h2 => k i h1 (by omega)), k (a + m) (by omega) (by omega)]
theorem Sf_lin (u x : Nat → Int) (c : Int) (a : Nat) : ∀ m, Sf (fun i => (c + x i) * u i) a m = c * Sf u a m + Sf (fun i => x i * u i) a m
  | 0 => by simp [Sf]
  | m + 1 => by
    show Sf _ a m + (c + x (a + m)) * u (a + m) = c * (Sf u a m + u (a + m)) + (Sf _ a m + x (a + m) * u (a + m))
    rw [Sf_lin u x c a m, Int.add_mul, Int.mul_add]
    omega
theorem Sf_range (f : Nat → Int) : ∀ m, ((List.range m).map f).sum = Sf f 0 m
  | 0 => rfl
  | m + 1 => by
    rw [List.range_succ, List.map_append, List.sum_append, Sf_range f m]
    show _ = Sf f 0 m + f (0 + m)
    simp
theorem Sf_part (u : List Int) (a : Nat) : ∀ m, a + m ≤ u.length → ((u.drop a).take m).sum = Sf (fun i => u.getD i 0) a m
  | 0, _ => by simp [Sf]
  | m + 1, h => by
    rw [sum_take_succ (by rw [List.length_drop]; omega), Sf_part u a m (by omega)]
    show _ = Sf _ a m + u.getD (a + m) 0
    rw [List.getElem_drop, getD_at (by omega)]
theorem partSum_Sf {u : List Int} {a b : Nat} (hab : a ≤ b) (hb : b < u.length) : partSum u a b = Sf (fun i => u.getD i 0) a (b + 1 - a) := Sf_part u a _ (by omega)
theorem tpl_weigh (cs u : List Int) (hul : u.length = cs.length + 1) (T : Tab) (hT : IsTab (weighC cs u) cs.length T) : ∀ (k a b : Nat) (q : List Int), TPl T a b q → b - a ≤ k → b ≤ cs.length →
    Sf (fun i => ((ans k a q i).map (cost cs)).sum * u.getD i 0) a (b + 1 - a) = (T a b).1 := by
  have nil : ∀ k a m, Sf (fun i => ((ans k a [] i).map (cost cs)).sum * u.getD i 0) a m = 0 := by
    intro k a m
    induction m with
    | zero => rfl
    | succ m ih =>
      show Sf _ a m + _ = 0
      rw [ih]
      show 0 + ((ans k a [] (a + m)).map (cost cs)).sum * u.getD (a + m) 0 = 0
      rw [ans_nil]
      simp
  intro k
  induction k with
  | zero =>
    intro a b q hp hk hb
    cases hp with
    | nil => rw [hT.2 a, nil]
    | node l1 l2 => omega
  | succ k ih =>
    intro a b q hp hk hb
    cases hp with
    | nil => rw [hT.2 a, nil]
    | @node _ _ g q1 q2 l1 l2 e p1 p2 =>
      have ev := hT.val (by omega) hb e
      have i1 := ih a g q1 p1 (by omega) (by omega)
      have i2 := ih (g + 1) b q2 p2 (by omega) hb
      have step : Sf (fun i => ((ans (k + 1) a ([(g : Int)] ++ q1 ++ q2) i).map (cost cs)).sum * u.getD i 0) a (b + 1 - a) = Sf (fun i => (cs[g]?.getD 0 + (if i ≤ g then ((ans k a q1 i).map (cost cs)).sum else ((ans k (g + 1) q2 i).map (cost cs)).sum)) * u.getD i 0) a (b + 1 - a) := by
        refine Sf_congr fun i _ _ => ?_
        rw [ans_node p1.pl p2.pl, List.map_cons, List.sum_cons, cost_get]
        split <;> rfl
      rw [step, Sf_lin, ev]
      unfold weighC
      rw [partSum_Sf (by omega) (by omega)]
      have sp : b + 1 - a = (g + 1 - a) + (b + 1 - (g + 1)) := by omega
      have s1 : Sf (fun i => (if i ≤ g then ((ans k a q1 i).map (cost cs)).sum else ((ans k (g + 1) q2 i).map (cost cs)).sum) * u.getD i 0) a (b + 1 - a) = (T a g).1 + (T (g + 1) b).1 := by
        rw [sp, Sf_add, show a + (g + 1 - a) = g + 1 by omega, ← i1, ← i2]
        congr 1
        · exact Sf_congr fun i h1 h2 => by rw [if_pos (by omega)]
        · exact Sf_congr fun i h1 h2 => by rw [if_neg (by omega)]
      rw [s1]
      omega
theorem paid_get (cs q : List Int) {i : Nat} {hi : i < (pricesOf cs q).length} : (pricesOf cs q)[i] = ((ans cs.length 0 q i).map (cost cs)).sum := by simp [pricesOf, paid]
theorem dots_tab (cs u q : List Int) (hul : u.length = cs.length + 1) (T : Tab) (hT : IsTab (weighC cs u) cs.length T) (hq : TPl T 0 cs.length q) : (dots (pricesOf cs q) u).sum = (T 0 cs.length).1 := by
  rw [← tpl_weigh cs u hul T hT cs.length 0 cs.length q hq (by omega) (Nat.le_refl _)]
  unfold dots
  rw [Sf_range, show (pricesOf cs q).length = cs.length + 1 - 0 by simp [pricesOf]]
  refine Sf_congr fun i h1 h2 => ?_
  have hi : i < (pricesOf cs q).length := by simp [pricesOf]; omega
  rw [getD_at hi, paid_get]
theorem worst_tab (cs q : List Int) (T : Tab) (hT : IsTab (worstC cs) cs.length T) (hq : TPl T 0 cs.length q) : (∀ x ∈ pricesOf cs q, x ≤ (T 0 cs.length).1) ∧ (T 0 cs.length).1 ∈ pricesOf cs q := by
  obtain ⟨h1, i, _, h3, h4⟩ := tpl_worst cs T hT cs.length 0 cs.length q hq (by omega) (Nat.le_refl _)
  constructor
  · intro x hx
    obtain ⟨i, hi, rfl⟩ := List.mem_map.1 hx
    exact h1 i (by omega) (by have := List.mem_range.1 hi; omega)
  · exact List.mem_map.2 ⟨i, List.mem_range.2 (by omega), h4⟩
end Go.Proofs.Yticmdpcahpimhaa
namespace Go.Proofs.Yticmdpcahpimhaa
open Go.Rx Go.RowKit
def updL (L : Nat → Nat → Int) (a b : Nat) (x : Int) : Nat → Nat → Int := fun i j => if i = a ∧ j = b then x else L i j
def nilV : Value := .slice none 0 0
/-- The reference's table in memory: the rows from the fr-th on are there. -/
structure LM (h0 H : Hp) (r0 N fr : Nat) (R : Nat → Nat) (L : Nat → Nat → Int) : Prop where
  gr : Grows h0 H
  out : H.at r0 = some (.row 22 true (rowV N (fun a => if fr ≤ a then slc (R a) 0 N N else nilV)))
  r0n : h0.next ≤ r0
  row : ∀ a, fr ≤ a → a < N → H.at (R a) = some (.row 3 true (rowF N (L a)))
  inj : ∀ a b, fr ≤ a → a < N → fr ≤ b → b < N → R a = R b → a = b
  ge : ∀ a, fr ≤ a → a < N → h0.next ≤ R a
theorem LM.set {h0 H : Hp} {r0 N fr : Nat} {R : Nat → Nat} {L : Nat → Nat → Int} (m : LM h0 H r0 N fr R L) {a b o : Nat} {x : Int} (ha : fr ≤ a) (hN : a < N) (ho : o = b) : LM h0 (H.set (R a) (.row 3 true ((rowF N (L a)).set o (int x)))) r0 N fr R (updL L a b x) := by
  subst ho
  have hne : r0 ≠ R a := fun e => by
    have h1 := m.out
    rw [e, m.row a ha hN] at h1
    cases h1
  refine ⟨m.gr.then_set _ (m.ge a ha hN), by rw [Hp.at_set_ne _ hne]; exact m.out, m.r0n, fun a' h1 h2 => ?_, m.inj, m.ge⟩
  by_cases e : a' = a
  · subst e
    rw [Hp.at_set_self _ (Hp.lt_of_at (m.row a' h1 h2)), rowF_set]
    refine congrArg (fun l => some (Rx.Obj.row 3 true l)) (rowF_congr fun k _ => ?_)
    unfold updL
    by_cases hk : k = o
    · rw [if_pos hk, if_pos ⟨rfl, hk⟩]
    · rw [if_neg hk, if_neg (by omega)]
  · rw [Hp.at_set_ne _ (fun e2 => e (m.inj _ _ h1 h2 ha hN e2)), m.row a' h1 h2]
    refine congrArg (fun l => some (Rx.Obj.row 3 true l)) (rowF_congr fun k _ => ?_)
    unfold updL
    rw [if_neg (by omega)]
theorem LM.new {h0 H : Hp} {r0 N fr : Nat} {R : Nat → Nat} {L : Nat → Nat → Int} (m : LM h0 H r0 N (fr + 1) R L) {o : Nat} (hN : fr < N) (ho : o = fr) :
    LM h0 ((H.lay (.row 3 true (times [int 0] N))).set r0 (.row 22 true ((rowV N (fun a => if fr + 1 ≤ a then slc (R a) 0 N N else nilV)).set o (slc H.next 0 N N)))) r0 N fr (fun a => if a = fr then H.next else R a) (fun a b => if a = fr then 0 else L a b) := by
  subst ho
  have hlt := Hp.lt_of_at m.out
  have hltR : ∀ a, o + 1 ≤ a → a < N → R a < H.next := fun a h1 h2 => Hp.lt_of_at (m.row a h1 h2)
  have hneR : ∀ a, o + 1 ≤ a → a < N → R a ≠ r0 := fun a h1 h2 e => by
    have h3 := m.out
    rw [← e, m.row a h1 h2] at h3
    cases h3
  refine ⟨(m.gr.then_lay _).then_set _ m.r0n, ?_, m.r0n, fun a h1 h2 => ?_, fun a b h1 h2 h3 h4 e => ?_, fun a h1 h2 => ?_⟩
  · rw [Hp.at_set_self _ (by rw [Hp.next_lay]; omega), rowV_set]
    refine congrArg (fun l => some (Rx.Obj.row 22 true l)) (rowV_congr fun k _ => ?_)
    by_cases hk : k = o
    · rw [if_pos hk, if_pos (by omega), if_pos hk]
    · rw [if_neg hk, if_neg hk]
      by_cases h5 : o + 1 ≤ k
      · rw [if_pos h5, if_pos (by omega)]
      · rw [if_neg h5, if_neg (by omega)]
  · by_cases e : a = o
    · subst e
      rw [if_pos rfl, Hp.at_set_ne _ (by omega), Hp.at_lay_self, times_zero]
      refine congrArg (fun l => some (Rx.Obj.row 3 true l)) (rowF_congr fun k _ => ?_)
      rw [if_pos rfl]
    · rw [if_neg e, Hp.at_set_ne _ (hneR a (by omega) h2)]
      rw [Hp.at_lay_old _ (m.row a (by omega) h2)]
      refine congrArg (fun l => some (Rx.Obj.row 3 true l)) (rowF_congr fun k _ => ?_)
      rw [if_neg e]
  · by_cases e1 : a = o
    · by_cases e2 : b = o
      · omega
      · rw [if_pos e1, if_neg e2] at e
        have := hltR b (by omega) h4
        omega
    · by_cases e2 : b = o
      · rw [if_neg e1, if_pos e2] at e
        have := hltR a (by omega) h2
        omega
      · rw [if_neg e1, if_neg e2] at e
        exact m.inj a b (by omega) h2 (by omega) h4 e
  · by_cases e : a = o
    · rw [if_pos e]; exact m.gr.next
    · rw [if_neg e]; exact m.ge a (by omega) h2
theorem LM.congr {h0 H : Hp} {r0 N fr : Nat} {R : Nat → Nat} {L M : Nat → Nat → Int} (m : LM h0 H r0 N fr R L) (e : ∀ a b, L a b = M a b) : LM h0 H r0 N fr R M := by
  have : L = M := funext fun a => funext fun b => e a b
  rw [← this]; exact m
/-- How far the table is right: the parts that begin behind fr, and those that begin at fr and end before t. -/
structure Rdy (C : CostF) (n : Nat) (L : Nat → Nat → Int) (fr t : Nat) : Prop where
  ok : ∀ a b, a < b → b ≤ n → (fr < a ∨ a = fr ∧ b < t) → MinUp (fun g => C a b g (L a g) (L (g + 1) b)) a (b - a) (L a b) ∧ Bd (b - a) (L a b)
  diag : ∀ a, fr ≤ a → a ≤ n → L a a = 0
theorem Rdy.bd {C : CostF} {n : Nat} {L : Nat → Nat → Int} {fr t a b : Nat} (h : Rdy C n L fr t) (hab : a ≤ b) (hb : b ≤ n) (hf : fr < a ∨ a = fr ∧ b < t) : Bd (b - a) (L a b) := by
  by_cases e : a = b
  · subst e
    rw [h.diag a (by omega) hb]
    unfold Bd K
    omega
  · exact (h.ok a b (by omega) hb hf).2
theorem MinUp.congr {f h : Nat → Int} {a k : Nat} {x : Int} (m : MinUp f a k x) (e : ∀ g, a ≤ g → g < a + k → f g = h g) : MinUp h a k x := by
  rcases m with m | ⟨hk, ⟨g, h1, h2, h3⟩, h4⟩
  · exact .inl m
  · exact .inr ⟨hk, ⟨g, h1, h2, by rw [h3, e g h1 h2]⟩, fun j j1 j2 => by rw [← e j j1 j2]; exact h4 j j1 j2⟩
theorem Rdy.upd {C : CostF} {n : Nat} {L : Nat → Nat → Int} {fr t : Nat} {x : Int} (h : Rdy C n L fr t) (h1 : fr < t) (h2 : t ≤ n) (hx : MinUp (fun g => C fr t g (L fr g) (L (g + 1) t)) fr (t - fr) x) (hb : Bd (t - fr) x) : Rdy C n (updL L fr t x) fr (t + 1) := by
  refine ⟨fun a b hab hbn hf => ?_, fun a ha hn => by unfold updL; rw [if_neg (by omega)]; exact h.diag a ha hn⟩
  by_cases e : a = fr ∧ b = t
  · obtain ⟨rfl, rfl⟩ := e
    have e1 : updL L a b x a b = x := by unfold updL; rw [if_pos ⟨rfl, rfl⟩]
    rw [e1]
    refine ⟨hx.congr fun g g1 g2 => ?_, hb⟩
    unfold updL
    rw [if_neg (by omega), if_neg (by omega)]
  · have e1 : updL L fr t x a b = L a b := by unfold updL; rw [if_neg e]
    rw [e1]
    obtain ⟨k1, k2⟩ := h.ok a b hab hbn (by omega)
    refine ⟨k1.congr fun g g1 g2 => ?_, k2⟩
    unfold updL
    rw [if_neg (by omega), if_neg (by omega)]
theorem Rdy.start {C : CostF} {n : Nat} {L : Nat → Nat → Int} {fr t : Nat} (h : Rdy C n L fr t) (ht : n < t) {fr' : Nat} (e : fr = fr' + 1) : Rdy C n (fun a b => if a = fr' then 0 else L a b) fr' (fr' + 1) := by
  refine ⟨fun a b hab hbn hf => ?_, fun a ha hn => ?_⟩
  · have ha : fr ≤ a := by omega
    obtain ⟨k1, k2⟩ := h.ok a b hab hbn (by omega)
    rw [if_neg (by omega)]
    refine ⟨k1.congr fun g g1 g2 => ?_, k2⟩
    rw [if_neg (by omega), if_neg (by omega)]
  · by_cases e2 : a = fr'
    · rw [if_pos e2]
    · rw [if_neg e2]; exact h.diag a (by omega) hn
def leastC (cs u : List Int) : CostF := if u.length = 0 then worstC cs else weighC cs u
theorem least_bd (cs u : List Int) (hcs : ∀ x ∈ cs, 1 ≤ x ∧ x ≤ 1000) (hl : cs.length ≤ 12) (hu : ∀ x ∈ u, 0 ≤ x ∧ x ≤ 1000) (hul : u.length ≤ 13) (a b g : Nat) (x y : Int) (h1 : a ≤ g) (h2 : g < b) (h3 : b ≤ cs.length) (hx : Bd (g - a) x) (hy : Bd (b - (g + 1)) y) : Bd (b - a) (leastC cs u a b g x y) := by
  have hg : 1 ≤ cs[g]?.getD 0 ∧ cs[g]?.getD 0 ≤ 1000 := by
    rw [List.getElem?_eq_getElem (show g < cs.length by omega)]
    exact hcs _ (List.getElem_mem (show g < cs.length by omega))
  have h4 := mul_bd (p := cs[g]?.getD 0) (u := partSum u a b) (a := 1000) (b := 13000) (by omega) (partSum_bd hu hul a b)
  unfold leastC
  split
  · unfold Bd K worstC at *
    omega
  · unfold Bd K weighC at *
    omega
end Go.Proofs.Yticmdpcahpimhaa
namespace Go.Proofs.Yticmdpcahpimhaa
open Go.Rx Go.RowKit
theorem LM.cellO {h0 H : Hp} {r0 N fr : Nat} {R : Nat → Nat} {L : Nat → Nat → Int} (m : LM h0 H r0 N fr R L) {a : Nat} (ha : fr ≤ a) (hN : a < N) : cellAt H r0 (offAt 0 a 1) = some (slc (R a) 0 N N) :=
  cellAt_row m.out (by rw [offAt_eq, Nat.zero_add, Nat.mul_one, rowV_get hN, if_pos ha])
theorem LM.cell {h0 H : Hp} {r0 N fr : Nat} {R : Nat → Nat} {L : Nat → Nat → Int} (m : LM h0 H r0 N fr R L) {a b : Nat} (ha : fr ≤ a) (hN : a < N) (hb : b < N) : cellAt H (R a) (offAt 0 b 1) = some (int (L a b)) :=
  cellAt_row (m.row a ha hN) (by rw [offAt_eq, Nat.zero_add, Nat.mul_one, rowF_get hb])
theorem Rdy.mono {C : CostF} {n : Nat} {L : Nat → Nat → Int} {fr t : Nat} (h : Rdy C n L fr (t + 1)) : Rdy C n L fr t := ⟨fun a b h1 h2 h3 => h.ok a b h1 h2 (by omega), h.diag⟩
theorem Rdy.first {C : CostF} {n : Nat} {L : Nat → Nat → Int} {fr : Nat} (h : Rdy C n L fr fr) : Rdy C n L fr (fr + 1) := ⟨fun a b h1 h2 h3 => h.ok a b h1 h2 (by omega), h.diag⟩
def sumOf (u : List Int) (a t : Nat) : Int := if u.length = 0 then 0 else Sf (fun i => u.getD i 0) a (t - a)
theorem sumOf_self (u : List Int) (a : Nat) : sumOf u a a = 0 := by
  unfold sumOf
  rw [Nat.sub_self]
  split <;> rfl
theorem sumOf_succ {u : List Int} {a t : Nat} (hu : u.length ≠ 0) (h : a ≤ t) (ht : t < u.length) : sumOf u a (t + 1) = sumOf u a t + u[t] := by
  unfold sumOf
  rw [if_neg hu, if_neg hu, show t + 1 - a = (t - a) + 1 by omega]
  show Sf _ a (t - a) + u.getD (a + (t - a)) 0 = _
  rw [show a + (t - a) = t by omega, getD_at ht]
theorem sumOf_zero {u : List Int} (hu : u.length = 0) (a t : Nat) : sumOf u a t = 0 := by
  unfold sumOf
  rw [if_pos hu]
theorem sumOf_part {u : List Int} {a t : Nat} (hu : u.length ≠ 0) (h : a ≤ t) (ht : t < u.length) : sumOf u a (t + 1) = partSum u a t := by
  unfold sumOf
  rw [if_neg hu, partSum_Sf h ht]
structure LSt where
  t : Nat
  L : Nat → Nat → Int
  H : Hp
attribute [local irreducible] E idxN cellAt cellsAt storeAt callable helems hmoved lookIn findKey keyOk hentries Hp.at Hp.set Hp.lay arBits hupdated setAt CallP YieldP BoolOf IsWrap Rnd LoopP AppP CutP Int.tmod Int.tdiv Int.fdiv
section
variable [Unknowns]
attribute [local irreducible] SeqP ResP
theorem least_spec (cs u : List Int) (hn : cs.length ≤ 12) (hcs : ∀ x ∈ cs, 1 ≤ x ∧ x ≤ 1000) (hu : ∀ x ∈ u, 0 ≤ x ∧ x ≤ 1000) (hul : u.length = 0 ∨ u.length = cs.length + 1) (v w : Value) (h : Hp) (hv : Ints h v cs) (hw : Ints h w u) : CallP E 34 [v, w, int 0, int cs.length] h (fun r h' => (∃ L, IsMin (leastC cs u) cs.length L ∧ r = int (L 0 cs.length)) ∧ Grows h h') := by
  obtain ⟨av, cp, rfl, hcell⟩ := id hv
  obtain ⟨aw, cw, rfl, hcw⟩ := id hw
  have hget : ∀ g, (hg : g < cs.length) → 1 ≤ cs[g] ∧ cs[g] ≤ 1000 := fun g hg => hcs _ (List.getElem_mem hg)
  have hsum : ∀ a t, a ≤ t → t < u.length ∨ u.length = 0 → 0 ≤ sumOf u a (t + 1) ∧ sumOf u a (t + 1) ≤ 13000 := by
    intro a t h1 h2
    by_cases hz : u.length = 0
    · rw [sumOf_zero hz]; omega
    · rw [sumOf_part hz h1 (by omega)]; exact partSum_bd hu (by omega) a t
  refine enter34 (by simp) ?_
  conv => whnf
  repeat (refine SeqP.go ?_; conv => whnf)
  refine ⟨((cs.length + 1 : Nat) : Int), wie (by omega) (by omega), ?_⟩
  conv => whnf
  repeat (refine SeqP.go ?_; conv => whnf)
  refine ⟨⟨by omega, by omega, by omega, by omega⟩, ?_⟩
  conv => whnf
  repeat (refine SeqP.go ?_; conv => whnf)
  refine ⟨((cs.length : Nat) : Int), wie (by omega) (by omega), ?_⟩
  conv => whnf
  have e0 : times [.slice none 0 0] ((cs.length + 1 : Nat) : Int).toNat = rowV (cs.length + 1) (fun a => if cs.length + 1 ≤ a then slc 0 0 (cs.length + 1) (cs.length + 1) else nilV) := by
    rw [times_one, Int.toNat_natCast]; exact rowV_congr (fun k hk => by rw [if_neg (by omega)]; rfl)
  rw [e0]
  have m0 : LM h (h.lay (.row 22 true (rowV (cs.length + 1) (fun a => if cs.length + 1 ≤ a then slc 0 0 (cs.length + 1) (cs.length + 1) else nilV)))) h.next (cs.length + 1) (cs.length + 1) (fun _ => 0) (fun _ _ => 0) :=
    ⟨Grows.lay _ _, Hp.at_lay_self _ _, Nat.le_refl _, fun a h1 h2 => by omega, fun a b h1 h2 => by omega, fun a h1 h2 => by omega⟩
  have hr0 : Rdy (leastC cs u) cs.length (fun _ _ => 0) (cs.length + 1) (cs.length + 1) := ⟨fun a b h1 h2 h3 => by omega, fun a h1 h2 => rfl⟩
  refine loop_inv (α := Int × Nat × (Nat → Nat) × (Nat → Nat → Int) × Hp) (fun s => [(11, int s.1), (9, int (cs.length + 1 : Nat)), (10, slc h.next 0 (cs.length + 1) (cs.length + 1)), (0, .slice av cs.length cp), (1, .slice aw u.length cw), (2, int 0), (3, int cs.length)]) (fun s => s.2.2.2.2) (fun s => s.1 = (s.2.1 : Int) - 1 ∧ s.2.1 ≤ cs.length + 1 ∧ LM h s.2.2.2.2 h.next (cs.length + 1) s.2.1 s.2.2.1 s.2.2.2.1 ∧ Rdy (leastC cs u) cs.length s.2.2.2.1 s.2.1 (cs.length + 1)) (fun s => s.2.1) ((cs.length : Int), cs.length + 1, (fun _ => 0), (fun _ _ => 0), _) ⟨by show (cs.length : Int) = ((cs.length + 1 : Nat) : Int) - 1; omega, Nat.le_refl _, m0, hr0⟩ ⟨rfl, rfl, rfl, rfl, rfl, rfl, rfl, trivial⟩ (Hp.Le.refl _) ?_
  rintro ⟨z, j, R, L, H⟩ φ ⟨hz, hj, hm, hr⟩
  dsimp only at hz hj hm hr ⊢
  conv => whnf
  repeat (refine SeqP.go ?_; conv => whnf)
  refine cmpB (fun hb1 => ?_) (fun hb1 => ?_)
  rotate_left
  · obtain rfl : j = 0 := by omega
    conv => whnf
    repeat (refine SeqP.go ?_; conv => whnf)
    refine ⟨rfl, ⟨by omega, by omega⟩, ?_⟩
    conv => whnf
    refine ⟨_, hm.cellO (a := 0) (Nat.le_refl _) (by omega), ?_⟩
    conv => whnf
    refine ⟨rfl, ⟨by omega, by omega⟩, ?_⟩
    conv => whnf
    refine ⟨_, hm.cell (a := 0) (b := cs.length) (Nat.le_refl _) (by omega) (by omega), ?_⟩
    conv => whnf
    repeat (refine SeqP.go ?_; conv => whnf)
    exact ⟨⟨L, ⟨fun a b h1 h2 => (hr.ok a b h1 h2 (by omega)).1, fun a h1 => hr.diag a (Nat.zero_le _) h1⟩, rfl⟩, hm.gr⟩
  have hfr : ∃ fr, j = fr + 1 := ⟨j - 1, by omega⟩
  obtain ⟨fr, rfl⟩ := hfr
  obtain rfl : z = (fr : Int) := by omega
  conv => whnf
  refine SeqP.cut (α := (Nat → Nat) × (Nat → Nat → Int) × Hp) (fun _ => [(11, int fr), (9, int (cs.length + 1 : Nat)), (10, slc h.next 0 (cs.length + 1) (cs.length + 1)), (0, .slice av cs.length cp), (1, .slice aw u.length cw), (2, int 0), (3, int cs.length)]) (fun s H' => H' = s.2.2 ∧ LM h s.2.2 h.next (cs.length + 1) fr s.1 s.2.1 ∧ Rdy (leastC cs u) cs.length s.2.1 fr (cs.length + 1)) ?_ ?_
  rotate_left
  · rintro ⟨R', L', H'⟩ φ' _ ⟨rfl, hm', hr'⟩
    dsimp only at hm' hr' ⊢
    conv => whnf
    refine ⟨(fr : Int) - 1, wie rfl (by omega), ?_⟩
    conv => whnf
    exact Rnd.mk ((fr : Int) - 1, fr, R', L', _) ⟨rfl, by show fr ≤ _; omega, hm', hr'⟩ (by show fr < fr + 1; omega) ⟨rfl, rfl, rfl, rfl, rfl, rfl, rfl, trivial⟩ (Hp.Le.refl _) rfl
  conv => whnf
  repeat (refine SeqP.go ?_; conv => whnf)
  refine ⟨⟨by omega, by omega, by omega, by omega⟩, ?_⟩
  conv => whnf
  refine ⟨rfl, ⟨by omega, by omega⟩, ?_⟩
  conv => whnf
  refine ⟨rfl, _, storeAt_row (Hp.at_lay_old _ hm.out) (by rw [offAt_eq, rowV_length, Int.toNat_natCast]; omega) rfl, ?_⟩
  have hm1 := hm.new (o := offAt 0 ((fr : Int)).toNat 1) (by omega) (by rw [offAt_eq, Int.toNat_natCast]; omega)
  have hr1 := (hr.start (by omega) rfl).mono
  conv => whnf
  repeat (refine SeqP.go ?_; conv => whnf)
  refine loop_inv (α := Nat × (Nat → Nat → Int) × Hp) (fun s => [(13, int s.1), (12, int (sumOf u fr s.1)), (11, int fr), (9, int (cs.length + 1 : Nat)), (10, slc h.next 0 (cs.length + 1) (cs.length + 1)), (0, .slice av cs.length cp), (1, .slice aw u.length cw), (2, int 0), (3, int cs.length)]) (fun s => s.2.2) (fun s => fr ≤ s.1 ∧ s.1 ≤ cs.length + 1 ∧ LM h s.2.2 h.next (cs.length + 1) fr (fun a => if a = fr then H.next else R a) s.2.1 ∧ Rdy (leastC cs u) cs.length s.2.1 fr s.1) (fun s => cs.length + 1 - s.1) (fr, _, _) ⟨Nat.le_refl _, by omega, hm1, hr1⟩ ⟨rfl, congrArg int (sumOf_self u fr).symm, rfl, rfl, rfl, rfl, rfl, rfl, rfl, trivial⟩ (Hp.Le.refl _) ?_
  clear hm hr hm1 hr1
  have hexR : ∃ R' : Nat → Nat, R' = fun a => if a = fr then H.next else R a := ⟨_, rfl⟩
  obtain ⟨R1, eR⟩ := hexR
  rw [← eR]
  clear eR
  rintro ⟨t, L, H1⟩ φ1 ⟨ht1, ht2, hm, hr⟩
  dsimp only at ht1 ht2 hm hr ⊢
  conv => whnf
  repeat (refine SeqP.go ?_; conv => whnf)
  refine cmpB (fun hb2 => ?_) (fun hb2 => ?_)
  rotate_left
  · conv => whnf
    repeat (refine SeqP.go ?_; conv => whnf)
    have : t = cs.length + 1 := by omega
    subst this
    exact ⟨(R1, L, H1), ⟨rfl, rfl, rfl, rfl, rfl, rfl, rfl, trivial⟩, ⟨rfl, hm, hr⟩, rfl⟩
  have hS := hsum fr t ht1 (by omega)
  conv => whnf
  refine SeqP.cut (α := (Nat → Nat → Int) × Hp) (fun _ => [(13, int t), (12, int (sumOf u fr (t + 1))), (11, int fr), (9, int (cs.length + 1 : Nat)), (10, slc h.next 0 (cs.length + 1) (cs.length + 1)), (0, .slice av cs.length cp), (1, .slice aw u.length cw), (2, int 0), (3, int cs.length)]) (fun s H' => H' = s.2 ∧ LM h s.2 h.next (cs.length + 1) fr R1 s.1 ∧ Rdy (leastC cs u) cs.length s.1 fr (t + 1)) ?_ ?_
  rotate_left
  · rintro ⟨L', H'⟩ φ' _ ⟨rfl, hm', hr'⟩
    dsimp only at hm' hr' ⊢
    conv => whnf
    refine ⟨((t + 1 : Nat) : Int), wie (by omega) (by omega), ?_⟩
    conv => whnf
    exact Rnd.mk (t + 1, L', _) ⟨by show fr ≤ t + 1; omega, by show t + 1 ≤ _; omega, hm', hr'⟩ (by show cs.length + 1 - (t + 1) < cs.length + 1 - t; omega) ⟨rfl, rfl, rfl, rfl, rfl, rfl, rfl, rfl, rfl, trivial⟩ (Hp.Le.refl _) rfl
  conv => whnf
  refine SeqP.cut (α := Unit) (fun _ => [(13, int t), (12, int (sumOf u fr (t + 1))), (11, int fr), (9, int (cs.length + 1 : Nat)), (10, slc h.next 0 (cs.length + 1) (cs.length + 1)), (0, .slice av cs.length cp), (1, .slice aw u.length cw), (2, int 0), (3, int cs.length)]) (fun _ H' => H' = H1) ?_ ?_
  · conv => whnf
    repeat (refine SeqP.go ?_; conv => whnf)
    by_cases hz : u.length = 0
    · refine cmpF (by omega) ?_
      conv => whnf
      repeat (refine SeqP.go ?_; conv => whnf)
      exact ⟨(), ⟨rfl, congrArg int (by rw [sumOf_zero hz, sumOf_zero hz]), rfl, rfl, rfl, rfl, rfl, rfl, rfl, trivial⟩, rfl, rfl⟩
    · refine cmpT (by omega) ?_
      have hc := hcw t (by omega)
      obtain ⟨r, o, sp, ea, hsp, hvl⟩ := hc
      subst ea
      have hut := hu _ (List.getElem_mem (show t < u.length by omega))
      have hsu := sumOf_succ hz ht1 (show t < u.length by omega)
      conv => whnf
      repeat (refine SeqP.go ?_; conv => whnf)
      refine ⟨hsp, ⟨by omega, by omega⟩, ?_⟩
      conv => whnf
      refine ⟨int u[t], hm.gr.cell (by rw [offAt_eq, Nat.add_comm]; simpa using hvl), ?_⟩
      conv => whnf
      refine ⟨sumOf u fr (t + 1), wie hsu.symm (by omega), ?_⟩
      conv => whnf
      exact ⟨(), ⟨rfl, rfl, rfl, rfl, rfl, rfl, rfl, rfl, rfl, trivial⟩, rfl, rfl⟩
  rintro _ φ2 _ rfl
  conv => whnf
  refine SeqP.go ?_
  conv => whnf
  repeat (refine SeqP.go ?_; conv => whnf)
  refine cmpB (fun hb3 => ?_) (fun hb3 => ?_)
  · conv => whnf
    repeat (refine SeqP.go ?_; conv => whnf)
    have : t = fr := by omega
    subst this
    exact ⟨(L, _), ⟨rfl, rfl, rfl, rfl, rfl, rfl, rfl, rfl, rfl, trivial⟩, ⟨rfl, hm, hr.first⟩, rfl⟩
  have hft : fr < t := by omega
  conv => whnf
  repeat (refine SeqP.go ?_; conv => whnf)
  refine ⟨rfl, ⟨by omega, by omega⟩, ?_⟩
  conv => whnf
  refine ⟨_, hm.cellO (a := fr) (Nat.le_refl _) (by omega), ?_⟩
  conv => whnf
  refine ⟨rfl, ⟨by omega, by omega⟩, ?_⟩
  conv => whnf
  refine ⟨rfl, _, storeAt_row (hm.row fr (Nat.le_refl _) (by omega)) (by rw [offAt_eq, rowF_length, Int.toNat_natCast]; omega) rfl, ?_⟩
  have hm2 := hm.set (a := fr) (b := t) (o := offAt 0 ((t : Int)).toNat 1) (x := -1) (Nat.le_refl _) (by omega) (by rw [offAt_eq, Int.toNat_natCast]; omega)
  conv => whnf
  repeat (refine SeqP.go ?_; conv => whnf)
  refine loop_inv (α := Nat × Int × Hp) (fun s => [(14, int s.1), (13, int t), (12, int (sumOf u fr (t + 1))), (11, int fr), (9, int (cs.length + 1 : Nat)), (10, slc h.next 0 (cs.length + 1) (cs.length + 1)), (0, .slice av cs.length cp), (1, .slice aw u.length cw), (2, int 0), (3, int cs.length)]) (fun s => s.2.2) (fun s => fr ≤ s.1 ∧ s.1 ≤ t ∧ LM h s.2.2 h.next (cs.length + 1) fr R1 (updL L fr t s.2.1) ∧ MinUp (fun g => leastC cs u fr t g (L fr g) (L (g + 1) t)) fr (s.1 - fr) s.2.1 ∧ (fr < s.1 → Bd (t - fr) s.2.1)) (fun s => t - s.1) (fr, -1, _) ⟨Nat.le_refl _, ht1, hm2, .inl ⟨by simp, rfl⟩, fun h => by omega⟩ ⟨rfl, rfl, rfl, rfl, rfl, rfl, rfl, rfl, rfl, rfl, trivial⟩ (Hp.Le.refl _) ?_
  rintro ⟨k, x, H2⟩ φ3 ⟨hk1, hk2, hm3, hx, hxb⟩
  dsimp only at hk1 hk2 hm3 hx hxb ⊢
  conv => whnf
  repeat (refine SeqP.go ?_; conv => whnf)
  refine cmpB (fun hb4 => ?_) (fun hb4 => ?_)
  rotate_left
  · conv => whnf
    repeat (refine SeqP.go ?_; conv => whnf)
    have : k = t := by omega
    subst this
    exact ⟨(updL L fr k x, H2), ⟨rfl, rfl, rfl, rfl, rfl, rfl, rfl, rfl, rfl, trivial⟩, ⟨rfl, hm3, hr.upd hft (by omega) hx (hxb hft)⟩, rfl⟩
  have hkc : k < cs.length := by omega
  have hck := hget k hkc
  have ecs : cs[k]?.getD 0 = cs[k] := by rw [List.getElem?_eq_getElem hkc]; rfl
  have hcc := hcell k hkc
  obtain ⟨r, o, sp, ea, hsp, hvl⟩ := hcc
  subst ea
  have hX := hr.bd (a := fr) (b := k) hk1 (by omega) (by omega)
  have hY := hr.bd (a := k + 1) (b := t) (by omega) (by omega) (by omega)
  have hcand := least_bd cs u hcs hn hu (by omega) fr t k _ _ hk1 (by omega) (by omega) hX hY
  have uX : updL L fr t x fr k = L fr k := by unfold updL; rw [if_neg (by omega)]
  have uY : updL L fr t x (k + 1) t = L (k + 1) t := by unfold updL; rw [if_neg (by omega)]
  have ux : updL L fr t x fr t = x := by unfold updL; rw [if_pos ⟨rfl, rfl⟩]
  have hmu := MinUp.succ hx (by show 0 ≤ leastC cs u fr t (fr + (k - fr)) (L fr (fr + (k - fr))) (L (fr + (k - fr) + 1) t); rw [show fr + (k - fr) = k by omega]; exact hcand.1) (fun h => (hxb (by omega)).1)
  rw [show fr + (k - fr) = k by omega, show k - fr + 1 = k + 1 - fr by omega] at hmu

  have hexX : ∃ X, L fr k = X := ⟨_, rfl⟩
  obtain ⟨X, eX⟩ := hexX
  have hexY : ∃ Y, L (k + 1) t = Y := ⟨_, rfl⟩
  obtain ⟨Y, eY⟩ := hexY
  have hexC : ∃ cd, leastC cs u fr t k X Y = cd := ⟨_, rfl⟩
  obtain ⟨cd, eC⟩ := hexC
  rw [eX, eY, eC] at hmu hcand
  rw [eX] at hX uX
  rw [eY] at hY uY
  have hcX : cellAt H2 (R1 fr) (offAt 0 k 1) = some (int X) := by rw [← uX]; exact hm3.cell (Nat.le_refl _) (by omega) (by omega)
  have hcY : cellAt H2 (R1 (k + 1)) (offAt 0 t 1) = some (int Y) := by rw [← uY]; exact hm3.cell (by omega) (by omega) (by omega)
  have hcx : cellAt H2 (R1 fr) (offAt 0 t 1) = some (int x) := by
    have := hm3.cell (a := fr) (b := t) (Nat.le_refl _) (by omega) (by omega)
    rwa [ux] at this
  have hck2 : cellAt H2 r (offAt o k 1) = some (int cs[k]) := hm3.gr.cell (by rw [offAt_eq, Nat.add_comm]; simpa using hvl)
  have hBX : 0 ≤ X ∧ X ≤ 13000000 * 12 := by unfold Bd K at hX; omega
  have hBY : 0 ≤ Y ∧ Y ≤ 13000000 * 12 := by unfold Bd K at hY; omega
  have hBx : x ≤ 13000000 * 12 := by
    rcases hx with ⟨_, h2⟩ | ⟨h1, _⟩
    · omega
    · have := hxb (by omega); unfold Bd K at this; omega
  have hmx : 0 ≤ max X Y ∧ max X Y ≤ 13000000 * 12 := by omega
  conv => whnf
  refine SeqP.cut (α := Int × Hp) (fun _ => [(14, int k), (13, int t), (12, int (sumOf u fr (t + 1))), (11, int fr), (9, int (cs.length + 1 : Nat)), (10, slc h.next 0 (cs.length + 1) (cs.length + 1)), (0, .slice (some ⟨r, o, sp⟩) cs.length cp), (1, .slice aw u.length cw), (2, int 0), (3, int cs.length)]) (fun s H' => H' = s.2 ∧ LM h s.2 h.next (cs.length + 1) fr R1 (updL L fr t s.1) ∧ MinUp (fun g => leastC cs u fr t g (L fr g) (L (g + 1) t)) fr (k + 1 - fr) s.1 ∧ Bd (t - fr) s.1) ?_ ?_
  rotate_left
  · rintro ⟨x', H'⟩ φ' _ ⟨rfl, hm', hx', hb'⟩
    dsimp only at hm' hx' hb' ⊢
    conv => whnf
    refine ⟨((k + 1 : Nat) : Int), wie (by omega) (by omega), ?_⟩
    conv => whnf
    exact Rnd.mk (k + 1, x', _) ⟨by show fr ≤ k + 1; omega, by show k + 1 ≤ t; omega, hm', hx', fun _ => hb'⟩ (by show t - (k + 1) < t - k; omega) ⟨rfl, rfl, rfl, rfl, rfl, rfl, rfl, rfl, rfl, rfl, trivial⟩ (Hp.Le.refl _) rfl
  conv => whnf
  refine SeqP.go ?_
  conv => whnf
  refine ⟨hsp, ⟨by omega, by omega⟩, ?_⟩
  conv => whnf
  refine ⟨_, hck2, ?_⟩
  conv => whnf
  refine ⟨rfl, ⟨by omega, by omega⟩, ?_⟩
  conv => whnf
  refine ⟨_, hm3.cellO (a := fr) (Nat.le_refl _) (by omega), ?_⟩
  conv => whnf
  refine ⟨rfl, ⟨by omega, by omega⟩, ?_⟩
  conv => whnf
  refine ⟨_, hcX, ?_⟩
  conv => whnf
  refine ⟨((k + 1 : Nat) : Int), wie (by omega) (by omega), ?_⟩
  conv => whnf
  refine ⟨rfl, ⟨by omega, by omega⟩, ?_⟩
  conv => whnf
  refine ⟨_, hm3.cellO (a := k + 1) (by omega) (by omega), ?_⟩
  conv => whnf
  refine ⟨rfl, ⟨by omega, by omega⟩, ?_⟩
  conv => whnf
  refine ⟨_, hcY, ?_⟩
  conv => whnf
  refine resP_val (v := int (max X Y)) (h := H2) ?_ ?_
  · conv => lhs; whnf
    exact congrArg (HRes.val · _) (max_eq2 X Y)
  conv => whnf
  refine ⟨cs[k] + max X Y, wie rfl (by omega), ?_⟩
  conv => whnf
  refine SeqP.cut (α := Unit) (fun _ => [(15, int cd), (14, int k), (13, int t), (12, int (sumOf u fr (t + 1))), (11, int fr), (9, int (cs.length + 1 : Nat)), (10, slc h.next 0 (cs.length + 1) (cs.length + 1)), (0, .slice (some ⟨r, o, sp⟩) cs.length cp), (1, .slice aw u.length cw), (2, int 0), (3, int cs.length)]) (fun _ H' => H' = H2) ?_ ?_
  · conv => whnf
    repeat (refine SeqP.go ?_; conv => whnf)
    by_cases hz : u.length = 0
    · have ec : cs[k] + max X Y = cd := by rw [← eC]; unfold leastC; rw [if_pos hz]; unfold worstC; rw [ecs]
      refine cmpF (by omega) ?_
      conv => whnf
      repeat (refine SeqP.go ?_; conv => whnf)
      exact ⟨(), ⟨congrArg int ec, rfl, rfl, rfl, rfl, rfl, rfl, rfl, rfl, rfl, rfl, trivial⟩, rfl, rfl⟩
    · have ec : cs[k] * partSum u fr t + X + Y = cd := by rw [← eC]; unfold leastC; rw [if_neg hz]; unfold weighC; rw [ecs]
      have hps := partSum_bd hu (by omega) fr t
      have hpv := mul_bd (p := cs[k]) (u := partSum u fr t) (a := 1000) (b := 13000) (by omega) hps
      have es : sumOf u fr (t + 1) * cs[k] = cs[k] * partSum u fr t := by rw [sumOf_part hz ht1 (by omega), Int.mul_comm]
      refine cmpT (by omega) ?_
      conv => whnf
      repeat (refine SeqP.go ?_; conv => whnf)
      refine ⟨hsp, ⟨by omega, by omega⟩, ?_⟩
      conv => whnf
      refine ⟨_, hck2, ?_⟩
      conv => whnf
      refine ⟨cs[k] * partSum u fr t, wie es (by omega), ?_⟩
      conv => whnf
      refine ⟨rfl, ⟨by omega, by omega⟩, ?_⟩
      conv => whnf
      refine ⟨_, hm3.cellO (a := fr) (Nat.le_refl _) (by omega), ?_⟩
      conv => whnf
      refine ⟨rfl, ⟨by omega, by omega⟩, ?_⟩
      conv => whnf
      refine ⟨_, hcX, ?_⟩
      conv => whnf
      refine ⟨cs[k] * partSum u fr t + X, wie rfl (by omega), ?_⟩
      conv => whnf
      refine ⟨((k + 1 : Nat) : Int), wie (by omega) (by omega), ?_⟩
      conv => whnf
      refine ⟨rfl, ⟨by omega, by omega⟩, ?_⟩
      conv => whnf
      refine ⟨_, hm3.cellO (a := k + 1) (by omega) (by omega), ?_⟩
      conv => whnf
      refine ⟨rfl, ⟨by omega, by omega⟩, ?_⟩
      conv => whnf
      refine ⟨_, hcY, ?_⟩
      conv => whnf
      refine ⟨cd, wie ec (by unfold Bd K at hcand; omega), ?_⟩
      conv => whnf
      exact ⟨(), ⟨rfl, rfl, rfl, rfl, rfl, rfl, rfl, rfl, rfl, rfl, rfl, trivial⟩, rfl, rfl⟩
  rintro _ φ4 _ rfl
  have hm4 := fun (H' : Hp) (m : LM h H' h.next (cs.length + 1) fr R1 (updL (updL L fr t x) fr t cd)) => m.congr (M := updL L fr t cd) (fun a b => by unfold updL; split <;> rfl)
  have hm5 := hm3.set (a := fr) (b := t) (o := offAt 0 ((t : Int)).toNat 1) (x := cd) (Nat.le_refl _) (by omega) (by rw [offAt_eq, Int.toNat_natCast]; omega)
  conv => whnf
  repeat (refine SeqP.go ?_; conv => whnf)
  refine ⟨rfl, ⟨by omega, by omega⟩, ?_⟩
  conv => whnf
  refine ⟨_, hm3.cellO (a := fr) (Nat.le_refl _) (by omega), ?_⟩
  conv => whnf
  refine ⟨rfl, ⟨by omega, by omega⟩, ?_⟩
  conv => whnf
  refine ⟨_, hcx, ?_⟩
  conv => whnf
  refine cmpB (fun c1 => ?_) (fun c1 => ?_)
  · rw [if_pos (.inl c1)] at hmu
    conv => whnf
    repeat (refine SeqP.go ?_; conv => whnf)
    refine ⟨rfl, ⟨by omega, by omega⟩, ?_⟩
    conv => whnf
    refine ⟨_, hm3.cellO (a := fr) (Nat.le_refl _) (by omega), ?_⟩
    conv => whnf
    refine ⟨rfl, ⟨by omega, by omega⟩, ?_⟩
    conv => whnf
    refine ⟨rfl, _, storeAt_row (hm3.row fr (Nat.le_refl _) (by omega)) (by rw [offAt_eq, rowF_length, Int.toNat_natCast]; omega) rfl, ?_⟩
    conv => whnf
    repeat (refine SeqP.go ?_; conv => whnf)
    exact ⟨(cd, _), ⟨rfl, rfl, rfl, rfl, rfl, rfl, rfl, rfl, rfl, rfl, trivial⟩, ⟨rfl, hm4 _ hm5, hmu, hcand⟩, rfl⟩
  · conv => whnf
    refine ⟨rfl, ⟨by omega, by omega⟩, ?_⟩
    conv => whnf
    refine ⟨_, hm3.cellO (a := fr) (Nat.le_refl _) (by omega), ?_⟩
    conv => whnf
    refine ⟨rfl, ⟨by omega, by omega⟩, ?_⟩
    conv => whnf
    refine ⟨_, hcx, ?_⟩
    conv => whnf
    refine cmpB (fun c2 => ?_) (fun c2 => ?_)
    · rw [if_pos (.inr c2)] at hmu
      conv => whnf
      repeat (refine SeqP.go ?_; conv => whnf)
      refine ⟨rfl, ⟨by omega, by omega⟩, ?_⟩
      conv => whnf
      refine ⟨_, hm3.cellO (a := fr) (Nat.le_refl _) (by omega), ?_⟩
      conv => whnf
      refine ⟨rfl, ⟨by omega, by omega⟩, ?_⟩
      conv => whnf
      refine ⟨rfl, _, storeAt_row (hm3.row fr (Nat.le_refl _) (by omega)) (by rw [offAt_eq, rowF_length, Int.toNat_natCast]; omega) rfl, ?_⟩
      conv => whnf
      repeat (refine SeqP.go ?_; conv => whnf)
      exact ⟨(cd, _), ⟨rfl, rfl, rfl, rfl, rfl, rfl, rfl, rfl, rfl, rfl, trivial⟩, ⟨rfl, hm4 _ hm5, hmu, hcand⟩, rfl⟩
    · have hfk : fr < k := by
        rcases hx with ⟨_, h2⟩ | ⟨h1, _⟩
        · omega
        · omega
      rw [if_neg (by omega)] at hmu
      conv => whnf
      repeat (refine SeqP.go ?_; conv => whnf)
      exact ⟨(x, _), ⟨rfl, rfl, rfl, rfl, rfl, rfl, rfl, rfl, rfl, rfl, trivial⟩, ⟨rfl, hm3, hmu, hxb hfk⟩, rfl⟩
end
end Go.Proofs.Yticmdpcahpimhaa
namespace Go.Proofs.Yticmdpcahpimhaa
open Go.Rx Go.RowKit
attribute [local irreducible] E idxN cellAt cellsAt storeAt callable helems hmoved lookIn findKey keyOk hentries Hp.at Hp.set Hp.lay arBits hupdated setAt CallP YieldP BoolOf IsWrap Rnd LoopP AppP CutP Int.tmod Int.tdiv Int.fdiv
section
variable [Unknowns]
attribute [local irreducible] SeqP ResP tabV
theorem refworst_spec (l : List Int) (M : Int) (v : Value) (h : Hp) (hv : Ints h v l) (hl : l.length ≤ 1000) (h0 : ∀ x ∈ l, 0 ≤ x ∧ x ≤ M) (hM : M ∈ l) : CallP E 35 [v] h (fun r h' => r = int M ∧ h' = h) := by
  obtain ⟨av, cp, rfl, hcell⟩ := id hv
  have hM0 := (h0 M hM).1
  refine enter35 (by simp) ?_
  conv => whnf
  repeat (refine SeqP.go ?_; conv => whnf)
  refine loop_inv (α := Nat × Int) (fun s => [(4, int s.1), (3, int s.2), (0, .slice av l.length cp)]) (fun _ => h) (fun s => s.1 ≤ l.length ∧ 0 ≤ s.2 ∧ s.2 ≤ M ∧ ∀ x ∈ l.take s.1, x ≤ s.2) (fun s => l.length - s.1) (0, 0) ⟨Nat.zero_le _, Int.le_refl _, hM0, by simp⟩ ⟨rfl, rfl, rfl, trivial⟩ (Hp.Le.refl _) ?_
  rintro ⟨i, cur⟩ φ ⟨hi, hc0, hcM, hall⟩
  dsimp only at hi hc0 hcM hall ⊢
  conv => whnf
  repeat (refine SeqP.go ?_; conv => whnf)
  refine cmpB (fun hb => ?_) (fun hb => ?_)
  · have hi' : i < l.length := by omega
    have hx := h0 _ (List.getElem_mem hi')
    have hc := hcell i hi'
    obtain ⟨r, o, sp, ea, hsp, hvl⟩ := hc
    subst ea
    conv => whnf
    repeat (refine SeqP.go ?_; conv => whnf)
    refine ⟨hsp, ⟨by omega, by omega⟩, ?_⟩
    conv => whnf
    refine ⟨int l[i], by rw [offAt_eq, Nat.add_comm]; simpa using hvl, ?_⟩
    conv => whnf
    refine resP_val (v := int (max cur l[i])) (h := h) ?_ ?_
    · conv => lhs; whnf
      exact congrArg (HRes.val · _) (max_eq2 cur l[i])
    conv => whnf
    refine ⟨((i + 1 : Nat) : Int), wie (by omega) (by have := hv; omega), ?_⟩
    conv => whnf
    refine Rnd.mk (i + 1, max cur l[i]) ⟨by show i + 1 ≤ _; omega, by show 0 ≤ max cur l[i]; omega, by show max cur l[i] ≤ M; omega, ?_⟩ (by show _ - (i + 1) < _ - i; omega) ⟨rfl, rfl, rfl, trivial⟩ (Hp.Le.refl _) rfl
    intro x hx2
    show x ≤ max cur l[i]
    rw [List.take_succ_eq_append_getElem hi'] at hx2
    rcases List.mem_append.1 hx2 with h1 | h1
    · have := hall x h1; omega
    · have := List.mem_singleton.1 h1; omega
  · have hil : i = l.length := by omega
    rw [hil, List.take_of_length_le (Nat.le_refl _)] at hall
    have hcur : cur = M := by have := hall M hM; omega
    subst hcur
    conv => whnf
    repeat (refine SeqP.go ?_; conv => whnf)
    exact ⟨rfl, rfl⟩
theorem bests_law (v0 : Value) (l : List Int) (hl : l.length ≤ maxLen) (hl' : ∀ n ∈ l, -9223372036854775808 ≤ n ∧ n < 9223372036854775808) (v1 : Value) (p : List Int) (hp : p.length ≤ maxLen) (hp' : ∀ n ∈ p, -9223372036854775808 ≤ n ∧ n < 9223372036854775808) :
    ∀ h vs, AllIs h vs [.s v0 l, .s v1 p] → CallP E 5 vs h (fun r _ => r = .bool true) := by
  have hmax : maxLen < 9223372036854775808 := by decide
  intro h vs hvs
  match vs, hvs with
  | [a0, a1], hvs =>
  obtain ⟨k0, k1, -⟩ := hvs
  refine enter5 (by simp) ?_
  conv => whnf
  repeat (refine SeqP.go ?_; conv => whnf)
  refine CallP.mono (costs_spec a0 l h k0.ints (by omega)) ?_
  rintro vc h1 ⟨cs, hbc, hcl, hc, hg1⟩
  have hn : cs.length ≤ 12 := by omega
  have hC : CostsOk cs := ⟨hn, hc⟩
  have hvc := hbc.ints
  have hkc := hvc
  obtain ⟨ac, cc, rfl, hccell⟩ := hkc
  conv => whnf
  repeat (refine SeqP.go ?_; conv => whnf)
  refine CallP.mono (weights_spec a1 p cs.length hn h1 (k1.ints.ext hg1) (by omega)) ?_
  rintro vu h2 ⟨u, hbu, hul, hub, hup, hg2⟩
  have hW : WOk cs u := ⟨hub, hup, hul⟩
  have c2 := hvc.ext hg2
  have w2 := hbu.view
  conv => whnf
  refine SeqP.cut (α := Tab × Value × List Int) (fun s => [(5, .slice ac cs.length cc), (6, vu), (7, int (s.1 0 cs.length).1), (8, s.2.1), (9, int 0)]) (fun s H => IsTab (worstC cs) cs.length s.1 ∧ Built h2 H 3 s.2.1 s.2.2 ∧ TPl s.1 0 cs.length s.2.2 ∧ Grows h2 H) ?_ ?_
  · conv => whnf
    refine CallP.mono (Worst_spec cs hc hn _ h2 c2) ?_
    rintro r h3 ⟨T, vw, qw, hT, rfl, hbw, hpw, hg3⟩
    conv => whnf
    exact ⟨(T, vw, qw), ⟨rfl, rfl, rfl, rfl, rfl, trivial⟩, ⟨hT, hbw, hpw, hg3⟩, rfl⟩
  rintro ⟨T, vw, qw⟩ φ1 h3 ⟨hT, hbw, hpw, hg3⟩
  dsimp only at hT hbw hpw ⊢
  conv => whnf
  refine SeqP.cut (α := Tab × Value × List Int) (fun s => [(5, .slice ac cs.length cc), (6, vu), (7, int (T 0 cs.length).1), (8, vw), (9, int 0), (10, int (s.1 0 cs.length).1), (11, s.2.1), (12, int 0)]) (fun s H => IsTab (weighC cs u) cs.length s.1 ∧ Built h3 H 3 s.2.1 s.2.2 ∧ TPl s.1 0 cs.length s.2.2 ∧ Grows h3 H) ?_ ?_
  · conv => whnf
    refine CallP.mono (Weighed_spec cs u hc hn hW _ vu h3 (c2.ext hg3) (w2.ext hg3)) ?_
    rintro r h4 ⟨T2, vx, qx, hT2, rfl, hbx, hpx, hg4⟩
    conv => whnf
    exact ⟨(T2, vx, qx), ⟨rfl, rfl, rfl, rfl, rfl, rfl, rfl, rfl, trivial⟩, ⟨hT2, hbx, hpx, hg4⟩, rfl⟩
  rintro ⟨T2, vx, qx⟩ φ2 h4 ⟨hT2, hbx, hpx, hg4⟩
  dsimp only at hT2 hbx hpx ⊢
  have hwl := hpw.pl.length
  have hxl := hpx.pl.length
  conv => whnf
  refine SeqP.cut (α := Value) (fun s => [(5, .slice ac cs.length cc), (6, vu), (7, int (T 0 cs.length).1), (8, vw), (9, int 0), (10, int (T2 0 cs.length).1), (11, vx), (12, int 0), (13, s), (14, .bool true)]) (fun s H => (∃ vs, BuiltC h4 H 22 1 s (cs.length + 1) vs ∧ RowsB h4 H vs (ansAll 0 cs.length qw)) ∧ Grows h4 H) ?_ ?_
  · conv => whnf
    refine CallP.mono (Opened_of cs.length (by omega) qw vw (by omega) h4 (hbw.ints.ext hg4)) ?_
    rintro r h5 ⟨⟨xo, ok2, rfl, hok2, hop⟩, hg5⟩
    have e2 : ok2 = true := hok2.of_t hpw.pl
    subst e2
    conv => whnf
    exact ⟨xo, ⟨rfl, rfl, rfl, rfl, rfl, rfl, rfl, rfl, rfl, rfl, trivial⟩, ⟨hop hpw.pl, hg5⟩, rfl⟩
  rintro xo φ3 h5 ⟨⟨vs1, hbo, hro⟩, hg5⟩
  conv => whnf
  refine SeqP.cut (α := Value) (fun s => [(5, .slice ac cs.length cc), (6, vu), (7, int (T 0 cs.length).1), (9, int 0), (10, int (T2 0 cs.length).1), (12, int 0), (13, xo), (14, .bool true), (15, s), (16, .bool true)]) (fun s H => (∃ vs, BuiltC h5 H 22 1 s (cs.length + 1) vs ∧ RowsB h5 H vs (ansAll 0 cs.length qx)) ∧ Grows h5 H) ?_ ?_
  · conv => whnf
    refine CallP.mono (Opened_of cs.length (by omega) qx vx (by omega) h5 (hbx.ints.ext hg5)) ?_
    rintro r h6 ⟨⟨yo, ok3, rfl, hok3, hop3⟩, hg6⟩
    have e3 : ok3 = true := hok3.of_t hpx.pl
    subst e3
    conv => whnf
    exact ⟨yo, ⟨rfl, rfl, rfl, rfl, rfl, rfl, rfl, rfl, rfl, rfl, trivial⟩, ⟨hop3 hpx.pl, hg6⟩, rfl⟩
  rintro yo φ4 h6 ⟨⟨vs2, hbo3, hro3⟩, hg6⟩
  have g26 := hg3.trans (hg4.trans (hg5.trans hg6))
  have c6 := c2.ext g26
  have w6 := w2.ext g26
  have e7 : leastC cs [] = worstC cs := by unfold leastC; rw [if_pos (show ([] : List Int).length = 0 from rfl)]
  have e8 : leastC cs u = weighC cs u := by unfold leastC; rw [if_neg (by omega)]
  have hprl : (pricesOf cs qw).length = cs.length + 1 := by simp [pricesOf]
  have hprx : (pricesOf cs qx).length = cs.length + 1 := by simp [pricesOf]
  have hwt := worst_tab cs qw T hT hpw
  have hwd := dots_tab cs u qx hul T2 hT2 hpx
  have hpb := prices_bd hn hc hpw.pl
  have hpb2 := prices_bd hn hc hpx.pl
  conv => whnf
  repeat (refine SeqP.go ?_; conv => whnf)
  refine cmpT (by omega) ?_
  conv => whnf
  refine cmpT (by omega) ?_
  conv => whnf
  refine CallP.mono (least_spec cs [] hn hc (by simp) (.inl rfl) _ _ h6 c6 ⟨none, 0, rfl, fun k hk => by simp at hk⟩) ?_
  rintro r h7 ⟨⟨L, hL, rfl⟩, hg7⟩
  rw [e7] at hL
  have eL := IsMin.uniq hT.min hL cs.length 0 cs.length (by omega) (Nat.zero_le _) (Nat.le_refl _)
  conv => whnf
  refine cmpT eL ?_
  conv => whnf
  refine CallP.mono (refprices_spec cs qw _ _ vs1 h4 h7 (c6.ext hg7) (hbo.ext (hg6.trans hg7)) (hro.ext (hg6.trans hg7)) hn hc hpw.pl) ?_
  rintro vz h8 ⟨hbz, hg8⟩
  conv => whnf
  refine CallP.mono (refworst_spec (pricesOf cs qw) (T 0 cs.length).1 vz h8 hbz.ints (by omega) (fun x hx => ⟨(hpb x hx).1, hwt.1 x hx⟩) hwt.2) ?_
  rintro r _ ⟨rfl, rfl⟩
  conv => whnf
  refine cmpT rfl ?_
  conv => whnf
  have g68 := hg7.trans hg8
  refine CallP.mono (least_spec cs u hn hc hub (.inr hul) _ vu _ (c6.ext g68) (w6.ints.ext g68)) ?_
  rintro r h9 ⟨⟨L2, hL2, rfl⟩, hg9⟩
  rw [e8] at hL2
  have eL2 := IsMin.uniq hT2.min hL2 cs.length 0 cs.length (by omega) (Nat.zero_le _) (Nat.le_refl _)
  conv => whnf
  refine cmpT eL2 ?_
  conv => whnf
  have g69 := g68.trans hg9
  refine CallP.mono (refprices_spec cs qx _ _ vs2 h5 h9 (c6.ext g69) (hbo3.ext g69) (hro3.ext g69) hn hc hpx.pl) ?_
  rintro vy h10 ⟨hby, hg10⟩
  conv => whnf
  refine CallP.mono (refweighed_spec vu vy u (pricesOf cs qx) h10 (w6.ints.ext (g69.trans hg10)) hby.ints (by omega) (by omega) hpb2 hub) ?_
  rintro r _ ⟨rfl, rfl⟩
  conv => whnf
  refine cmpT hwd.symm ?_
  conv => whnf
  refine memo27 ?_
  conv => whnf
  rfl
end
end Go.Proofs.Yticmdpcahpimhaa
