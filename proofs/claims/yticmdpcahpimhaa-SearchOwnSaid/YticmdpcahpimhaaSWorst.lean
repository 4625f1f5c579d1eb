/- Contracts of the functions that SOwn comes to. -/
import Derived.Test.YticmdpcahpimhaaSRead
import Derived.Test.YticmdpcahpimhaaSIs
set_option maxRecDepth 100000
set_option maxHeartbeats 1000000
set_option linter.unusedVariables false
set_option linter.unusedSectionVars false
set_option linter.unusedSimpArgs false
namespace Go.Proofs.Yticmdpcahpimhaa
open Go.Rx Go.RowKit
def worstC (cs : List Int) : CostF := fun _ _ g x y => (cs[g]?.getD 0) + max x y
attribute [local irreducible] E idxN cellAt cellsAt storeAt callable helems hmoved lookIn findKey keyOk hentries Hp.at Hp.set Hp.lay arBits hupdated setAt CallP YieldP BoolOf IsWrap Rnd LoopP AppP CutP Int.tmod Int.tdiv Int.fdiv
section
variable [Unknowns]
attribute [local irreducible] SeqP ResP sameAt finP tabV
theorem max_eq2 (x y : Int) : Value.int IntKind.i64 (if y > x then y else x) = int (max x y) := congrArg (Value.int .i64) (by split <;> omega)
theorem worst_ok (cs : List Int) (hcs : ∀ x ∈ cs, 1 ≤ x ∧ x ≤ 1000) (hl : cs.length ≤ 12) (v : Value) (c : Nat) (h : Hp) (hv : Ints h v cs) (hc : h.at c = some (.row 22 true [v])) : CostOk h 81 [ptr c 0] (worstC cs) cs.length := by
  have hget : ∀ g, g < cs.length → 1 ≤ cs[g]?.getD 0 ∧ cs[g]?.getD 0 ≤ 1000 := by
    intro g hg
    rw [List.getElem?_eq_getElem hg]
    exact hcs _ (List.getElem_mem hg)
  refine ⟨can81, ?_, ?_⟩
  · intro a b g x y h1 h2 h3 hx hy
    have := hget g (by omega)
    unfold Bd K worstC at *
    omega
  · intro h1 gr a b g x y l1 l2 l3 hx hy
    have hgv := hget g (by omega)
    have hv1 := hv.ext gr
    have hc1 := gr.at_ _ _ hc
    obtain ⟨av, cp, rfl, hcell⟩ := hv1
    obtain ⟨r, o, sp, rfl, hsp, hval⟩ := hcell g (by omega)
    unfold Bd K at hx hy
    have hmx : 0 ≤ max x y ∧ max x y ≤ 13000000 * 12 := by omega
    show CallP E 81 [.agg ⟨[int a, int b]⟩, int g, int x, int y, ptr c 0] h1 _
    refine enter81 (by simp) ?_
    conv => whnf
    repeat (refine SeqP.go ?_; conv => whnf)
    refine ⟨_, cellAt_row (Hp.at_lay_old _ hc1) rfl, ?_⟩
    conv => whnf
    refine ⟨hsp, ⟨by omega, by omega⟩, ?_⟩
    conv => whnf
    refine ⟨int cs[g], (Grows.lay _ _).cell (by rw [offAt_eq, Nat.add_comm]; simpa using hval), ?_⟩
    conv => whnf
    refine resP_val (v := int (max x y)) (h := h1.lay (.row 115 true [int a, int b])) ?_ ?_
    · conv => lhs; whnf
      exact congrArg (HRes.val · _) (max_eq2 x y)
    conv => whnf
    have ecs : cs[g]?.getD 0 = cs[g] := by rw [List.getElem?_eq_getElem (by omega)]; rfl
    rw [ecs] at hgv
    refine ⟨_, wid (by omega), ?_⟩
    conv => whnf
    repeat (refine SeqP.go ?_; conv => whnf)
    refine finP_one rfl rfl ⟨?_, Grows.lay _ _⟩
    unfold worstC
    rw [ecs]
    rfl
theorem worst_spec (cs : List Int) (hcs : ∀ x ∈ cs, 1 ≤ x ∧ x ≤ 1000) (hl : cs.length ≤ 12) (v : Value) (h : Hp) (hv : Ints h v cs) : CallP E 57 [v] h (fun r h' => ∃ T, IsTab (worstC cs) cs.length T ∧ r = .agg ⟨tabV T⟩ ∧ Grows h h') := by
  obtain ⟨av, cp, rfl, hcell⟩ := id hv
  have g0 : Grows h ((h.lay (.row 22 true [.slice av cs.length cp])).lay (.row 88 true (times [int 0] 338))) := (Grows.lay _ _).then_lay _
  refine enter57 (by simp) ?_
  conv => whnf
  repeat (refine SeqP.go ?_; conv => whnf)
  refine ⟨_, cellAt_row (Hp.at_lay_old _ (Hp.at_lay_self _ _)) rfl, ?_⟩
  conv => whnf
  refine CallP.mono (filled_spec cs.length hl 81 [ptr h.next 0] (worstC cs) _ (worst_ok cs hcs hl _ h.next _ (hv.ext g0) (Hp.at_lay_old _ (Hp.at_lay_self _ _)))) ?_
  rintro r h1 ⟨T, hT, rfl, g1⟩
  have g1' : Grows ((h.lay (.row 22 true [.slice av cs.length cp])).lay (.row 88 true (times [int 0] 338))) h1 := g1
  have at2 := g1'.at_ _ _ (Hp.at_lay_self _ _)
  have hlt := Hp.lt_of_at at2
  conv => whnf
  refine ⟨tabV_len T, _, storeAt_full (vs := tabV T) at2 (by rw [tabV_len, times_len]) (tabV_one T) (over_full (by rw [tabV_len, times_len])), ?_⟩
  conv => whnf
  repeat (refine SeqP.go ?_; conv => whnf)
  obtain ⟨ti, hti, hag, hsz⟩ := ty88
  refine leave_cell rfl hti hag (by rw [hsz]; exact tab_cells (Hp.at_set_self _ hlt)) ⟨T, hT, rfl, ?_⟩
  exact (g0.trans g1').then_set _ (by simp only [Hp.next_lay]; omega)
theorem read_spec' (n : Nat) (hn : n ≤ 12) (T : Tab) (c : Nat) (hT : ∀ a b, a < b → b ≤ n → ∃ g : Nat, a ≤ g ∧ g < b ∧ (T a b).2 = (g : Int)) (a b : Nat) (hab : a ≤ b) (hb : b ≤ n) (v : Value) (h : Hp) (hr : RM h c T v []) (x y z : Value) (ex : x = ptr c 0) (ey : y = ptr (c + 1) 0) (ez : z = ptr (c + 2) 0) :
    CallP E 82 [.agg ⟨[int a, int b]⟩, x, y, z] h (fun r h' => ∃ v' q', RM h' c T v' q' ∧ TPl T a b q' ∧ Kp c h h') := by
  subst ex ey ez
  refine CallP.mono (read_spec n hn T c hT (b - a) a b [] v h (Nat.le_refl _) hab hb (by simp; omega) hr) ?_
  rintro r h' ⟨v', q', h1, h2, h3⟩
  exact ⟨v', q', h1, h2, h3⟩
theorem rd_start (h : Hp) (T : Tab) (x y z : Value) (ex : x = ptr h.next 0) (ey : y = ptr (h.next + 1) 0) (ez : z = ptr (h.next + 2) 0) : RM (((h.lay (.row 88 true (tabV T))).lay (.row 22 true [.slice none 0 0])).lay (.row 119 true [.func (.func 82) ⟨[]⟩ ⟨[x, y, z]⟩])) h.next T (.slice none 0 0) [] := by
  subst ex ey ez
  refine ⟨Hp.at_lay_old _ (Hp.at_lay_old _ (Hp.at_lay_self _ _)), ?_, ?_, .inl ⟨rfl, rfl⟩, by simp only [Hp.next_lay]; omega⟩
  · exact Hp.at_lay_old _ (at_nx (Hp.next_lay _ _) (Hp.at_lay_self _ _))
  · exact at_nx (by simp only [Hp.next_lay]) (Hp.at_lay_self _ _)
theorem tplan_spec (n : Nat) (hn : n ≤ 12) (T : Tab) (hT : ∀ a b, a < b → b ≤ n → ∃ g : Nat, a ≤ g ∧ g < b ∧ (T a b).2 = (g : Int)) (h : Hp) : CallP E 58 [.agg ⟨tabV T⟩, int n] h (fun r h' => ∃ q, Built h h' 3 r q ∧ TPl T 0 n q ∧ Grows h h') := by
  have e1 : ptr (h.lay (.row 88 true (tabV T))).next 0 = ptr (h.next + 1) 0 := congrArg (fun k => ptr k 0) (Hp.next_lay _ _)
  have e2 : ptr ((h.lay (.row 88 true (tabV T))).lay (.row 22 true [.slice none 0 0])).next 0 = ptr (h.next + 2) 0 := congrArg (fun k => ptr k 0) (by simp only [Hp.next_lay])
  have rm := rd_start h T _ _ _ rfl e1 e2
  refine enter58 (by simp) ?_
  conv => whnf
  refine SeqP.go ?_
  conv => whnf
  refine SeqP.go ?_
  conv => whnf
  refine SeqP.go ?_
  conv => whnf
  refine SeqP.go ?_
  conv => whnf
  refine ⟨rfl, _, storeAt_lay (by simp) rfl, ?_⟩
  conv => whnf
  refine SeqP.go ?_
  conv => whnf
  refine ⟨_, cellAt_lay rfl, ?_⟩
  conv => whnf
  refine ⟨can82, ?_⟩
  refine CallP.mono (read_spec' n hn T h.next hT 0 n (Nat.zero_le _) (Nat.le_refl _) _ _ rm _ _ _ rfl e1 e2) ?_
  rintro r h1 ⟨v, q, r1, pl, kp⟩
  have hb := r1.built.back (h1 := h) (show h.next ≤ h.next + 3 by omega)
  have hg : Grows h h1 := ⟨by have := r1.nx; omega, fun r o ho => by
    have hlt := Hp.lt_of_at ho
    exact kp r o (.inl (by omega)) (by omega) (Hp.at_lay_old _ (Hp.at_lay_old _ (Hp.at_lay_old _ ho)))⟩
  have at2 := at_nx (Hp.next_lay h (.row 88 true (tabV T))).symm r1.at2
  conv => whnf
  refine SeqP.go ?_
  conv => whnf
  refine ⟨v, cellAt_row at2 rfl, ?_⟩
  have hb' := hb
  rcases hb' with ⟨rfl, e⟩ | ⟨rr, rfl, _⟩
  · conv => whnf
    repeat (refine SeqP.go ?_; conv => whnf)
    exact finP_one rfl rfl ⟨q, hb, pl, hg⟩
  · conv => whnf
    repeat (refine SeqP.go ?_; conv => whnf)
    exact finP_one rfl rfl ⟨q, hb, pl, hg⟩
theorem idxA_val' {n s r o : Nat} {j : Int} {h : Hp} (hj : 0 ≤ j ∧ j < (n : Int)) : hval h (idxAV n s (ptr r o) (int j)) = .val (ptr r (offAt o j.toNat s)) h := by
  unfold idxAV
  dsimp only [ptr]
  rw [idxN_ok (n := n) (j := j) hj, offAt_eq]
  simp [hval, ptr]
theorem finP_three {φ : Rx.Frame} {h : Hp} {a b c : Nat} {x y z : Value} {Q : Value → Hp → Prop} (ha : φ a = x) (hb : φ b = y) (hc : φ c = z) (ux : isUndef x = false) (uy : isUndef y = false) (uz : isUndef z = false) (q : Q (.tuple ⟨[x, y, z]⟩) h) : finP E [.tmp a, .tmp b, .tmp c] ⟨φ, h, []⟩ Q := by
  unfold finP
  dsimp only
  rw [show takeMarksφ [] h = some h from rfl]
  dsimp only
  rw [show resultsφ E φ h [.tmp a, .tmp b, .tmp c] = some [x, y, z] from by unfold resultsφ resultφ resultsφ resultφ resultsφ resultφ; dsimp only; rw [ha, hb, hc, ux, uy, uz]; rfl]
  exact q
theorem sameV_ptr (a b : Nat) : sameV 4 (ptr a b) (ptr a b) = true := by simp [sameV, ptr]
theorem IsTab.at_ {C : CostF} {n : Nat} {T : Tab} (h : IsTab C n T) : ∀ a b, a < b → b ≤ n → ∃ g : Nat, a ≤ g ∧ g < b ∧ (T a b).2 = (g : Int) := by
  intro a b hab hb
  obtain ⟨g, h1, h2, e⟩ := (h.1 a b hab hb).1.at_nonneg (by omega)
  exact ⟨g, h1, by omega, by rw [e]⟩
theorem IsTab.cost {C : CostF} {n : Nat} {T : Tab} (h : IsTab C n T) {a b : Nat} (hab : a ≤ b) (hb : b ≤ n) : Bd (b - a) (T a b).1 := by
  by_cases e : a = b
  · subst e
    rw [h.2 a]
    unfold Bd K
    omega
  · exact (h.1 a b (by omega) hb).2
theorem Worst_spec (cs : List Int) (hcs : ∀ x ∈ cs, 1 ≤ x ∧ x ≤ 1000) (hl : cs.length ≤ 12) (v : Value) (h : Hp) (hv : Ints h v cs) : CallP E 20 [v] h (fun r h' => ∃ T x q, IsTab (worstC cs) cs.length T ∧ r = .tuple ⟨[int (T 0 cs.length).1, x, int 0]⟩ ∧ Built h h' 3 x q ∧ TPl T 0 cs.length q ∧ Grows h h') := by
  obtain ⟨av, cp, rfl, hcell⟩ := id hv
  refine enter20 (by simp) ?_
  conv => whnf
  refine SeqP.go ?_
  conv => whnf
  refine SeqP.go ?_
  conv => whnf
  refine SeqP.go ?_
  conv => whnf
  refine CallP.mono (check_spec _ cs h hv (by omega)) ?_
  rintro r h1 ⟨rfl, e, rfl, he, _⟩
  obtain rfl := he ⟨hl, hcs⟩
  conv => whnf
  repeat (refine SeqP.go ?_; conv => whnf)
  refine cmpF (by omega) ?_
  conv => whnf
  repeat (refine SeqP.go ?_; conv => whnf)
  refine CallP.mono (worst_spec cs hcs hl _ h1 hv) ?_
  rintro r h2 ⟨T, hT, rfl, g2⟩
  conv => whnf
  refine ⟨tabV_len T, _, storeAt_all (by rw [tabV_len]; rfl) (tabV_one T) (over_full (by rw [tabV_len]; rfl)), ?_⟩
  conv => whnf
  repeat (refine SeqP.go ?_; conv => whnf)
  have atc : (h2.lay (.row 88 true (tabV T))).at h2.next = some (.row 88 true (tabV T)) := Hp.at_lay_self _ _
  refine ⟨⟨by omega, by omega⟩, ?_⟩
  conv => whnf
  refine ⟨⟨by omega, by omega⟩, ?_⟩
  conv => whnf
  refine ⟨int (T 0 cs.length).1, cellAt_row atc (tab_cost' T (a := 0) (b := cs.length) (by omega) (by omega) (by rw [offAt_eq, offAt_eq]; simp)), ?_⟩
  conv => whnf
  refine ⟨tabV T, tab_cells atc, ?_⟩
  conv => whnf
  refine CallP.mono (tplan_spec cs.length hl T hT.at_ _) ?_
  rintro x h3 ⟨q, hq, hp, g3⟩
  have at3 := g3.at_ _ _ atc
  have g13 := (g2.then_lay (.row 88 true (tabV T))).trans g3
  conv => whnf
  refine ⟨?_, ?_⟩
  · repeat' (first | exact True.intro | (refine And.intro ?_ ?_ <;> (conv => whnf)))
    all_goals first
      | exact sameAt_val (h2 := _) rfl (sameV_int _)
      | exact sameAt_val (h2 := _) rfl (sameV_ptr _ _)
      | exact sameAt_val (h2 := _) (show hval _ (idxAV 13 26 (ptr h2.next 0) (int 0)) = _ from idxA_val' ⟨by omega, by omega⟩) (sameV_ptr _ _)
      | exact sameAt_val (h2 := _) (show hval _ (idxAV 13 2 (ptr h2.next (offAt 0 (Int.toNat 0) 26)) (int cs.length)) = _ from idxA_val' ⟨by omega, by omega⟩) (sameV_ptr _ _)
      | exact sameAt_val (h2 := _) (congrArg (hval _) (cellAt_row atc (tab_cost' T (a := 0) (b := cs.length) (by omega) (by omega) (by rw [offAt_eq, offAt_eq]; simp)))) (sameV_int _)
      | exact sameAt_val (h2 := _) (congrArg (hval _) (cellAt_row at3 (tab_cost' T (a := 0) (b := cs.length) (by omega) (by omega) (by rw [offAt_eq, offAt_eq]; simp)))) (sameV_int _)
  have hq' := hq.back (h1 := h1) (by have := g2.next; simp only [Hp.next_lay]; omega)
  have hq2 := hq'
  rcases hq2 with ⟨rfl, e⟩ | ⟨rr, rfl, _⟩
  · conv => whnf
    repeat (refine SeqP.go ?_; conv => whnf)
    exact finP_three rfl rfl rfl rfl rfl rfl ⟨T, _, q, hT, rfl, hq', hp, g13⟩
  · conv => whnf
    repeat (refine SeqP.go ?_; conv => whnf)
    exact finP_three rfl rfl rfl rfl rfl rfl ⟨T, _, q, hT, rfl, hq', hp, g13⟩
end
end Go.Proofs.Yticmdpcahpimhaa
