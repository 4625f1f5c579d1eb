/- Contracts of the functions that SOwn comes to. -/
import Derived.Test.YticmdpcahpimhaaSFill3
import Derived.Test.YticmdpcahpimhaaSIsPlan
set_option maxRecDepth 100000
set_option maxHeartbeats 1000000
set_option linter.unusedVariables false
set_option linter.unusedSectionVars false
set_option linter.unusedSimpArgs false
namespace Go.Proofs.Yticmdpcahpimhaa
open Go.Rx Go.RowKit
/-- A plan that is read off a table. -/
inductive TPl (T : Tab) : Nat → Nat → List Int → Prop
  | nil (a : Nat) : TPl T a a []
  | node {a b g : Nat} {q1 q2 : List Int} (h1 : a ≤ g) (h2 : g < b) (e : (T a b).2 = (g : Int)) (l : TPl T a g q1) (r : TPl T (g + 1) b q2) : TPl T a b ([(g : Int)] ++ q1 ++ q2)
theorem TPl.pl {T : Tab} {a b : Nat} {q : List Int} (h : TPl T a b q) : Pl a b q := by
  induction h with
  | nil a => exact .nil a
  | node h1 h2 _ _ _ l r => exact .node h1 h2 l r
def bare (n : Nat) : Hp := ⟨n, fun _ => none⟩
theorem bare_grows {n : Nat} {h : Hp} (hn : n ≤ h.next) : Grows (bare n) h := ⟨hn, fun r o e => by
  unfold Hp.at bare at e
  dsimp only at e
  split at e <;> cases e⟩
def NotInts (o : Rx.Obj) : Prop := ∀ x cs, o ≠ .row 3 x cs
/-- What a reading keeps. -/
def Kp (c : Nat) (h h' : Hp) : Prop := ∀ r o, (r < c + 3 ∨ NotInts o) → r ≠ c + 1 → h.at r = some o → h'.at r = some o
theorem Kp.of_grows {c : Nat} {h h' : Hp} (g : Grows h h') : Kp c h h' := fun r o _ _ e => g.at_ r o e
theorem Kp.trans {c : Nat} {a b d : Hp} (x : Kp c a b) (y : Kp c b d) : Kp c a d := fun r o h1 h2 e => y r o h1 h2 (x r o h1 h2 e)
def rdV (c : Nat) : Value := .func (.func 82) ⟨[]⟩ ⟨[ptr c 0, ptr (c + 1) 0, ptr (c + 2) 0]⟩
structure RM (h : Hp) (c : Nat) (T : Tab) (v : Value) (q : List Int) : Prop where
  at1 : h.at c = some (.row 88 true (tabV T))
  at2 : h.at (c + 1) = some (.row 22 true [v])
  at3 : h.at (c + 2) = some (.row 119 true [rdV c])
  built : Built (bare (c + 3)) h 3 v q
  nx : c + 3 ≤ h.next
theorem RM.ext {h h' : Hp} {c : Nat} {T : Tab} {v : Value} {q : List Int} (k : RM h c T v q) (g : Grows h h') : RM h' c T v q :=
  ⟨g.at_ _ _ k.at1, g.at_ _ _ k.at2, g.at_ _ _ k.at3, k.built.ext g, Nat.le_trans k.nx g.next⟩
/-- What a slice that grows may have changed: the row that it lies in. -/
theorem built_kp {c : Nat} {h h' : Hp} {v : Value} {q : List Int} (hb : Built (bare (c + 3)) h 3 v q) (keep : ∀ r o, h.at r = some o → (∀ n c, v ≠ slc r 0 n c) → h'.at r = some o) : ∀ r o, (r < c + 3 ∨ NotInts o) → h.at r = some o → h'.at r = some o := by
  intro r o hr e
  refine keep r o e fun n cp hv => ?_
  rcases hb with ⟨rfl, _⟩ | ⟨r', rfl, h1, x, h2⟩
  · cases hv
  · have : r' = r := by
      simp [slc] at hv
      exact hv.1
    subst this
    rcases hr with hr | hr
    · have : c + 3 ≤ r' := h1
      omega
    · rw [h2] at e
      exact hr x _ (Option.some.inj e).symm
theorem tab_at' (T : Tab) {a b o : Nat} (ha : a < 13) (hb : b < 13) (e : o = b * 2 + a * 26 + 1) : (tabV T)[o]? = some (int (T a b).2) := by rw [e]; exact tab_at T ha hb
theorem finP_zero {φ : Rx.Frame} {H : Hp} {Q : Value → Hp → Prop} (q : Q (.tuple ⟨[]⟩) H) : finP E [] ⟨φ, H, []⟩ Q := q
attribute [local irreducible] E idxN cellAt cellsAt storeAt callable helems hmoved lookIn findKey keyOk hentries Hp.at Hp.set Hp.lay arBits hupdated setAt CallP YieldP BoolOf IsWrap Rnd LoopP AppP CutP Int.tmod Int.tdiv Int.fdiv
section
variable [Unknowns]
theorem piece_yes (a : Int) (h : Hp) : CallP E 77 [.agg ⟨[int a, int a]⟩] h (fun r h' => r = .bool true ∧ Grows h h') :=
  CallP.mono (piece_spec a a h) (by rintro r h' ⟨rfl, g⟩; exact ⟨by simp, g⟩)
theorem piece_no {a b : Int} (hab : a ≠ b) (h : Hp) : CallP E 77 [.agg ⟨[int a, int b]⟩] h (fun r h' => r = .bool false ∧ Grows h h') :=
  CallP.mono (piece_spec a b h) (by rintro r h' ⟨rfl, g⟩; exact ⟨by have : (b == a) = false := by simp; omega
                                                                    simp [this], g⟩)
attribute [local irreducible] SeqP ResP sameAt finP tabV
theorem read_spec (n : Nat) (hn : n ≤ 12) (T : Tab) (c : Nat) (hT : ∀ a b, a < b → b ≤ n → ∃ g : Nat, a ≤ g ∧ g < b ∧ (T a b).2 = (g : Int)) (m : Nat) : ∀ (a b : Nat) (q : List Int) (v : Value) (h : Hp), b - a ≤ m → a ≤ b → b ≤ n → q.length + (b - a) ≤ 1000 → RM h c T v q →
    CallP E 82 [.agg ⟨[int a, int b]⟩, ptr c 0, ptr (c + 1) 0, ptr (c + 2) 0] h (fun r h' => ∃ v' q', RM h' c T v' (q ++ q') ∧ TPl T a b q' ∧ Kp c h h') := by
  induction m with
  | zero =>
    intro a b q v h hm hab hb hq hr
    obtain rfl : a = b := by omega
    have hg0 : Grows h (h.lay (.row 115 true [int a, int a])) := Grows.lay _ _
    refine enter82 (by simp) ?_
    conv => whnf
    repeat (refine SeqP.go ?_; conv => whnf)
    refine ⟨_, two_cells (Hp.at_lay_self _ _), ?_⟩
    conv => whnf
    refine CallP.mono (piece_yes a _) ?_
    rintro r h1 ⟨rfl, g1⟩
    conv => whnf
    repeat (refine SeqP.go ?_; conv => whnf)
    exact finP_zero ⟨v, [], by rw [List.append_nil]; exact hr.ext (hg0.trans g1), .nil a, Kp.of_grows (hg0.trans g1)⟩
  | succ m ih =>
    intro a b q v h hm hab hb hq hr
    have hg0 : Grows h (h.lay (.row 115 true [int a, int b])) := Grows.lay _ _
    refine enter82 (by simp) ?_
    conv => whnf
    repeat (refine SeqP.go ?_; conv => whnf)
    refine ⟨_, two_cells (Hp.at_lay_self _ _), ?_⟩
    conv => whnf
    by_cases hab2 : a = b
    · subst hab2
      refine CallP.mono (piece_yes a _) ?_
      rintro r h1 ⟨rfl, g1⟩
      conv => whnf
      repeat (refine SeqP.go ?_; conv => whnf)
      exact finP_zero ⟨v, [], by rw [List.append_nil]; exact hr.ext (hg0.trans g1), .nil a, Kp.of_grows (hg0.trans g1)⟩
    refine CallP.mono (piece_no (by omega) _) ?_
    rintro r h1 ⟨rfl, g1⟩
    obtain ⟨g, l1, l2, eg⟩ := hT a b (by omega) hb
    have hbox := g1.at_ _ _ (Hp.at_lay_self h (.row 115 true [int a, int b]))
    have r1 := hr.ext (hg0.trans g1)
    conv => whnf
    repeat (refine SeqP.go ?_; conv => whnf)
    refine ⟨int a, cellAt_row hbox rfl, ?_⟩
    conv => whnf
    refine ⟨int b, cellAt_row hbox rfl, ?_⟩
    conv => whnf
    refine ⟨⟨by omega, by omega⟩, ?_⟩
    conv => whnf
    refine ⟨⟨by omega, by omega⟩, ?_⟩
    conv => whnf
    refine ⟨int g, (cellAt_row r1.at1 (tab_at' T (a := a) (b := b) (by omega) (by omega) (by rw [offAt_eq, offAt_eq]; omega))).trans (by rw [eg]), ?_⟩
    conv => whnf
    repeat (refine SeqP.go ?_; conv => whnf)
    refine ⟨v, cellAt_row r1.at2 rfl, ?_⟩
    conv => whnf
    have r2 := r1.ext (Grows.lay h1 (.row 3 true [int g]))
    have hbox2 := Hp.at_lay_old (.row 3 true [int g]) hbox
    refine AppP.ints r2.built (bare_grows r2.nx) Elems.lay1 (by simp; omega) ?_
    intro v2 h2 hb2 hg2 keep2
    have kp2 := built_kp r2.built keep2
    have hb2' := hb2
    rcases hb2' with ⟨rfl, e⟩ | ⟨rr, rfl, hrr, xx, hat⟩
    · simp at e
    have n2 := hg2.next
    have kp12 : Kp c h h2 := (Kp.of_grows ((hg0.trans g1).then_lay _)).trans fun r o e1 _ e2 => kp2 r o e1 e2
    have at1 := kp2 _ _ (.inl (by omega)) r2.at1
    have at2 := kp2 _ _ (.inl (by omega)) r2.at2
    have at3 := kp2 _ _ (.inl (by omega)) r2.at3
    have hbox3 := kp2 _ _ (.inr (fun x cs e => by cases e)) hbox2
    have hlt2 := Hp.lt_of_at at2
    have hbn : (bare (c + 3)).next = c + 3 := rfl
    have hne : h.next ≠ c + 1 := by have := hr.nx; omega
    have r3 : RM (h2.set (c + 1) (.row 22 true [slc rr 0 (q ++ [(g : Int)]).length (q ++ [(g : Int)]).length])) c T (slc rr 0 (q ++ [(g : Int)]).length (q ++ [(g : Int)]).length) (q ++ [(g : Int)]) :=
      ⟨by rw [Hp.at_set_ne _ (by omega)]; exact at1, Hp.at_set_self _ hlt2, by rw [Hp.at_set_ne _ (by omega)]; exact at3, .inr ⟨rr, rfl, hrr, xx, by rw [Hp.at_set_ne _ (by omega)]; exact hat⟩, by rw [Hp.next_set]; omega⟩
    have box3 : (h2.set (c + 1) (.row 22 true [slc rr 0 (q ++ [(g : Int)]).length (q ++ [(g : Int)]).length])).at h.next = some (.row 115 true [int a, int b]) := by rw [Hp.at_set_ne _ hne]; exact hbox3
    have kp3 : Kp c h (h2.set (c + 1) (.row 22 true [slc rr 0 (q ++ [(g : Int)]).length (q ++ [(g : Int)]).length])) := kp12.trans fun r o _ e1 e2 => by rw [Hp.at_set_ne _ e1]; exact e2
    conv => whnf
    refine ⟨rfl, _, storeAt_row at2 (by simp) rfl, ?_⟩
    conv => whnf
    repeat (refine SeqP.go ?_; conv => whnf)
    refine ⟨_, cellAt_row r3.at3 rfl, ?_⟩
    conv => whnf
    refine ⟨_, two_cells box3, ?_⟩
    conv => whnf
    refine CallP.mono (before_spec a b g _) ?_
    rintro r h4 ⟨rfl, g4⟩
    have r4 := r3.ext g4
    conv => whnf
    refine ⟨can82, ?_⟩
    refine CallP.mono (ih a g _ _ h4 (by omega) (by omega) (by omega) (by simp; omega) r4) ?_
    rintro r5 h5 ⟨v5, q5, r5', p5, k5⟩
    have box4 := g4.at_ _ _ box3
    have box5 := k5 _ _ (.inr (fun x cs e => by cases e)) hne box4
    have wf : sameV 4 (rdV c) (rdV c) = true := by unfold rdV; simp [sameV, sameL, ptr]
    conv => whnf
    refine ⟨?_, ?_⟩
    · repeat' (first | exact True.intro | (refine And.intro ?_ ?_ <;> (conv => whnf)))
      all_goals first
        | exact sameAt_val (h2 := _) (congrArg (hval _) (cellAt_row r3.at3 rfl)) wf
        | exact sameAt_val (h2 := _) (congrArg (hval _) (cellAt_row r4.at3 rfl)) wf
        | exact sameAt_val (h2 := _) (congrArg (hval _) (cellAt_row r5'.at3 rfl)) wf
        | exact sameAt_val (h2 := _) rfl (sameV_int _)
    conv => whnf
    repeat (refine SeqP.go ?_; conv => whnf)
    refine ⟨_, cellAt_row r5'.at3 rfl, ?_⟩
    conv => whnf
    refine ⟨_, two_cells box5, ?_⟩
    conv => whnf
    refine CallP.mono (behind_spec a b g (by omega) _) ?_
    rintro r h6 ⟨rfl, g6⟩
    have r6 := r5'.ext g6
    have l5 := p5.pl.length
    conv => whnf
    refine ⟨can82, ?_⟩
    refine CallP.mono (ih (g + 1) b _ _ h6 (by omega) (by omega) (by omega) (by simp; omega) r6) ?_
    rintro r7 h7 ⟨v7, q7, r7', p7, k7⟩
    conv => whnf
    refine ⟨?_, ?_⟩
    · repeat' (first | exact True.intro | (refine And.intro ?_ ?_ <;> (conv => whnf)))
      all_goals first
        | exact sameAt_val (h2 := _) (congrArg (hval _) (cellAt_row r5'.at3 rfl)) wf
        | exact sameAt_val (h2 := _) (congrArg (hval _) (cellAt_row r6.at3 rfl)) wf
        | exact sameAt_val (h2 := _) (congrArg (hval _) (cellAt_row r7'.at3 rfl)) wf
        | exact sameAt_val (h2 := _) rfl (sameV_int _)
    conv => whnf
    repeat (refine SeqP.go ?_; conv => whnf)
    have eq7 : q ++ [(g : Int)] ++ q5 ++ q7 = q ++ ([(g : Int)] ++ q5 ++ q7) := by simp
    rw [eq7] at r7'
    exact finP_zero ⟨v7, _, r7', .node l1 l2 eg p5 p7, ((kp3.trans (Kp.of_grows g4)).trans k5).trans ((Kp.of_grows g6).trans k7)⟩
end
end Go.Proofs.Yticmdpcahpimhaa
