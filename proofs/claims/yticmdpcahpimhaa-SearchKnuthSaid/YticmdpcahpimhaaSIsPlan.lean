/- Contracts of the functions that SKnuthM comes to. -/
import Derived.Test.YticmdpcahpimhaaSPart
import Derived.Test.YticmdpcahpimhaaSCosts
set_option maxRecDepth 100000
set_option maxHeartbeats 1000000
set_option linter.unusedVariables false
set_option linter.unusedSectionVars false
set_option linter.unusedSimpArgs false
namespace Go.Proofs.Yticmdpcahpimhaa
open Go.Rx Go.RowKit
attribute [local irreducible] E idxN cellAt cellsAt storeAt callable helems hmoved lookIn findKey keyOk hentries Hp.at Hp.set Hp.lay arBits hupdated setAt CallP YieldP BoolOf IsWrap Rnd LoopP AppP CutP Int.tmod Int.tdiv Int.fdiv
section
variable [Unknowns]
attribute [local irreducible] sameAt
theorem is_spec (n : Nat) : ∀ (a b : Nat) (q : List Int) (v : Value) (c : Nat) (h : Hp), b - a ≤ n → a ≤ b → b ≤ 12 → View h v q → Pl a b q → (∃ e x, h.at c = some (.row e x [.func (.func 76) ⟨[]⟩ ⟨[ptr c 0]⟩])) →
    CallP E 76 [.agg ⟨[int a, int b]⟩, v, ptr c 0] h (fun r h' => r = .bool true ∧ Grows h h') := by
  induction n with
  | zero =>
    intro a b q v c h hn hab hb hv hp hf
    have hq := hp.length
    obtain ⟨av, cap, rfl⟩ := hv.known
    refine enter76 (by simp) ?_
    conv => whnf
    refine ⟨int b, cellAt_lay rfl, ?_⟩
    conv => whnf
    refine ⟨int a, cellAt_lay rfl, ?_⟩
    conv => whnf
    refine ⟨((b - a : Nat) : Int), wie (by omega) (by omega), ?_⟩
    conv => whnf
    refine cmpF (by omega) ?_
    conv => whnf
    refine ⟨_, cellsAt_all rfl, ?_⟩
    conv => whnf
    refine CallP.mono (piece_spec a b _) ?_
    rintro v1 h1 ⟨rfl, hg1⟩
    have hab' : b = a := by omega
    rw [show (bif ((a : Int) == a) then ((b : Int) == a) else false) = true by simp; omega]
    conv => whnf
    exact ⟨rfl, (Grows.lay _ _).trans hg1⟩
  | succ n ih =>
    intro a b q v c h hn hab hb hv hp hf
    have hq := hp.length
    obtain ⟨av, cap, rfl⟩ := hv.known
    refine enter76 (by simp) ?_
    conv => whnf
    refine ⟨int b, cellAt_lay rfl, ?_⟩
    conv => whnf
    refine ⟨int a, cellAt_lay rfl, ?_⟩
    conv => whnf
    refine ⟨((b - a : Nat) : Int), wie (by omega) (by omega), ?_⟩
    conv => whnf
    refine cmpF (by omega) ?_
    conv => whnf
    refine ⟨_, cellsAt_all rfl, ?_⟩
    conv => whnf
    refine CallP.mono (piece_spec a b _) ?_
    rintro v1 h1 ⟨rfl, hg1⟩
    cases hp with
    | nil =>
      rw [show (bif ((a : Int) == a) then ((a : Int) == a) else false) = true by simp]
      conv => whnf
      exact ⟨rfl, (Grows.lay _ _).trans hg1⟩
    | @node _ _ g q1 q2 l1 l2 p1 p2 =>
      rw [show (bif ((a : Int) == a) then ((b : Int) == a) else false) = false by simp; omega]
      have hv1 := hv.ext ((Grows.lay _ _).trans hg1)
      have hi := hv1.ints
      obtain ⟨a', c', he, hc⟩ := hi
      cases he
      obtain ⟨r, o, sp, e1, hsp, hcell⟩ := hc 0 (by simp)
      subst e1
      obtain ⟨ee, xx, hfat⟩ := hf
      have hfat1 := hg1.at_ _ _ (Hp.at_lay_old (.row 115 true [int a, int b]) hfat)
      have hbox := hg1.at_ _ _ (Hp.at_lay_self h (.row 115 true [int a, int b]))
      conv => whnf
      refine ⟨hsp, ⟨by omega, by simp; omega⟩, ?_⟩
      conv => whnf
      refine ⟨int g, by rw [offAt_eq]; simpa using hcell, ?_⟩
      conv => whnf
      refine CutP.ints (i := 1) (j := ([(g : Int)] ++ q1 ++ q2).length) hv1 ⟨.inr rfl, .inl ⟨rfl, rfl⟩⟩ (by simp) (Nat.le_refl _) ?_
      intro v2 hv2 _ hw2
      have er : (([(g : Int)] ++ q1 ++ q2).drop 1).take (([(g : Int)] ++ q1 ++ q2).length - 1) = q1 ++ q2 := by simp [List.take_of_length_le]
      rw [er] at hv2
      conv => whnf
      refine ⟨int a, cellAt_row hbox rfl, ?_⟩
      conv => whnf
      refine cmpF (by omega) ?_
      conv => whnf
      refine ⟨int b, cellAt_row hbox rfl, ?_⟩
      conv => whnf
      refine cmpF (by omega) ?_
      conv => whnf
      refine ⟨int a, cellAt_row hbox rfl, ?_⟩
      conv => whnf
      refine ⟨((g - a : Nat) : Int), wie (by omega) (by omega), ?_⟩
      conv => whnf
      refine ⟨.func (.func 76) ⟨[]⟩ ⟨[ptr c 0]⟩, cellAt_row hfat1 rfl, ?_⟩
      conv => whnf
      refine ⟨[int a, int b], by rw [cellsAt_row hbox (by simp)]; rfl, ?_⟩
      conv => whnf
      refine CallP.mono (before_spec a b g h1) ?_
      rintro v3 h3 ⟨rfl, hg3⟩
      conv => whnf
      have hcut4 := cut_val (lo := none) (hi := some (int (g - a : Nat))) (i := 0) (j := g - a) hv2 ⟨.inl ⟨rfl, rfl⟩, .inr rfl⟩ (by omega) (by have := p1.length; simp; omega)
      obtain ⟨v4, hv4, hw4, hs4⟩ := hcut4
      have hv4 := hv4.ext hg3
      refine CutP.val (hs4 h3 hg3) ?_
      have e4 : ((q1 ++ q2).drop 0).take (g - a - 0) = q1 := by
        have := p1.length
        rw [List.drop_zero, Nat.sub_zero, ← this, List.take_left]
      rw [e4] at hv4
      conv => whnf
      refine ⟨can76, ?_⟩
      refine CallP.mono (ih a g q1 v4 c h3 (by omega) l1 (by omega) hv4 p1 ⟨_, _, hg3.at_ _ _ hfat1⟩) ?_
      rintro v5 h5 ⟨rfl, hg5⟩
      have hg35 := hg3.trans hg5
      have hbox5 := hg35.at_ _ _ hbox
      have hfat5 := hg35.at_ _ _ hfat1
      conv => whnf
      refine ⟨.func (.func 76) ⟨[]⟩ ⟨[ptr c 0]⟩, cellAt_row hfat5 rfl, ?_⟩
      conv => whnf
      refine ⟨[int a, int b], by rw [cellsAt_row hbox5 (by simp)]; rfl, ?_⟩
      conv => whnf
      refine CallP.mono (behind_spec a b g (by omega) h5) ?_
      rintro v6 h6 ⟨rfl, hg6⟩
      have hg16 := hg35.trans hg6
      conv => whnf
      have hcut7 := cut_val (lo := some (int (g - a : Nat))) (hi := none) (i := g - a) (j := (q1 ++ q2).length) hv2 ⟨.inr rfl, .inl ⟨rfl, rfl⟩⟩ (by have := p1.length; simp; omega) (Nat.le_refl _)
      obtain ⟨v7, hv7, hw7, hs7⟩ := hcut7
      have hv7 := hv7.ext hg16
      refine CutP.val (hs7 h6 hg16) ?_
      have e7 : ((q1 ++ q2).drop (g - a)).take ((q1 ++ q2).length - (g - a)) = q2 := by
        have := p1.length
        rw [← this, List.drop_left, List.take_of_length_le (by simp)]
      rw [e7] at hv7
      conv => whnf
      refine ⟨can76, ?_⟩
      refine CallP.mono (ih (g + 1) b q2 v7 c h6 (by omega) (by omega) hb hv7 p2 ⟨_, _, hg16.at_ _ _ hfat1⟩) ?_
      rintro v8 h8 ⟨rfl, hg8⟩
      conv => whnf
      refine ⟨?_, ?_⟩
      rotate_left
      · conv => whnf
        exact ⟨rfl, ((Grows.lay _ _).trans hg1).trans (hg16.trans hg8)⟩
      have go3 : ∀ h', Grows h1 h' → cellAt h' c 0 = some (.func (.func 76) ⟨[]⟩ ⟨[ptr c 0]⟩) := fun h' g => cellAt_row (g.at_ _ _ hfat1) rfl
      have gob : ∀ h', Grows h1 h' → cellsAt h' h.next 0 2 = some [int a, int b] := fun h' g => by rw [cellsAt_row (g.at_ _ _ hbox) (by simp)]; rfl
      have g18 := hg16.trans hg8
      have gr1 : Grows h1 h1 := .refl _
      have wf : sameV 4 (.func (.func 76) ⟨[]⟩ ⟨[ptr c 0]⟩) (.func (.func 76) ⟨[]⟩ ⟨[ptr c 0]⟩) = true := by simp [sameV, ptr]
      repeat' (first | exact True.intro | (refine And.intro ?_ ?_ <;> (conv => whnf)))
      all_goals first
        | (refine sameAt_val (h2 := h1) (show hval h1 (cellAt h1 c 0) = _ by rw [go3 h1 gr1]; rfl) wf; done)
        | (refine sameAt_val (h2 := h3) (show hval h3 (cellAt h3 c 0) = _ by rw [go3 h3 hg3]; rfl) wf; done)
        | (refine sameAt_val (h2 := h5) (show hval h5 (cellAt h5 c 0) = _ by rw [go3 h5 hg35]; rfl) wf; done)
        | (refine sameAt_val (h2 := h6) (show hval h6 (cellAt h6 c 0) = _ by rw [go3 h6 hg16]; rfl) wf; done)
        | (exact sameAt_val (h2 := _) rfl hw2)
        | (exact sameAt_val (h2 := _) rfl (sameV_int _))
        | (exact sameAt_val (hs4 h1 gr1) hw4)
        | (exact sameAt_val (hs4 h3 hg3) hw4)
        | (exact sameAt_val (hs7 h5 hg35) hw7)
        | (exact sameAt_val (hs7 h6 hg16) hw7)
end
end Go.Proofs.Yticmdpcahpimhaa
