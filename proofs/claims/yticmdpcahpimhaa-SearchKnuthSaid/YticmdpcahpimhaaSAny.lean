/- Contracts of the functions that SKnuthM comes to. -/
import Derived.Test.YticmdpcahpimhaaSPrices
set_option maxRecDepth 100000
set_option maxHeartbeats 1000000
set_option linter.unusedVariables false
set_option linter.unusedSectionVars false
set_option linter.unusedSimpArgs false
namespace Go.Rx
theorem BoolOf.yes {p : Prop} (h : p) : BoolOf true p := ⟨fun _ => h, fun _ => rfl⟩
theorem BoolOf.no {p : Prop} (h : ¬ p) : BoolOf false p := ⟨fun e => (by cases e), fun hp => absurd hp h⟩
theorem BoolOf.congr {b : Bool} {p q : Prop} (h : BoolOf b p) (e : p ↔ q) : BoolOf b q := Iff.trans h e
end Go.Rx
namespace Go.Proofs.Yticmdpcahpimhaa
open Go.Rx Go.RowKit
attribute [local irreducible] E idxN cellAt cellsAt storeAt callable helems hmoved lookIn findKey keyOk hentries Hp.at Hp.set Hp.lay arBits hupdated setAt CallP YieldP BoolOf IsWrap Rnd LoopP AppP CutP Int.tmod Int.tdiv Int.fdiv
theorem Pl_cons {a b : Nat} {x : Int} {r : List Int} (hab : a < b) (h : Pl a b (x :: r)) : ∃ g : Nat, x = g ∧ a ≤ g ∧ g < b ∧ Pl a g (r.take (g - a)) ∧ Pl (g + 1) b (r.drop (g - a)) := by
  generalize hq : x :: r = q at h
  cases h with
  | nil => omega
  | @node _ _ g q1 q2 h1 h2 l1 l2 =>
    have e : x :: r = (g : Int) :: (q1 ++ q2) := by rw [hq]; simp
    injection e with e1 e2
    subst e1 e2
    refine ⟨g, rfl, h1, h2, ?_, ?_⟩
    · rw [← l1.length, List.take_left]; exact l1
    · rw [← l1.length, List.drop_left]; exact l2
theorem Pl_mk {a b g : Nat} {r : List Int} (h1 : a ≤ g) (h2 : g < b) (l1 : Pl a g (r.take (g - a))) (l2 : Pl (g + 1) b (r.drop (g - a))) : Pl a b ((g : Int) :: r) := by
  have := Pl.node h1 h2 l1 l2
  rw [List.append_assoc, List.take_append_drop] at this
  exact this
section
variable [Unknowns]
attribute [local irreducible] sameAt
theorem is_any (n : Nat) : ∀ (a b : Nat) (q : List Int) (v : Value) (c : Nat) (h : Hp), b - a ≤ n → a ≤ b → b ≤ 12 → View h v q → q.length < 1000000 → (∃ e x, h.at c = some (.row e x [.func (.func 76) ⟨[]⟩ ⟨[ptr c 0]⟩])) →
    CallP E 76 [.agg ⟨[int a, int b]⟩, v, ptr c 0] h (fun r h' => (∃ ok, r = .bool ok ∧ BoolOf ok (Pl a b q)) ∧ Grows h h') := by
  induction n with
  | zero =>
    intro a b q v c h hn hab hb hv hql hf
    obtain ⟨av, cap, rfl⟩ := hv.known
    have hab' : b = a := by omega
    subst hab'
    refine enter76 (by simp) ?_
    conv => whnf
    refine ⟨int b, cellAt_lay rfl, ?_⟩
    conv => whnf
    refine ⟨int b, cellAt_lay rfl, ?_⟩
    conv => whnf
    refine ⟨((b - b : Nat) : Int), wie (by omega) (by omega), ?_⟩
    conv => whnf
    by_cases hq : q.length = 0
    · have : q = [] := List.eq_nil_of_length_eq_zero hq
      subst this
      refine cmpF (by simp) ?_
      conv => whnf
      refine ⟨_, cellsAt_all rfl, ?_⟩
      conv => whnf
      refine CallP.mono (piece_spec b b _) ?_
      rintro v1 h1 ⟨rfl, hg1⟩
      rw [show (bif ((b : Int) == b) then ((b : Int) == b) else false) = true by simp]
      conv => whnf
      exact ⟨⟨true, rfl, BoolOf.yes (.nil _)⟩, (Grows.lay _ _).trans hg1⟩
    · refine cmpT (by omega) ?_
      conv => whnf
      exact ⟨⟨false, rfl, BoolOf.no (fun hp => by have := hp.length; omega)⟩, Grows.lay _ _⟩
  | succ n ih =>
    intro a b q v c h hn hab hb hv hql hf
    obtain ⟨av, cap, rfl⟩ := hv.known
    refine enter76 (by simp) ?_
    conv => whnf
    refine ⟨int b, cellAt_lay rfl, ?_⟩
    conv => whnf
    refine ⟨int a, cellAt_lay rfl, ?_⟩
    conv => whnf
    refine ⟨((b - a : Nat) : Int), wie (by omega) (by omega), ?_⟩
    conv => whnf
    by_cases hq : q.length = b - a
    rotate_left
    · refine cmpT (by omega) ?_
      conv => whnf
      exact ⟨⟨false, rfl, BoolOf.no (fun hp => by have := hp.length; omega)⟩, Grows.lay _ _⟩
    refine cmpF (by omega) ?_
    conv => whnf
    refine ⟨_, cellsAt_all rfl, ?_⟩
    conv => whnf
    refine CallP.mono (piece_spec a b _) ?_
    rintro v1 h1 ⟨rfl, hg1⟩
    by_cases hab' : b = a
    · subst hab'
      have : q = [] := List.eq_nil_of_length_eq_zero (by omega)
      subst this
      rw [show (bif ((b : Int) == b) then ((b : Int) == b) else false) = true by simp]
      conv => whnf
      exact ⟨⟨true, rfl, BoolOf.yes (.nil _)⟩, (Grows.lay _ _).trans hg1⟩
    rw [show (bif ((a : Int) == a) then ((b : Int) == a) else false) = false by simp; omega]
    have hab2 : a < b := by omega
    cases q with
    | nil => (simp only [List.length_nil] at hq; omega)
    | cons x r =>
    have hv1 := hv.ext ((Grows.lay _ _).trans hg1)
    have hi := hv1.ints
    obtain ⟨a', c', he, hc⟩ := hi
    cases he
    obtain ⟨rr, o, sp, e1, hsp, hcell⟩ := hc 0 (by simp)
    subst e1
    obtain ⟨ee, xx, hfat⟩ := hf
    have hfat1 := hg1.at_ _ _ (Hp.at_lay_old (.row 115 true [int a, int b]) hfat)
    have hbox := hg1.at_ _ _ (Hp.at_lay_self h (.row 115 true [int a, int b]))
    have hgg := (Grows.lay h (.row 115 true [int a, int b])).trans hg1
    simp only [List.length_cons] at hql hq
    conv => whnf
    refine ⟨hsp, ⟨by omega, by simp only [List.length_cons]; omega⟩, ?_⟩
    conv => whnf
    refine ⟨int x, by rw [offAt_eq]; simpa using hcell, ?_⟩
    conv => whnf
    refine CutP.ints (i := 1) (j := (x :: r).length) hv1 ⟨.inr rfl, .inl ⟨rfl, rfl⟩⟩ (by simp) (Nat.le_refl _) ?_
    intro v2 hv2 _ hw2
    have er : ((x :: r).drop 1).take ((x :: r).length - 1) = r := by simp
    rw [er] at hv2
    conv => whnf
    refine ⟨int a, cellAt_row hbox rfl, ?_⟩
    conv => whnf
    by_cases hxa : x < a
    · refine cmpT (by omega) ?_
      conv => whnf
      exact ⟨⟨false, rfl, BoolOf.no (fun hp => by obtain ⟨g, rfl, h1, h2, -⟩ := Pl_cons hab2 hp; omega)⟩, hgg⟩
    refine cmpF (by omega) ?_
    conv => whnf
    refine ⟨int b, cellAt_row hbox rfl, ?_⟩
    conv => whnf
    by_cases hxb : (b : Int) ≤ x
    · refine cmpT (by omega) ?_
      conv => whnf
      exact ⟨⟨false, rfl, BoolOf.no (fun hp => by obtain ⟨g, rfl, h1, h2, -⟩ := Pl_cons hab2 hp; omega)⟩, hgg⟩
    refine cmpF (by omega) ?_
    obtain ⟨g, rfl⟩ : ∃ g : Nat, x = g := ⟨x.toNat, by omega⟩
    have l1 : a ≤ g := by omega
    have l2 : g < b := by omega
    conv => whnf
    refine ⟨int a, cellAt_row hbox rfl, ?_⟩
    conv => whnf
    refine ⟨((g - a : Nat) : Int), wie (by omega) (by omega), ?_⟩
    conv => whnf
    refine ⟨.func (.func 76) ⟨[]⟩ ⟨[ptr c 0]⟩, cellAt_row hfat1 rfl, ?_⟩
    conv => whnf
    refine ⟨[int a, int b], by rw [cellsAt_row hbox (by simp)]; rfl, ?_⟩
    conv => whnf
    refine CallP.mono (before_spec a b g h1) ?_
    rintro v3 h3 ⟨rfl, hg3⟩
    conv => whnf
    have hcut4 := cut_val (lo := none) (hi := some (int (g - a : Nat))) (i := 0) (j := g - a) hv2 ⟨.inl ⟨rfl, rfl⟩, .inr rfl⟩ (by omega) (by omega)
    obtain ⟨v4, hv4, hw4, hs4⟩ := hcut4
    have hv4 := hv4.ext hg3
    refine CutP.val (hs4 h3 hg3) ?_
    rw [List.drop_zero, Nat.sub_zero] at hv4
    conv => whnf
    refine ⟨can76, ?_⟩
    refine CallP.mono (ih a g _ v4 c h3 (by omega) l1 (by omega) hv4 (by rw [List.length_take]; omega) ⟨_, _, hg3.at_ _ _ hfat1⟩) ?_
    rintro v5 h5 ⟨⟨ok1, rfl, hok1⟩, hg5⟩
    have hg35 := hg3.trans hg5
    have hbox5 := hg35.at_ _ _ hbox
    have hfat5 := hg35.at_ _ _ hfat1
    have go3 : ∀ h', Grows h1 h' → cellAt h' c 0 = some (.func (.func 76) ⟨[]⟩ ⟨[ptr c 0]⟩) := fun h' g => cellAt_row (g.at_ _ _ hfat1) rfl
    have gr1 : Grows h1 h1 := .refl _
    have wf : sameV 4 (.func (.func 76) ⟨[]⟩ ⟨[ptr c 0]⟩) (.func (.func 76) ⟨[]⟩ ⟨[ptr c 0]⟩) = true := by simp [sameV, ptr]
    cases ok1 with
    | false =>
      conv => whnf
      refine ⟨?_, ?_⟩
      rotate_left
      · conv => whnf
        exact ⟨⟨false, rfl, BoolOf.no (fun hp => by
          obtain ⟨g', e, _, _, p1, _⟩ := Pl_cons hab2 hp
          obtain rfl : g = g' := by omega
          exact hok1.f p1)⟩, hgg.trans hg35⟩
      repeat' (first | exact True.intro | (refine And.intro ?_ ?_ <;> (conv => whnf)))
      all_goals first
        | (refine sameAt_val (h2 := h1) (show hval h1 (cellAt h1 c 0) = _ by rw [go3 h1 gr1]; rfl) wf; done)
        | (refine sameAt_val (h2 := h3) (show hval h3 (cellAt h3 c 0) = _ by rw [go3 h3 hg3]; rfl) wf; done)
        | (refine sameAt_val (h2 := h5) (show hval h5 (cellAt h5 c 0) = _ by rw [go3 h5 hg35]; rfl) wf; done)
        | (exact sameAt_val (h2 := _) rfl hw2)
        | (exact sameAt_val (h2 := _) rfl (sameV_int _))
        | (exact sameAt_val (hs4 h1 gr1) hw4)
        | (exact sameAt_val (hs4 h3 hg3) hw4)
        | (exact sameAt_val (hs4 h5 hg35) hw4)
    | true =>
    conv => whnf
    refine ⟨.func (.func 76) ⟨[]⟩ ⟨[ptr c 0]⟩, cellAt_row hfat5 rfl, ?_⟩
    conv => whnf
    refine ⟨[int a, int b], by rw [cellsAt_row hbox5 (by simp)]; rfl, ?_⟩
    conv => whnf
    refine CallP.mono (behind_spec a b g (by omega) h5) ?_
    rintro v6 h6 ⟨rfl, hg6⟩
    have hg16 := hg35.trans hg6
    conv => whnf
    have hcut7 := cut_val (lo := some (int (g - a : Nat))) (hi := none) (i := g - a) (j := r.length) hv2 ⟨.inr rfl, .inl ⟨rfl, rfl⟩⟩ (by omega) (Nat.le_refl _)
    obtain ⟨v7, hv7, hw7, hs7⟩ := hcut7
    have hv7 := hv7.ext hg16
    refine CutP.val (hs7 h6 hg16) ?_
    have e7 : (r.drop (g - a)).take (r.length - (g - a)) = r.drop (g - a) := List.take_of_length_le (by simp)
    rw [e7] at hv7
    conv => whnf
    refine ⟨can76, ?_⟩
    refine CallP.mono (ih (g + 1) b _ v7 c h6 (by omega) (by omega) hb hv7 (by rw [List.length_drop]; omega) ⟨_, _, hg16.at_ _ _ hfat1⟩) ?_
    rintro v8 h8 ⟨⟨ok2, rfl, hok2⟩, hg8⟩
    conv => whnf
    refine ⟨?_, ?_⟩
    rotate_left
    · conv => whnf
      refine ⟨⟨ok2, rfl, hok2.congr ⟨fun p2 => Pl_mk l1 l2 hok1.t p2, fun hp => ?_⟩⟩, hgg.trans (hg16.trans hg8)⟩
      obtain ⟨g', e, _, _, _, p2⟩ := Pl_cons hab2 hp
      obtain rfl : g = g' := by omega
      exact p2
    have g18 := hg16.trans hg8
    repeat' (first | exact True.intro | (refine And.intro ?_ ?_ <;> (conv => whnf)))
    all_goals first
      | (refine sameAt_val (h2 := h1) (show hval h1 (cellAt h1 c 0) = _ by rw [go3 h1 gr1]; rfl) wf; done)
      | (refine sameAt_val (h2 := h3) (show hval h3 (cellAt h3 c 0) = _ by rw [go3 h3 hg3]; rfl) wf; done)
      | (refine sameAt_val (h2 := h5) (show hval h5 (cellAt h5 c 0) = _ by rw [go3 h5 hg35]; rfl) wf; done)
      | (refine sameAt_val (h2 := h6) (show hval h6 (cellAt h6 c 0) = _ by rw [go3 h6 hg16]; rfl) wf; done)
      | (exact sameAt_val (h2 := _) rfl hw2)
      | (exact sameAt_val (h2 := _) rfl (sameV_int _))
      | (exact sameAt_val (hs4 h1 gr1) hw4)
      | (exact sameAt_val (hs4 h3 hg3) hw4)
      | (exact sameAt_val (hs7 h5 hg35) hw7)
      | (exact sameAt_val (hs7 h6 hg16) hw7)
theorem isplan_any (n : Nat) (hn : n ≤ 12) (q : List Int) (v : Value) (h : Hp) (hv : View h v q) (hq : q.length < 1000000) : CallP E 56 [int n, v] h (fun r h' => (∃ ok, r = .bool ok ∧ BoolOf ok (Pl 0 n q)) ∧ Grows h h') := by
  refine enter56 (by simp) ?_
  conv => whnf
  refine ⟨rfl, _, storeAt_lay (by simp) rfl, ?_⟩
  conv => whnf
  refine ⟨.func (.func 76) ⟨[]⟩ ⟨[ptr h.next 0]⟩, cellAt_lay rfl, ?_⟩
  conv => whnf
  refine ⟨can76, ?_⟩
  refine CallP.mono (is_any n 0 n q v h.next _ (by omega) (by omega) hn (hv.ext (Grows.lay _ _)) hq ⟨_, _, Hp.at_lay_self _ _⟩) ?_
  rintro v1 h1 ⟨⟨ok, rfl, hok⟩, hg⟩
  conv => whnf
  exact ⟨⟨ok, rfl, hok⟩, (Grows.lay _ _).trans hg⟩
end
end Go.Proofs.Yticmdpcahpimhaa
