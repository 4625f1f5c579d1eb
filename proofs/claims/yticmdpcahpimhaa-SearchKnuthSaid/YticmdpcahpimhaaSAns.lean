/- Contracts of the functions that SKnuthM comes to. -/
import Derived.Test.YticmdpcahpimhaaSCheckPlan
import Derived.Test.YticmdpcahpimhaaSSum
import Derived.Test.YticmdpcahpimhaaWx13
set_option maxRecDepth 100000
set_option maxHeartbeats 1000000
set_option linter.unusedVariables false
set_option linter.unusedSectionVars false
set_option linter.unusedSimpArgs false
namespace Go.Rx
theorem over_split : ∀ (vs cs pre : List Value), vs.length = cs.length → over (pre ++ cs) pre.length vs = pre ++ vs
  | [], [], pre, _ => by simp [over]
  | v :: vs, c :: cs, pre, h => by
    have ih := over_split vs cs (pre ++ [v]) (by simpa using h)
    simp only [over]
    rw [List.set_append_right _ _ (Nat.le_refl _)]
    simp only [Nat.sub_self, List.set_cons_zero]
    simp only [List.append_assoc, List.singleton_append, List.length_append, List.length_singleton] at ih
    exact ih
theorem storeAt_whole {h : Hp} {r : Nat} {e : TypeId} {x : Bool} {cs vs : List Value} (hr : h.at r = some (.row e x cs)) (hl : vs.length = cs.length) (h1 : vs.all oneCell = true) : storeAt h r 0 vs = some (h.set r (.row e x vs)) := by
  unfold storeAt
  rw [hr]
  dsimp only
  rw [if_pos ⟨by omega, h1⟩]
  have := over_split vs cs [] hl
  simp only [List.nil_append, List.length_nil] at this
  rw [this]
theorem Built.ne_at {h0 h : Hp} {e e' : TypeId} {x : Bool} {cs : List Value} {v : Value} {l : List Int} {r : Nat} (k : Built h0 h e v l) (hr : h.at r = some (.row e' x cs)) (hne : e ≠ e') : ∀ n c, v ≠ slc r 0 n c := by
  intro n c ev
  rcases k with ⟨rfl, _⟩ | ⟨r', rfl, _, x', hr'⟩
  · cases ev
  · unfold slc at ev
    cases ev
    rw [hr] at hr'
    cases hr'
    exact hne rfl
theorem Built.set_ne {h0 h : Hp} {e : TypeId} {v : Value} {l : List Int} {r : Nat} {o : Obj} (k : Built h0 h e v l) (hne : ∀ n c, v ≠ slc r 0 n c) : Built h0 (h.set r o) e v l := by
  rcases k with ⟨rfl, rfl⟩ | ⟨r', rfl, h2, x', hr'⟩
  · exact .inl ⟨rfl, rfl⟩
  · refine .inr ⟨r', rfl, h2, x', ?_⟩
    have : r' ≠ r := fun e => hne _ _ (by rw [e])
    rw [Hp.at_set_ne _ this]; exact hr'
end Go.Rx
namespace Go.Proofs.Yticmdpcahpimhaa
open Go.Rx Go.RowKit
attribute [local irreducible] E idxN cellAt cellsAt storeAt callable helems hmoved lookIn findKey keyOk hentries Hp.at Hp.set Hp.lay arBits hupdated setAt CallP YieldP BoolOf IsWrap Rnd LoopP AppP CutP Int.tmod Int.tdiv Int.fdiv
/-- The gates that are opened until only a piece is left. -/
def ans : Nat → Nat → List Int → Nat → List Int
  | 0, _, _, _ => []
  | _ + 1, _, [], _ => []
  | n + 1, a, g :: r, i => g :: (if (i : Int) ≤ g then ans n a (r.take (g.toNat - a)) i else ans n (g.toNat + 1) (r.drop (g.toNat - a)) i)
theorem ans_nil (k a i : Nat) : ans k a [] i = [] := by cases k <;> rfl
theorem ans_node {k a g b : Nat} {q1 q2 : List Int} (l : Pl a g q1) (r : Pl (g + 1) b q2) (i : Nat) : ans (k + 1) a ([(g : Int)] ++ q1 ++ q2) i = (g : Int) :: (if i ≤ g then ans k a q1 i else ans k (g + 1) q2 i) := by
  have e1 : (q1 ++ q2).take (g - a) = q1 := by rw [← l.length, List.take_left]
  have e2 : (q1 ++ q2).drop (g - a) = q2 := by rw [← l.length, List.drop_left]
  show (g : Int) :: (if (i : Int) ≤ (g : Int) then ans k a ((q1 ++ q2).take ((g : Int).toNat - a)) i else ans k ((g : Int).toNat + 1) ((q1 ++ q2).drop ((g : Int).toNat - a)) i) = _
  rw [Int.toNat_natCast, e1, e2]
  by_cases h : i ≤ g
  · rw [if_pos h, if_pos (by omega)]
  · rw [if_neg h, if_neg (by omega)]
structure AnsOk (a b i : Nat) (l : List Int) : Prop where
  bd : ∀ x ∈ l, (a : Int) ≤ x ∧ x < b
  nodup : l.Nodup
  here : i < b → (i : Int) ∈ l
  prev : a < i → ((i - 1 : Nat) : Int) ∈ l
  len : l.length ≤ b - a
  full : a < b → l ≠ []
theorem ans_ok : ∀ (k a b : Nat) (q : List Int) (i : Nat), Pl a b q → b - a ≤ k → a ≤ i → i ≤ b → AnsOk a b i (ans k a q i) := by
  intro k
  induction k with
  | zero =>
    intro a b q i hp hk h1 h2
    have := hp.le
    exact ⟨by simp [ans], by simp [ans], fun h => by omega, fun h => by omega, by simp [ans], fun h => by omega⟩
  | succ k ih =>
    intro a b q i hp hk h1 h2
    cases hp with
    | nil => rw [ans_nil]; exact ⟨by simp, by simp, fun h => by omega, fun h => by omega, by simp, fun h => by omega⟩
    | @node _ _ g q1 q2 l1 l2 p1 p2 =>
      rw [ans_node p1 p2]
      by_cases h : i ≤ g
      · rw [if_pos h]
        have o := ih a g q1 i p1 (by omega) h1 h
        refine ⟨?_, ?_, ?_, ?_, ?_, fun _ => by simp⟩
        · intro x hx
          rcases List.mem_cons.1 hx with rfl | hx
          · omega
          · have := o.bd x hx; omega
        · refine List.nodup_cons.2 ⟨fun hx => ?_, o.nodup⟩
          have := o.bd _ hx; omega
        · intro _
          by_cases e : i = g
          · subst e; exact List.mem_cons_self
          · exact List.mem_cons_of_mem _ (o.here (by omega))
        · intro e; exact List.mem_cons_of_mem _ (o.prev e)
        · have := o.len; simp; omega
      · rw [if_neg h]
        have o := ih (g + 1) b q2 i p2 (by omega) (by omega) h2
        refine ⟨?_, ?_, ?_, ?_, ?_, fun _ => by simp⟩
        · intro x hx
          rcases List.mem_cons.1 hx with rfl | hx
          · omega
          · have := o.bd x hx; omega
        · refine List.nodup_cons.2 ⟨fun hx => ?_, o.nodup⟩
          have := o.bd _ hx; omega
        · intro e
          exact List.mem_cons_of_mem _ (o.here e)
        · intro _
          by_cases e : i = g + 1
          · subst e; exact List.mem_cons_self
          · exact List.mem_cons_of_mem _ (o.prev (by omega))
        · have := o.len; simp; omega
section
variable [Unknowns]
attribute [local irreducible] sameAt
structure AnsSt where
  k : Nat
  a : Nat
  b : Nat
  q : List Int
  v : Value
  o : List Int
  w : Value
  h : Hp
theorem answer_spec (n : Nat) (hn : n ≤ 12) (i : Nat) (hi : i ≤ n) (q : List Int) (v : Value) (h : Hp) (hv : View h v q) (hp : Pl 0 n q) : CallP E 65 [int n, v, int i] h (fun r h' => Built h h' 3 r (ans n 0 q i) ∧ Grows h h') := by
  refine enter65 (by simp) ?_
  conv => whnf
  refine ⟨rfl, _, storeAt_all rfl rfl rfl, ?_⟩
  conv => whnf
  refine loop_inv (α := AnsSt) (fun s => [(1, s.v), (2, int i), (7, s.w), (8, ptr h.next 0)]) (fun s => s.h) (fun s => s.a ≤ i ∧ i ≤ s.b ∧ s.b ≤ n ∧ s.b - s.a ≤ s.k ∧ Pl s.a s.b s.q ∧ View h s.v s.q ∧ Built h s.h 3 s.w s.o ∧ s.h.at h.next = some (.row 115 true [int s.a, int s.b]) ∧ Grows h s.h ∧ s.o.length + s.k ≤ n ∧ s.o ++ ans s.k s.a s.q i = ans n 0 q i) (fun s => s.k) ⟨n, 0, n, q, v, [], .slice none 0 0, _⟩ ⟨by simp, hi, Nat.le_refl _, by simp, hp, hv, .inl ⟨rfl, rfl⟩, Hp.at_lay_self _ _, Grows.lay _ _, by simp, by simp⟩ ⟨rfl, rfl, rfl, rfl, trivial⟩ (Hp.Le.refl _) ?_
  rintro ⟨k, a, b, q, v, o, w, h1⟩ φ ⟨h1a, h1b, h1n, h1k, hp, hv, hw, hbox, hg, hol, hans⟩
  dsimp only at h1a h1b h1n h1k hp hv hw hbox hg hol hans ⊢
  conv => whnf
  refine ⟨[int a, int b], by rw [cellsAt_row hbox (by simp)]; rfl, ?_⟩
  conv => whnf
  refine CallP.mono (piece_spec a b _) ?_
  rintro v1 h2 ⟨rfl, hg2⟩
  have hq := hp.length
  cases hp with
  | nil =>
    rw [show (bif ((a : Int) == a) then ((a : Int) == a) else false) = true by simp]
    rw [ans_nil, List.append_nil] at hans
    have hw2 := hw.ext hg2
    have hw3 := hw2
    rcases hw3 with ⟨rfl, _⟩ | ⟨r, rfl, _, _⟩ <;> ((conv => whnf); exact ⟨by rw [← hans]; exact hw2, hg.trans hg2⟩)
  | @node _ _ g q1 q2 l1 l2 p1 p2 =>
    rw [show (bif ((a : Int) == a) then ((b : Int) == a) else false) = false by simp; omega]
    obtain ⟨k, rfl⟩ : ∃ k', k = k' + 1 := ⟨k - 1, by omega⟩
    rw [ans_node p1 p2] at hans
    have hi' := hv.ints
    obtain ⟨av, cv, he, hc⟩ := hi'
    have hsv : sameV 4 v v = true := by rw [he]; exact sameV_slice _ _ _
    have hv0 := hv
    subst he
    obtain ⟨r, ro, sp, e1, hsp, hcell⟩ := hc 0 (by simp)
    subst e1
    have hg12 := hg.trans hg2
    conv => whnf
    refine ⟨hsp, ⟨by omega, by simp; omega⟩, ?_⟩
    conv => whnf
    refine ⟨int g, by rw [offAt_eq]; exact hg12.cell (by simpa using hcell), ?_⟩
    conv => whnf
    have hw2 := hw.ext (hg2.trans (Grows.lay _ (.row 3 true [int g])))
    have hbox2 := Hp.at_lay_old (.row 3 true [int g]) (hg2.at_ _ _ hbox)
    have hnew := hw2.ne_at hbox2 (by decide)
    refine AppP.ints hw2 (hg12.then_lay _) Elems.lay1 (by simp; omega) ?_
    intro w3 h3 hw3 hg3 keep3
    have hbox3 := keep3 _ _ hbox2 hnew
    conv => whnf
    refine ⟨_, wid (by omega), ?_⟩
    conv => whnf
    refine ⟨int a, cellAt_row hbox3 rfl, ?_⟩
    conv => whnf
    refine ⟨((1 + g - a : Nat) : Int), wie (by omega) (by omega), ?_⟩
    conv => whnf
    by_cases hig : i ≤ g
    · rw [if_pos hig] at hans
      refine cmpT (by omega) ?_
      conv => whnf
      refine ⟨[int a, int b], by rw [cellsAt_row hbox3 (by simp)]; rfl, ?_⟩
      conv => whnf
      refine CallP.mono (before_spec a b g h3) ?_
      rintro v4 h4 ⟨rfl, hg4⟩
      have hg14 := hg3.trans hg4
      have hbox4 := hg4.at_ _ _ hbox3
      conv => whnf
      have hcut := cut_val (lo := some (int 1)) (hi := some (int (1 + g - a : Nat))) (i := 1) (j := 1 + g - a) hv0 ⟨.inr rfl, .inr rfl⟩ (by omega) (by have := p1.length; simp; omega)
      obtain ⟨v5, hv5, hw5, hs5⟩ := hcut
      have e5 : (([(g : Int)] ++ q1 ++ q2).drop 1).take (1 + g - a - 1) = q1 := by
        have := p1.length
        rw [show 1 + g - a - 1 = q1.length by omega]
        simp
      rw [e5] at hv5
      refine CutP.val (hs5 h4 hg14) ?_
      conv => whnf
      refine ⟨rfl, _, storeAt_whole hbox4 rfl rfl, ?_⟩
      conv => whnf
      have hg16 := hg14.then_set (.row 115 true [int a, int g]) (Nat.le_refl h.next)
      refine ⟨?_, ?_⟩
      · repeat' (first | exact True.intro | (refine And.intro ?_ ?_ <;> (conv => whnf)))
        all_goals first
          | (exact sameAt_val (h2 := _) rfl hsv)
          | (exact sameAt_val (h2 := _) rfl (sameV_int _))
          | (exact sameAt_val (hs5 _ hg3) hw5)
          | (exact sameAt_val (hs5 _ hg14) hw5)
          | (exact sameAt_val (hs5 _ hg16) hw5)
      conv => whnf
      have hw4 := (hw3.ext hg4).set_ne (o := .row 115 true [int a, int g]) ((hw3.ext hg4).ne_at hbox4 (by decide))
      exact Rnd.mk (⟨k, a, g, q1, v5, o ++ [(g : Int)], w3, _⟩ : AnsSt) ⟨h1a, hig, by show g ≤ n; omega, by show g - a ≤ k; omega, p1, hv5, hw4, Hp.at_set_self _ (Hp.lt_of_at hbox4), hg16, by show (o ++ [(g : Int)]).length + k ≤ n; simp; omega, by show (o ++ [(g : Int)]) ++ ans k a q1 i = _; rw [← hans]; simp⟩ (by show k < k + 1; omega) ⟨rfl, rfl, rfl, rfl, trivial⟩ (Hp.Le.refl _) rfl
    · rw [if_neg hig] at hans
      refine cmpF (by omega) ?_
      conv => whnf
      refine ⟨[int a, int b], by rw [cellsAt_row hbox3 (by simp)]; rfl, ?_⟩
      conv => whnf
      refine CallP.mono (behind_spec a b g (by omega) h3) ?_
      rintro v4 h4 ⟨rfl, hg4⟩
      have hg14 := hg3.trans hg4
      have hbox4 := hg4.at_ _ _ hbox3
      conv => whnf
      have hcut := cut_val (lo := some (int (1 + g - a : Nat))) (hi := none) (i := 1 + g - a) (j := ([(g : Int)] ++ q1 ++ q2).length) hv0 ⟨.inr rfl, .inl ⟨rfl, rfl⟩⟩ (by have := p1.length; simp; omega) (Nat.le_refl _)
      obtain ⟨v5, hv5, hw5, hs5⟩ := hcut
      have e5 : (([(g : Int)] ++ q1 ++ q2).drop (1 + g - a)).take (([(g : Int)] ++ q1 ++ q2).length - (1 + g - a)) = q2 := by
        have := p1.length
        rw [show 1 + g - a = ([(g : Int)] ++ q1).length by simp; omega, List.drop_left, List.take_of_length_le (by simp)]
      rw [e5] at hv5
      refine CutP.val (hs5 h4 hg14) ?_
      conv => whnf
      refine ⟨rfl, _, storeAt_whole hbox4 rfl rfl, ?_⟩
      conv => whnf
      have hg16 := hg14.then_set (.row 115 true [int (g + 1), int b]) (Nat.le_refl h.next)
      refine ⟨?_, ?_⟩
      · repeat' (first | exact True.intro | (refine And.intro ?_ ?_ <;> (conv => whnf)))
        all_goals first
          | (exact sameAt_val (h2 := _) rfl hsv)
          | (exact sameAt_val (h2 := _) rfl (sameV_int _))
          | (exact sameAt_val (hs5 _ hg3) hw5)
          | (exact sameAt_val (hs5 _ hg14) hw5)
          | (exact sameAt_val (hs5 _ hg16) hw5)
      conv => whnf
      have hw4 := (hw3.ext hg4).set_ne (o := .row 115 true [int (g + 1), int b]) ((hw3.ext hg4).ne_at hbox4 (by decide))
      exact Rnd.mk (⟨k, g + 1, b, q2, v5, o ++ [(g : Int)], w3, _⟩ : AnsSt) ⟨by show g + 1 ≤ i; omega, h1b, h1n, by show b - (g + 1) ≤ k; omega, p2, hv5, hw4, Hp.at_set_self _ (Hp.lt_of_at hbox4), hg16, by show (o ++ [(g : Int)]).length + k ≤ n; simp; omega, by show (o ++ [(g : Int)]) ++ ans k (g + 1) q2 i = _; rw [← hans]; simp⟩ (by show k < k + 1; omega) ⟨rfl, rfl, rfl, rfl, trivial⟩ (Hp.Le.refl _) rfl
end
end Go.Proofs.Yticmdpcahpimhaa
