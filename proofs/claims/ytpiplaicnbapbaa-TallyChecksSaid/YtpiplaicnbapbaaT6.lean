/- Contracts of the functions that T27 comes to. -/
import Derived.Test.YtpiplaicnbapbaaT5
set_option maxRecDepth 100000
set_option maxHeartbeats 2000000
set_option linter.unusedVariables false
set_option linter.unusedSectionVars false
set_option linter.unusedSimpArgs false
namespace Go.Proofs.Ytpiplaicnbapbaa
open Go.Rx Go.RowKit
theorem len_snoc {l : List Int} {k : Nat} (h : l.length = k) (x : Int) : (l ++ [x]).length = k + 1 := by rw [List.length_append, h]; rfl
theorem all_snoc {p : Int → Prop} {l : List Int} (h : ∀ x ∈ l, p x) {y : Int} (hy : p y) : ∀ x ∈ l ++ [y], p x := fun x hx => by
  rcases List.mem_append.1 hx with h1 | h1
  · exact h x h1
  · rw [List.mem_singleton.1 h1]; exact hy
attribute [local irreducible] E idxN cellAt cellsAt storeAt callable helems hmoved lookIn findKey keyOk hentries Hp.at Hp.set Hp.lay arBits hupdated setAt CallP YieldP BoolOf IsWrap Rnd LoopP AppP CutP Int.tmod Int.tdiv Int.fdiv
section
variable [Unknowns]
attribute [local irreducible] ResP sameAt finP
theorem tame_spec (v : Value) (p : Prot) (h : Hp) (hv : PI h v p) (hi : InR p.n) (ho : p.out.length < 9223372036854775808) (hs : p.start.length < 9223372036854775808) (hr : p.rules.length < 9223372036854775808) (most : Nat) (hm1 : 1 ≤ most) (hm5 : most ≤ 5) : CallP E 34 [v, int most] h (fun r h' => (∃ q, PV h' r q ∧ POk q ∧ q.n ≤ most) ∧ Grows h h') := by
  obtain ⟨n0, out0, st0, R0⟩ := p
  obtain ⟨vo, vs, vr, rfl, k1, k2, k3⟩ := hv
  dsimp only at hi ho hs hr k1 k2 k3 ⊢
  obtain ⟨ao, co, rfl, hco⟩ := id k1
  obtain ⟨az, cz, rfl, hcz⟩ := id k2
  obtain ⟨ar, cr, rfl, hcr⟩ := id k3
  unfold pval
  have hexv : ∃ vs : List Value, vs = [int n0, .slice ao out0.length co, .slice az st0.length cz, .slice ar R0.length cr] := ⟨_, rfl⟩
  obtain ⟨bx, ebx⟩ := hexv
  have b0 : bx[0]? = some (int n0) := by rw [ebx]; rfl
  have b1 : bx[1]? = some (.slice ao out0.length co) := by rw [ebx]; rfl
  have b2 : bx[2]? = some (.slice az st0.length cz) := by rw [ebx]; rfl
  have b3 : bx[3]? = some (.slice ar R0.length cr) := by rw [ebx]; rfl
  rw [← ebx]
  clear ebx
  have nilv : ∀ (c : Nat), (Value.slice none 0 0) = .slice none 0 0 := fun _ => rfl
  have a0 : ((h.lay (.row 25 true bx)).lay (.row 26 true [int 0, .slice none 0 0, .slice none 0 0, .slice none 0 0])).at h.next = some (.row 25 true bx) := Hp.at_lay_old _ (Hp.at_lay_self _ _)
  refine enter34 (by simp) ?_
  conv => whnf
  refine SeqP.go ?_
  conv => whnf
  refine SeqP.cut (α := Nat) (fun n => [(5, int n), (2, ptr h.next 0), (4, ptr (h.next + 1) 0)]) (fun n H => H = (h.lay (.row 25 true bx)).lay (.row 26 true [int 0, .slice none 0 0, .slice none 0 0, .slice none 0 0]) ∧ 1 ≤ n ∧ n ≤ most) ?_ ?_
  · conv => whnf
    refine ⟨_, cellAt_row a0 b0, ?_⟩
    have hux := u64_of n0
    obtain ⟨u, u0, u1, hu⟩ := hux
    have b1 := tmod_bd u0 (show (0 : Int) < (most : Int) by omega)
    have hexn : ∃ n : Nat, u.tmod most = (n : Int) := ⟨(u.tmod most).toNat, by omega⟩
    obtain ⟨n, hn⟩ := hexn
    conv => whnf
    refine ⟨u, hu, ?_⟩
    conv => whnf
    refine ⟨(most : Int), u64_id (by omega), ?_⟩
    conv => whnf
    refine ⟨by omega, ?_⟩
    conv => whnf
    refine ⟨(n : Int), wie hn (by omega), ?_⟩
    conv => whnf
    refine ⟨((n + 1 : Nat) : Int), wie (by omega) (by omega), ?_⟩
    conv => whnf
    exact ⟨n + 1, ⟨rfl, rfl, congrArg (fun k => ptr k 0) (Hp.next_lay _ _), trivial⟩, ⟨rfl, by omega, by omega⟩, rfl⟩
  rintro n φ1 _ ⟨rfl, hn1, hnm⟩
  have hn5 : n ≤ 5 := by omega
  conv => whnf
  refine SeqP.cut (α := Hp) (fun _ => [(6, ptr (h.next + 2) 0), (5, int n), (2, ptr h.next 0), (4, ptr (h.next + 1) 0)]) (fun s H => s = H ∧ PM s s (h.next + 2) [int n, .slice none 0 0, .slice none 0 0, .slice none 0 0] ∧ s.next = h.next + 3 ∧ s.at h.next = some (.row 25 true bx) ∧ s.at (h.next + 1) = some (.row 26 true [int 0, .slice none 0 0, .slice none 0 0, .slice none 0 0]) ∧ Grows h s) ?_ ?_
  · conv => whnf
    refine ⟨rfl, _, storeAt_all (vs := [int n, .slice none 0 0, .slice none 0 0, .slice none 0 0]) rfl rfl rfl, ?_⟩
    conv => whnf
    have n2 : ((h.lay (.row 25 true bx)).lay (.row 26 true [int 0, .slice none 0 0, .slice none 0 0, .slice none 0 0])).next = h.next + 2 := by simp only [Hp.next_lay]
    refine ⟨_, ⟨congrArg (fun k => ptr k 0) n2, rfl, rfl, rfl, trivial⟩, ⟨rfl, PM.start (at_nx2 n2 (Hp.at_lay_self _ _)), by simp only [Hp.next_lay], Hp.at_lay_old _ a0, Hp.at_lay_old _ (at_nx2 (Hp.next_lay _ _) (Hp.at_lay_self _ _)), ((Grows.lay _ _).then_lay _).then_lay _⟩, rfl⟩
  rintro H0 φ2 _ ⟨rfl, hpm0, hn0, hx0, hx1, hgh0⟩
  have hD : h.next + 2 < H0.next := by omega
  conv => whnf
  refine SeqP.cut (α := Value × List Int × Hp) (fun s => [(6, ptr (h.next + 2) 0), (5, int n), (2, ptr h.next 0), (4, ptr (h.next + 1) 0)]) (fun s H => s.2.2 = H ∧ PM H0 s.2.2 (h.next + 2) [int n, s.1, .slice none 0 0, .slice none 0 0] ∧ Built (bareN H0.next) s.2.2 3 s.1 s.2.1 ∧ s.2.1.length = n ∧ ∀ x ∈ s.2.1, 0 ≤ x ∧ x ≤ 1) ?_ ?_
  · conv => whnf
    repeat (refine SeqP.go ?_; conv => whnf)
    refine loop_inv (α := Nat × Value × List Int × Hp) (fun s => [(7, int s.1), (6, ptr (h.next + 2) 0), (5, int n), (2, ptr h.next 0), (4, ptr (h.next + 1) 0)]) (fun s => s.2.2.2) (fun s => s.1 ≤ n ∧ PM H0 s.2.2.2 (h.next + 2) [int n, s.2.1, .slice none 0 0, .slice none 0 0] ∧ Built (bareN H0.next) s.2.2.2 3 s.2.1 s.2.2.1 ∧ s.2.2.1.length = s.1 ∧ ∀ x ∈ s.2.2.1, 0 ≤ x ∧ x ≤ 1) (fun s => n - s.1) (0, .slice none 0 0, [], H0) ⟨Nat.zero_le _, hpm0, .inl ⟨rfl, rfl⟩, rfl, by simp⟩ ⟨rfl, rfl, rfl, rfl, rfl, trivial⟩ (Hp.Le.refl _) ?_
    rintro ⟨k, w, l, H⟩ φ3 ⟨hk, hpm, hb, hl, hall⟩
    dsimp only at hk hpm hb hl hall ⊢
    conv => whnf
    repeat (refine SeqP.go ?_; conv => whnf)
    refine cmpB (fun c1 => ?_) (fun c1 => ?_)
    rotate_left
    · conv => whnf
      exact ⟨(w, l, H), ⟨rfl, rfl, rfl, rfl, trivial⟩, ⟨rfl, hpm, hb, by show l.length = n; omega, hall⟩, rfl⟩
    have hgH := hpm.grows hgh0 (Nat.le_add_right _ _)
    have hxH := hpm.at_ _ _ (by omega) (by omega) hx0
    conv => whnf
    refine SeqP.cut (α := Value × List Int × Hp) (fun s => [(7, int k), (6, ptr (h.next + 2) 0), (5, int n), (2, ptr h.next 0), (4, ptr (h.next + 1) 0)]) (fun s H' => s.2.2 = H' ∧ PM H0 s.2.2 (h.next + 2) [int n, s.1, .slice none 0 0, .slice none 0 0] ∧ Built (bareN H0.next) s.2.2 3 s.1 s.2.1 ∧ s.2.1.length = k + 1 ∧ ∀ x ∈ s.2.1, 0 ≤ x ∧ x ≤ 1) ?_ ?_
    rotate_left
    · rintro ⟨w', l', H'⟩ φ4 _ ⟨rfl, h1, h2, h3, h4⟩
      dsimp only at h1 h2 h3 h4 ⊢
      conv => whnf
      refine ⟨((k + 1 : Nat) : Int), wie (by omega) (by omega), ?_⟩
      conv => whnf
      exact Rnd.mk (k + 1, w', l', H') ⟨by show k + 1 ≤ n; omega, h1, h2, h3, h4⟩ (by show n - (k + 1) < n - k; omega) ⟨rfl, rfl, rfl, rfl, rfl, trivial⟩ (Hp.Le.refl _) rfl
    conv => whnf
    refine SeqP.go ?_
    conv => whnf
    refine SeqP.cut (α := Int) (fun y => [(8, int y), (7, int k), (6, ptr (h.next + 2) 0), (5, int n), (2, ptr h.next 0), (4, ptr (h.next + 1) 0)]) (fun y H' => H = H' ∧ 0 ≤ y ∧ y ≤ 1) ?_ ?_
    · conv => whnf
      repeat (refine SeqP.go ?_; conv => whnf)
      refine ⟨_, cellAt_row hxH b1, ?_⟩
      conv => whnf
      refine cmpB (fun c2 => ?_) (fun c2 => ?_)
      rotate_left
      · conv => whnf
        exact ⟨0, ⟨rfl, rfl, rfl, rfl, rfl, rfl, trivial⟩, ⟨rfl, by omega, by omega⟩, rfl⟩
      have hc := (k1.ext hgH)
      obtain ⟨ao', co', ew, hcc⟩ := hc
      cases ew
      have hc := hcc k (by omega)
      obtain ⟨r, o, sp, ea, hsp, hci⟩ := hc
      subst ea
      have hux := u64_of out0[k]
      obtain ⟨u, u0, u1, hu⟩ := hux
      have b1' := tmod_bd u0 (show (0 : Int) < 2 by omega)
      conv => whnf
      refine ⟨_, cellAt_row hxH b1, ?_⟩
      conv => whnf
      refine ⟨hsp, ⟨by omega, by omega⟩, ?_⟩
      conv => whnf
      refine ⟨int out0[k], by rw [offAt_eq, Nat.add_comm]; simpa using hci, ?_⟩
      conv => whnf
      refine ⟨u, hu, ?_⟩
      conv => whnf
      refine ⟨by omega, ?_⟩
      conv => whnf
      refine ⟨u.tmod 2, wid (by omega), ?_⟩
      conv => whnf
      exact ⟨u.tmod 2, ⟨rfl, rfl, rfl, rfl, rfl, rfl, trivial⟩, ⟨rfl, by omega, by omega⟩, rfl⟩
    rintro y φ5 _ ⟨rfl, hy⟩
    conv => whnf
    repeat (refine SeqP.go ?_; conv => whnf)
    refine ⟨_, cellAt_row hpm.dat rfl, ?_⟩
    conv => whnf
    have hnx := hpm.next
    refine AppP.ints (hb.ext (Grows.lay _ _)) (bareN_grows (by rw [Hp.next_lay]; exact Nat.le_succ_of_le hnx)) Elems.lay1 (by simp; omega) ?_
    intro w2 H2 hb2 hg2 keep2
    have hdat2 := hpm.app_dat hD (Grows.lay _ _) keep2 (built_ge hb)
    rcases id hb2 with ⟨rfl, e⟩ | ⟨r2, rfl, hr2, x2, hat2⟩
    · simp at e
    conv => whnf
    refine ⟨rfl, _, storeAt_row hdat2 (by simp) rfl, ?_⟩
    conv => whnf
    refine ⟨(_, _, _), ⟨rfl, rfl, rfl, rfl, rfl, trivial⟩, ⟨rfl, hpm.app hD (Grows.lay _ _) keep2 (built_ge hb) hg2.next _, ?_, len_snoc hl y, all_snoc hall hy⟩, rfl⟩
    exact built_set_lt hb2 hD
  rintro ⟨vo, lo, H1⟩ φ6 _ ⟨rfl, hpm1, hbo, hlo, hao⟩
  dsimp only at hpm1 hbo hlo hao ⊢
  have hg1 := hpm1.grows hgh0 (Nat.le_add_right _ _)
  have hx1a := hpm1.at_ _ _ (by omega) (by omega) hx0
  have hx1b := hpm1.at_ _ _ (by omega) (by omega) hx1
  have hn1x := hpm1.next
  have hD1 : h.next + 2 < H1.next := by omega
  have hpm1' := PM.start hpm1.dat
  conv => whnf
  refine SeqP.cut (α := Value × List Int × Hp) (fun s => [(6, ptr (h.next + 2) 0), (5, int n), (2, ptr h.next 0), (4, ptr (h.next + 1) 0)]) (fun s H => s.2.2 = H ∧ PM H1 s.2.2 (h.next + 2) [int n, vo, s.1, .slice none 0 0] ∧ Built (bareN H1.next) s.2.2 3 s.1 s.2.1 ∧ 1 ≤ s.2.1.length ∧ s.2.1.length ≤ 2 ∧ ∀ x ∈ s.2.1, 0 ≤ x ∧ x ≤ (n : Int) - 1) ?_ ?_
  · conv => whnf
    repeat (refine SeqP.go ?_; conv => whnf)
    refine loop_inv (α := Nat × Value × List Int × Hp) (fun s => [(10, int s.1), (6, ptr (h.next + 2) 0), (5, int n), (2, ptr h.next 0), (4, ptr (h.next + 1) 0)]) (fun s => s.2.2.2) (fun s => s.1 ≤ 2 ∧ PM H1 s.2.2.2 (h.next + 2) [int n, vo, s.2.1, .slice none 0 0] ∧ Built (bareN H1.next) s.2.2.2 3 s.2.1 s.2.2.1 ∧ s.2.2.1.length = s.1 ∧ ∀ x ∈ s.2.2.1, 0 ≤ x ∧ x ≤ (n : Int) - 1) (fun s => 2 - s.1) (0, .slice none 0 0, [], H1) ⟨Nat.zero_le _, hpm1', .inl ⟨rfl, rfl⟩, rfl, by simp⟩ ⟨rfl, rfl, rfl, rfl, rfl, trivial⟩ (Hp.Le.refl _) ?_
    rintro ⟨k, w, l, H⟩ φ3 ⟨hk, hpm, hb, hl, hall⟩
    dsimp only at hk hpm hb hl hall ⊢
    have hgH := hpm.grows hg1 (Nat.le_add_right _ _)
    have hxH := hpm.at_ _ _ (by omega) (by omega) hx1a
    conv => whnf
    refine SeqP.cut (α := Unit) (fun _ => [(10, int k), (6, ptr (h.next + 2) 0), (5, int n), (2, ptr h.next 0), (4, ptr (h.next + 1) 0)]) (fun _ H' => H = H' ∧ k < 2) ?_ ?_
    · conv => whnf
      repeat (refine SeqP.go ?_; conv => whnf)
      refine cmpB (fun c1 => ?_) (fun c1 => ?_)
      · conv => whnf
        repeat (refine SeqP.go ?_; conv => whnf)
        exact ⟨(), ⟨rfl, rfl, rfl, rfl, rfl, trivial⟩, ⟨rfl, by omega⟩, rfl⟩
      conv => whnf
      refine ⟨_, cellAt_row hxH b2, ?_⟩
      conv => whnf
      refine cmpB (fun c2 => ?_) (fun c2 => ?_)
      rotate_left
      · conv => whnf
        repeat (refine SeqP.go ?_; conv => whnf)
        exact ⟨(w, l, H), ⟨rfl, rfl, rfl, rfl, trivial⟩, ⟨rfl, hpm, hb, by show 1 ≤ l.length; omega, by show l.length ≤ 2; omega, hall⟩, rfl⟩
      conv => whnf
      refine cmpB (fun c3 => ?_) (fun c3 => ?_)
      · conv => whnf
        repeat (refine SeqP.go ?_; conv => whnf)
        exact ⟨(), ⟨rfl, rfl, rfl, rfl, rfl, trivial⟩, ⟨rfl, by omega⟩, rfl⟩
      · conv => whnf
        repeat (refine SeqP.go ?_; conv => whnf)
        exact ⟨(w, l, H), ⟨rfl, rfl, rfl, rfl, trivial⟩, ⟨rfl, hpm, hb, by show 1 ≤ l.length; omega, by show l.length ≤ 2; omega, hall⟩, rfl⟩
    rintro _ φ4 _ ⟨rfl, hk2⟩
    conv => whnf
    refine SeqP.cut (α := Value × List Int × Hp) (fun s => [(10, int k), (6, ptr (h.next + 2) 0), (5, int n), (2, ptr h.next 0), (4, ptr (h.next + 1) 0)]) (fun s H' => s.2.2 = H' ∧ PM H1 s.2.2 (h.next + 2) [int n, vo, s.1, .slice none 0 0] ∧ Built (bareN H1.next) s.2.2 3 s.1 s.2.1 ∧ s.2.1.length = k + 1 ∧ ∀ x ∈ s.2.1, 0 ≤ x ∧ x ≤ (n : Int) - 1) ?_ ?_
    rotate_left
    · rintro ⟨w', l', H'⟩ φ4 _ ⟨rfl, h1, h2, h3, h4⟩
      dsimp only at h1 h2 h3 h4 ⊢
      conv => whnf
      refine ⟨((k + 1 : Nat) : Int), wie (by omega) (by omega), ?_⟩
      conv => whnf
      exact Rnd.mk (k + 1, w', l', H') ⟨by show k + 1 ≤ 2; omega, h1, h2, h3, h4⟩ (by show 2 - (k + 1) < 2 - k; omega) ⟨rfl, rfl, rfl, rfl, rfl, trivial⟩ (Hp.Le.refl _) rfl
    conv => whnf
    refine SeqP.go ?_
    conv => whnf
    refine SeqP.cut (α := Int) (fun y => [(11, int y), (10, int k), (6, ptr (h.next + 2) 0), (5, int n), (2, ptr h.next 0), (4, ptr (h.next + 1) 0)]) (fun y H' => H = H' ∧ 0 ≤ y ∧ y ≤ (n : Int) - 1) ?_ ?_
    · conv => whnf
      repeat (refine SeqP.go ?_; conv => whnf)
      refine ⟨_, cellAt_row hxH b2, ?_⟩
      conv => whnf
      refine cmpB (fun c2 => ?_) (fun c2 => ?_)
      rotate_left
      · conv => whnf
        exact ⟨0, ⟨rfl, rfl, rfl, rfl, rfl, rfl, trivial⟩, ⟨rfl, by omega, by omega⟩, rfl⟩
      have hc := (k2.ext hgH)
      obtain ⟨ao', co', ew, hcc⟩ := hc
      cases ew
      have hc := hcc k (by omega)
      obtain ⟨r, o, sp, ea, hsp, hci⟩ := hc
      subst ea
      have hux := u64_of st0[k]
      obtain ⟨u, u0, u1, hu⟩ := hux
      have b1' := tmod_bd u0 (show (0 : Int) < (n : Int) by omega)
      conv => whnf
      refine ⟨_, cellAt_row hxH b2, ?_⟩
      conv => whnf
      refine ⟨hsp, ⟨by omega, by omega⟩, ?_⟩
      conv => whnf
      refine ⟨int st0[k], by rw [offAt_eq, Nat.add_comm]; simpa using hci, ?_⟩
      conv => whnf
      refine ⟨u, hu, ?_⟩
      conv => whnf
      refine ⟨(n : Int), u64_id (by omega), ?_⟩
      conv => whnf
      refine ⟨by omega, ?_⟩
      conv => whnf
      refine ⟨u.tmod n, wid (by omega), ?_⟩
      conv => whnf
      exact ⟨u.tmod n, ⟨rfl, rfl, rfl, rfl, rfl, rfl, trivial⟩, ⟨rfl, by omega, by omega⟩, rfl⟩
    rintro y φ5 _ ⟨rfl, hy⟩
    conv => whnf
    repeat (refine SeqP.go ?_; conv => whnf)
    refine ⟨_, cellAt_row hpm.dat rfl, ?_⟩
    conv => whnf
    have hnx := hpm.next
    refine AppP.ints (hb.ext (Grows.lay _ _)) (bareN_grows (by rw [Hp.next_lay]; exact Nat.le_succ_of_le hnx)) Elems.lay1 (by simp; omega) ?_
    intro w2 H2 hb2 hg2 keep2
    have hdat2 := hpm.app_dat hD1 (Grows.lay _ _) keep2 (built_ge hb)
    rcases id hb2 with ⟨rfl, e⟩ | ⟨r2, rfl, hr2, x2, hat2⟩
    · simp at e
    conv => whnf
    refine ⟨rfl, _, storeAt_row hdat2 (by simp) rfl, ?_⟩
    conv => whnf
    refine ⟨(_, _, _), ⟨rfl, rfl, rfl, rfl, rfl, trivial⟩, ⟨rfl, hpm.app hD1 (Grows.lay _ _) keep2 (built_ge hb) hg2.next _, ?_, len_snoc hl y, all_snoc hall hy⟩, rfl⟩
    exact built_set_lt hb2 hD1
  rintro ⟨vs, ls, H2⟩ φ7 _ ⟨rfl, hpm2, hbs, hls1, hls2, has⟩
  dsimp only at hpm2 hbs hls1 hls2 has ⊢
  have hg2 := hpm2.grows hg1 (Nat.le_add_right _ _)
  have hx2a := hpm2.at_ _ _ (by omega) (by omega) hx1a
  have hx2b := hpm2.at_ _ _ (by omega) (by omega) hx1b
  have hn2x := hpm2.next
  have hD2 : h.next + 2 < H2.next := by omega
  have hpm2' := PM.start hpm2.dat
  conv => whnf
  refine SeqP.cut (α := Value × List Q4 × Hp) (fun s => [(6, ptr (h.next + 2) 0), (4, ptr (h.next + 1) 0)]) (fun s H => s.2.2 = H ∧ PM H2 s.2.2 (h.next + 2) [int n, vo, vs, s.1] ∧ BuiltC (bareN H2.next) s.2.2 96 4 s.1 s.2.1.length ((flat4 s.2.1).map int) ∧ RUp n n n s.2.1) ?_ ?_
  · conv => whnf
    repeat (refine SeqP.go ?_; conv => whnf)
    refine loop_inv (α := Nat × Value × List Q4 × Hp) (fun s => [(13, int s.1), (6, ptr (h.next + 2) 0), (5, int n), (2, ptr h.next 0), (4, ptr (h.next + 1) 0)]) (fun s => s.2.2.2) (fun s => s.1 ≤ n ∧ PM H2 s.2.2.2 (h.next + 2) [int n, vo, vs, s.2.1] ∧ BuiltC (bareN H2.next) s.2.2.2 96 4 s.2.1 s.2.2.1.length ((flat4 s.2.2.1).map int) ∧ RUp n s.1 s.1 s.2.2.1) (fun s => n - s.1) (0, .slice none 0 0, [], H2) ⟨Nat.zero_le _, hpm2', BuiltC.nil, RUp.start n⟩ ⟨rfl, rfl, rfl, rfl, rfl, trivial⟩ (Hp.Le.refl _) ?_
    rintro ⟨a, w, R, H⟩ φ3 ⟨ha, hpm, hb, hup⟩
    dsimp only at ha hpm hb hup ⊢
    conv => whnf
    repeat (refine SeqP.go ?_; conv => whnf)
    refine cmpB (fun c1 => ?_) (fun c1 => ?_)
    rotate_left
    · have : a = n := by omega
      subst this
      conv => whnf
      exact ⟨(w, R, H), ⟨rfl, rfl, trivial⟩, ⟨rfl, hpm, hb, hup⟩, rfl⟩
    have han : a < n := by omega
    conv => whnf
    refine SeqP.cut (α := Value × List Q4 × Hp) (fun s => [(13, int a), (6, ptr (h.next + 2) 0), (5, int n), (2, ptr h.next 0), (4, ptr (h.next + 1) 0)]) (fun s H' => s.2.2 = H' ∧ PM H2 s.2.2 (h.next + 2) [int n, vo, vs, s.1] ∧ BuiltC (bareN H2.next) s.2.2 96 4 s.1 s.2.1.length ((flat4 s.2.1).map int) ∧ RUp n (a + 1) (a + 1) s.2.1) ?_ ?_
    rotate_left
    · rintro ⟨w', R', H'⟩ φ4 _ ⟨rfl, h1, h2, h3⟩
      dsimp only at h1 h2 h3 ⊢
      conv => whnf
      refine ⟨((a + 1 : Nat) : Int), wie (by omega) (by omega), ?_⟩
      conv => whnf
      exact Rnd.mk (a + 1, w', R', H') ⟨by show a + 1 ≤ n; omega, h1, h2, h3⟩ (by show n - (a + 1) < n - a; omega) ⟨rfl, rfl, rfl, rfl, rfl, trivial⟩ (Hp.Le.refl _) rfl
    conv => whnf
    repeat (refine SeqP.go ?_; conv => whnf)
    refine loop_inv (α := Nat × Value × List Q4 × Hp) (fun s => [(14, int s.1), (13, int a), (6, ptr (h.next + 2) 0), (5, int n), (2, ptr h.next 0), (4, ptr (h.next + 1) 0)]) (fun s => s.2.2.2) (fun s => a ≤ s.1 ∧ s.1 ≤ n ∧ PM H2 s.2.2.2 (h.next + 2) [int n, vo, vs, s.2.1] ∧ BuiltC (bareN H2.next) s.2.2.2 96 4 s.2.1 s.2.2.1.length ((flat4 s.2.2.1).map int) ∧ RUp n a s.1 s.2.2.1) (fun s => n - s.1) (a, w, R, H) ⟨Nat.le_refl _, ha, hpm, hb, hup⟩ ⟨rfl, rfl, rfl, rfl, rfl, rfl, trivial⟩ (Hp.Le.refl _) ?_
    clear hpm hb hup
    rintro ⟨b, w, R, H⟩ φ4 ⟨hab, hbn, hpm, hb, hup⟩
    dsimp only at hab hbn hpm hb hup ⊢
    conv => whnf
    repeat (refine SeqP.go ?_; conv => whnf)
    refine cmpB (fun c2 => ?_) (fun c2 => ?_)
    rotate_left
    · have : b = n := by omega
      subst this
      conv => whnf
      exact ⟨(w, R, H), ⟨rfl, rfl, rfl, rfl, rfl, trivial⟩, ⟨rfl, hpm, hb, hup.turn han⟩, rfl⟩
    have hbn' : b < n := by omega
    conv => whnf
    refine SeqP.cut (α := Value × List Q4 × Hp) (fun s => [(14, int b), (13, int a), (6, ptr (h.next + 2) 0), (5, int n), (2, ptr h.next 0), (4, ptr (h.next + 1) 0)]) (fun s H' => s.2.2 = H' ∧ PM H2 s.2.2 (h.next + 2) [int n, vo, vs, s.1] ∧ BuiltC (bareN H2.next) s.2.2 96 4 s.1 s.2.1.length ((flat4 s.2.1).map int) ∧ RUp n a (b + 1) s.2.1) ?_ ?_
    rotate_left
    · rintro ⟨w', R', H'⟩ φ5 _ ⟨rfl, h1, h2, h3⟩
      dsimp only at h1 h2 h3 ⊢
      conv => whnf
      refine ⟨((b + 1 : Nat) : Int), wie (by omega) (by omega), ?_⟩
      conv => whnf
      exact Rnd.mk (b + 1, w', R', H') ⟨by show a ≤ b + 1; omega, by show b + 1 ≤ n; omega, h1, h2, h3⟩ (by show n - (b + 1) < n - b; omega) ⟨rfl, rfl, rfl, rfl, rfl, rfl, trivial⟩ (Hp.Le.refl _) rfl
    conv => whnf
    repeat (refine SeqP.go ?_; conv => whnf)
    refine loop_inv (α := Nat × Hp) (fun s => [(15, int s.1), (14, int b), (13, int a), (6, ptr (h.next + 2) 0), (5, int n), (2, ptr h.next 0), (4, ptr (h.next + 1) 0)]) (fun s => s.2) (fun s => s.1 ≤ R0.length ∧ PM H2 s.2 (h.next + 2) [int n, vo, vs, w] ∧ BuiltC (bareN H2.next) s.2 96 4 w R.length ((flat4 R).map int)) (fun s => R0.length - s.1) (0, H) ⟨Nat.zero_le _, hpm, hb⟩ ⟨rfl, rfl, rfl, rfl, rfl, rfl, rfl, trivial⟩ (Hp.Le.refl _) ?_
    clear hpm hb
    rintro ⟨i, H⟩ φ5 ⟨hi, hpm, hb⟩
    dsimp only at hi hpm hb ⊢
    have hgH := hpm.grows hg2 (Nat.le_add_right _ _)
    have hxH := hpm.at_ _ _ (by omega) (by omega) hx2a
    conv => whnf
    refine SeqP.cut (α := Unit) (fun _ => [(15, int i), (14, int b), (13, int a), (6, ptr (h.next + 2) 0), (5, int n), (2, ptr h.next 0), (4, ptr (h.next + 1) 0)]) (fun _ H' => H = H' ∧ i < R0.length) ?_ ?_
    · conv => whnf
      repeat (refine SeqP.go ?_; conv => whnf)
      refine ⟨_, cellAt_row hxH b3, ?_⟩
      conv => whnf
      refine cmpB (fun c3 => ?_) (fun c3 => ?_)
      rotate_left
      · conv => whnf
        repeat (refine SeqP.go ?_; conv => whnf)
        exact ⟨(w, R, H), ⟨rfl, rfl, rfl, rfl, rfl, rfl, trivial⟩, ⟨rfl, hpm, hb, hup.skip hab⟩, rfl⟩
      conv => whnf
      refine cmpB (fun c4 => ?_) (fun c4 => ?_)
      rotate_left
      · conv => whnf
        repeat (refine SeqP.go ?_; conv => whnf)
        exact ⟨(w, R, H), ⟨rfl, rfl, rfl, rfl, rfl, rfl, trivial⟩, ⟨rfl, hpm, hb, hup.skip hab⟩, rfl⟩
      · conv => whnf
        repeat (refine SeqP.go ?_; conv => whnf)
        exact ⟨(), ⟨rfl, rfl, rfl, rfl, rfl, rfl, rfl, trivial⟩, ⟨rfl, by omega⟩, rfl⟩
    rintro _ φ6 _ ⟨rfl, hiR⟩
    conv => whnf
    refine SeqP.cut (α := Hp) (fun _ => [(15, int i), (14, int b), (13, int a), (6, ptr (h.next + 2) 0), (5, int n), (2, ptr h.next 0), (4, ptr (h.next + 1) 0)]) (fun s H' => s = H' ∧ PM H2 s (h.next + 2) [int n, vo, vs, w] ∧ BuiltC (bareN H2.next) s 96 4 w R.length ((flat4 R).map int)) ?_ ?_
    rotate_left
    · rintro H' φ8 _ ⟨rfl, h1, h2⟩
      conv => whnf
      refine ⟨((i + 1 : Nat) : Int), wie (by omega) (by omega), ?_⟩
      conv => whnf
      exact Rnd.mk (i + 1, H') ⟨by show i + 1 ≤ R0.length; omega, h1, h2⟩ (by show R0.length - (i + 1) < R0.length - i; omega) ⟨rfl, rfl, rfl, rfl, rfl, rfl, rfl, trivial⟩ (Hp.Le.refl _) rfl
    have hck := hcr i hiR
    obtain ⟨rr, oo, ear, hck⟩ := hck
    subst ear
    have hckH := hgH.cells hck
    have hexq : ∃ q, R0[i] = q := ⟨_, rfl⟩
    obtain ⟨q, eq⟩ := hexq
    rw [eq] at hckH
    conv => whnf
    refine SeqP.cut (α := Hp) (fun s => [(16, ptr H.next 0), (15, int i), (14, int b), (13, int a), (6, ptr (h.next + 2) 0), (5, int n), (2, ptr h.next 0), (4, ptr (h.next + 1) 0)]) (fun s H' => s = H' ∧ s.at H.next = some (.row 96 true [int q.a, int q.b, int q.c, int q.d]) ∧ Grows H s) ?_ ?_
    · conv => whnf
      refine ⟨_, cellAt_row hxH b3, ?_⟩
      conv => whnf
      refine ⟨rfl, ⟨by omega, by omega⟩, ?_⟩
      conv => whnf
      refine ⟨[int q.a, int q.b, int q.c, int q.d], by rw [offAt_eq, Nat.add_comm]; simpa using hckH, ?_⟩
      conv => whnf
      refine ⟨rfl, _, storeAt_all (vs := [int q.a, int q.b, int q.c, int q.d]) rfl rfl rfl, ?_⟩
      conv => whnf
      exact ⟨_, ⟨rfl, rfl, rfl, rfl, rfl, rfl, rfl, rfl, trivial⟩, ⟨rfl, Hp.at_lay_self _ _, Grows.lay _ _⟩, rfl⟩
    rintro H3 φ8 _ ⟨rfl, hq3, hg3⟩
    have hpm3 := hpm.ext hg3
    have hb3 := hb.ext hg3
    clear hxH
    conv => whnf
    refine SeqP.cut (α := Int × Int) (fun s => [(17, int s.1), (18, int s.2), (16, ptr H.next 0), (15, int i), (14, int b), (13, int a), (6, ptr (h.next + 2) 0), (5, int n), (2, ptr h.next 0), (4, ptr (h.next + 1) 0)]) (fun s H' => H3 = H') ?_ ?_
    · have hux := u64_of q.a
      obtain ⟨u, u0, u1, hu⟩ := hux
      have hux' := u64_of q.b
      obtain ⟨u', u0', u1', hu'⟩ := hux'
      have e1 := tmod_bd u0 (show (0 : Int) < (n : Int) by omega)
      have e2 := tmod_bd u0' (show (0 : Int) < (n : Int) by omega)
      conv => whnf
      refine ⟨⟨by omega, by omega⟩, ?_⟩
      conv => whnf
      refine ⟨_, cellAt_row hq3 rfl, ?_⟩
      conv => whnf
      refine ⟨u, hu, ?_⟩
      conv => whnf
      refine ⟨(n : Int), u64_id (by omega), ?_⟩
      conv => whnf
      refine ⟨by omega, ?_⟩
      conv => whnf
      refine ⟨u.tmod n, wid (by omega), ?_⟩
      conv => whnf
      refine ⟨⟨by omega, by omega⟩, ?_⟩
      conv => whnf
      refine ⟨_, cellAt_row hq3 rfl, ?_⟩
      conv => whnf
      refine ⟨u', hu', ?_⟩
      conv => whnf
      refine ⟨(n : Int), u64_id (by omega), ?_⟩
      conv => whnf
      refine ⟨by omega, ?_⟩
      conv => whnf
      refine ⟨u'.tmod n, wid (by omega), ?_⟩
      conv => whnf
      exact ⟨(u.tmod n, u'.tmod n), ⟨rfl, rfl, rfl, rfl, rfl, rfl, rfl, rfl, rfl, rfl, trivial⟩, rfl, rfl⟩
    rintro ⟨c, d⟩ φ9 _ rfl
    dsimp only
    conv => whnf
    refine SeqP.cut (α := Unit) (fun _ => [(16, ptr H.next 0), (14, int b), (13, int a), (6, ptr (h.next + 2) 0), (5, int n), (2, ptr h.next 0), (4, ptr (h.next + 1) 0)]) (fun s H' => H3 = H') ?_ ?_
    · conv => whnf
      repeat (refine SeqP.go ?_; conv => whnf)
      refine resP_val (v := int (min c d)) (h := H3) ?_ ?_
      · conv => lhs; whnf
        exact congrArg (HRes.val · _) (min_eq3 _ _)
      conv => whnf
      refine cmpB (fun c5 => ?_) (fun c5 => ?_)
      · conv => whnf
        repeat (refine SeqP.go ?_; conv => whnf)
        exact ⟨H3, ⟨rfl, rfl, rfl, rfl, rfl, rfl, rfl, trivial⟩, ⟨rfl, hpm3, hb3⟩, rfl⟩
      conv => whnf
      refine resP_val (v := int (max c d)) (h := H3) ?_ ?_
      · conv => lhs; whnf
        exact congrArg (HRes.val · _) (max_eq3 _ _)
      conv => whnf
      refine cmpB (fun c6 => ?_) (fun c6 => ?_)
      · conv => whnf
        repeat (refine SeqP.go ?_; conv => whnf)
        exact ⟨H3, ⟨rfl, rfl, rfl, rfl, rfl, rfl, rfl, trivial⟩, ⟨rfl, hpm3, hb3⟩, rfl⟩
      · conv => whnf
        repeat (refine SeqP.go ?_; conv => whnf)
        exact ⟨(), ⟨rfl, rfl, rfl, rfl, rfl, rfl, rfl, trivial⟩, rfl, rfl⟩
    rintro _ φ10 _ rfl
    have hwk := hb3.slice
    obtain ⟨aw, ew, -⟩ := hwk
    conv => whnf
    refine SeqP.go ?_
    conv => whnf
    refine ⟨_, cellAt_row hpm3.dat rfl, ?_⟩
    conv => whnf
    refine SeqP.go ?_
    have hux := u64_of q.c
    obtain ⟨u, u0, u1, hu⟩ := hux
    have hux' := u64_of q.d
    obtain ⟨u', u0', u1', hu'⟩ := hux'
    have e1 := tmod_bd u0 (show (0 : Int) < (n : Int) by omega)
    have e2 := tmod_bd u0' (show (0 : Int) < (n : Int) by omega)
    have hexx : ∃ x, u.tmod n = x := ⟨_, rfl⟩
    obtain ⟨x, ex⟩ := hexx
    have hexy : ∃ y, u'.tmod n = y := ⟨_, rfl⟩
    obtain ⟨y, ey⟩ := hexy
    rw [ex] at e1
    rw [ey] at e2
    subst ew
    conv => whnf
    refine ⟨⟨by omega, by omega⟩, ?_⟩
    conv => whnf
    refine ⟨_, cellAt_row hq3 rfl, ?_⟩
    conv => whnf
    refine ⟨u, hu, ?_⟩
    conv => whnf
    refine ⟨(n : Int), u64_id (by omega), ?_⟩
    conv => whnf
    refine ⟨by omega, ?_⟩
    conv => whnf
    refine ⟨x, wie ex (by omega), ?_⟩
    conv => whnf
    refine ⟨⟨by omega, by omega⟩, ?_⟩
    conv => whnf
    refine ⟨_, cellAt_row hq3 rfl, ?_⟩
    conv => whnf
    refine ⟨u', hu', ?_⟩
    conv => whnf
    refine ⟨(n : Int), u64_id (by omega), ?_⟩
    conv => whnf
    refine ⟨by omega, ?_⟩
    conv => whnf
    refine ⟨y, wie ey (by omega), ?_⟩
    conv => whnf
    have hnx := hpm3.next
    have lit : ElemsC (H3.lay (.row 96 true [int a, int b, int x, int y])) 4 (slc H3.next 0 1 1) 1 ((flat4 [⟨a, b, x, y⟩]).map int) := BuiltC.elems (h0 := H3) (e := 96) rfl ⟨rfl, .inr ⟨H3.next, rfl, Nat.le_refl _, true, Hp.at_lay_self _ _⟩⟩
    have hRl : R.length ≤ 15 := by
      have h1 := hup.len
      have h2 : tri n a + (n - a) ≤ 15 := by
        have : ∀ n, n ≤ 5 → ∀ a, a < n → tri n a + (n - a) ≤ 15 := by decide
        exact this n hn5 a han
      omega
    refine AppP.cells (h0 := bareN H2.next) (hb3.ext (Grows.lay _ _)) (bareN_grows (by rw [Hp.next_lay]; exact Nat.le_succ_of_le hnx)) lit (by omega) (by omega) ?_
    intro w2 H4 hb4 hg4 keep4
    have hdat4 := hpm3.app_dat hD2 (Grows.lay _ _) keep4 (builtC_ge hb3)
    have hwk2 := hb4.slice
    obtain ⟨aw2, rfl, -⟩ := hwk2
    conv => whnf
    refine ⟨rfl, _, storeAt_row hdat4 (by simp) rfl, ?_⟩
    conv => whnf
    refine ⟨?_, ?_⟩
    · repeat' (first | exact True.intro | (refine And.intro ?_ ?_ <;> (conv => whnf)))
      all_goals first
        | exact sameAt_val (h2 := _) rfl (sameV_slice _ _ _)
        | exact sameAt_val (h2 := _) rfl (sameV_ptr3 _ _)
        | exact sameAt_val (h2 := _) rfl (sameV_int _)
        | trace_state
    conv => whnf
    repeat (refine SeqP.go ?_; conv => whnf)
    refine ⟨(_, R ++ [⟨a, b, x, y⟩], _), ⟨rfl, rfl, rfl, rfl, rfl, rfl, trivial⟩, ⟨rfl, hpm3.app hD2 (Grows.lay _ _) keep4 (builtC_ge hb3) hg4.next _, ?_, hup.add hab hbn' e1 e2⟩, rfl⟩
    rw [flat4_app, List.map_append, List.length_append]
    exact builtC_set_lt hb4 hD2
  rintro ⟨vr, R, H5⟩ φ11 _ ⟨rfl, hpm5, hbr, hup⟩
  dsimp only at hpm5 hbr hup ⊢
  have hdone := hup.done hn5
  have hx5 := hpm5.at_ _ _ (by omega) (by omega) hx2b
  have hg5 := hpm5.grows hg2 (Nat.le_add_right _ _)
  have hn5x := hpm5.next
  have hbo' : Built (bareN H0.next) (H5.set (h.next + 1) (.row 26 true [int n, vo, vs, vr])) 3 vo lo := by
    rcases hbo with h1 | ⟨r, e1, h2, x, h3⟩
    · exact .inl h1
    · have hlt := Hp.lt_of_at h3
      have h2' : H0.next ≤ r := h2
      exact .inr ⟨r, e1, h2, x, by rw [Hp.at_set_ne _ (by omega)]; exact hpm5.at_ _ _ (by omega) (by omega) (hpm2.at_ _ _ hlt (by omega) h3)⟩
  have hbs' : Built (bareN H1.next) (H5.set (h.next + 1) (.row 26 true [int n, vo, vs, vr])) 3 vs ls := by
    rcases hbs with h1 | ⟨r, e1, h2, x, h3⟩
    · exact .inl h1
    · have hlt := Hp.lt_of_at h3
      have h2' : H1.next ≤ r := h2
      exact .inr ⟨r, e1, h2, x, by rw [Hp.at_set_ne _ (by omega)]; exact hpm5.at_ _ _ hlt (by omega) h3⟩
  have hbr' := builtC_set_lt (r := h.next + 1) (o := .row 26 true [int n, vo, vs, vr]) hbr (by show h.next + 1 < H2.next; omega)
  have kvo := (LV.of hbo').known
  have kvs := (LV.of hbs').known
  have kvr := hbr'.slice
  obtain ⟨x1, rfl⟩ := kvo
  obtain ⟨x2, rfl⟩ := kvs
  obtain ⟨x3, rfl, -⟩ := kvr
  conv => whnf
  refine SeqP.go ?_
  conv => whnf
  refine ⟨_, four_cells hpm5.dat, ?_⟩
  conv => whnf
  refine ⟨rfl, _, storeAt_full (vs := [int n, .slice x1 lo.length lo.length, .slice x2 ls.length ls.length, .slice x3 R.length R.length]) hx5 rfl rfl rfl, ?_⟩
  conv => whnf
  repeat (refine SeqP.go ?_; conv => whnf)
  obtain ⟨i26, t26, ag26, sz26⟩ := ty26
  refine leave_cell (r := h.next + 1) (o := 0) (cs := [int n, .slice x1 lo.length lo.length, .slice x2 ls.length ls.length, .slice x3 R.length R.length]) rfl t26 ag26 ?_ ?_
  · rw [sz26]
    exact four_cells (Hp.at_set_self _ (Hp.lt_of_at hx5))
  · exact ⟨⟨⟨n, lo, ls, R⟩, ⟨_, _, _, rfl, LV.of hbo', LV.of hbs', RV.of hbr'⟩, ⟨by show (1 : Int) ≤ n; omega, by show (n : Int) ≤ 5; omega, by show (lo.length : Int) = n; omega, hao, hls1, hls2, has, hdone.1, hdone.2⟩, by show (n : Int) ≤ most; omega⟩, hg5.then_set _ (by omega)⟩
end
end Go.Proofs.Ytpiplaicnbapbaa
