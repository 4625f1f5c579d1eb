/- Contracts of the functions that T27 comes to. -/
import Derived.Test.YtpiplaicnbapbaaT6
set_option maxRecDepth 100000
set_option maxHeartbeats 2000000
set_option linter.unusedVariables false
set_option linter.unusedSectionVars false
set_option linter.unusedSimpArgs false
namespace Go.Proofs.Ytpiplaicnbapbaa
open Go.Rx Go.RowKit
theorem sum_zero : ∀ {l : List Int}, (∀ x ∈ l, 0 ≤ x) → l.sum = 0 → ∀ x ∈ l, x = 0
  | [], _, _ => by simp
  | y :: l, h, e => by
    have h1 := h y (by simp)
    have h2 : 0 ≤ l.sum := (by
      have : ∀ l : List Int, (∀ x ∈ l, 0 ≤ x) → 0 ≤ l.sum := by
        intro l
        induction l with
        | nil => intro _; simp
        | cons z l ih => intro hz; have := ih fun x hx => hz x (by simp [hx]); have := hz z (by simp); simp; omega
      exact this l fun x hx => h x (by simp [hx]))
    simp at e
    have h3 := sum_zero (l := l) (fun x hx => h x (by simp [hx])) (by omega)
    intro x hx
    rcases List.mem_cons.1 hx with rfl | hx
    · omega
    · exact h3 x hx
theorem sum_nn : ∀ {l : List Int}, (∀ x ∈ l, 0 ≤ x) → 0 ≤ l.sum
  | [], _ => by simp
  | y :: l, h => by have h1 := h y (by simp); have h2 := sum_nn (l := l) fun x hx => h x (by simp [hx]); simp; omega
theorem sum_le_of : ∀ {l : List Int}, (∀ x ∈ l, 0 ≤ x) → ∀ x ∈ l, x ≤ l.sum
  | [], _ => by simp
  | y :: l, h => by
    intro x hx
    have h1 := h y (by simp)
    have h2 := sum_nn (l := l) fun x hx => h x (by simp [hx])
    rcases List.mem_cons.1 hx with rfl | hx
    · simp; omega
    · have := sum_le_of (l := l) (fun x hx => h x (by simp [hx])) x hx
      simp; omega
attribute [local irreducible] E idxN cellAt cellsAt storeAt callable helems hmoved lookIn findKey keyOk hentries Hp.at Hp.set Hp.lay arBits hupdated setAt CallP YieldP BoolOf IsWrap Rnd LoopP AppP CutP Int.tmod Int.tdiv Int.fdiv
section
variable [Unknowns]
attribute [local irreducible] ResP sameAt
theorem gathered_spec (v : Value) (l : List Int) (h : Hp) (hv : Ints h v l) (hl : l.length < 9223372036854775808) (many most : Nat) (hm1 : 1 ≤ many) (hm : many ≤ 5) (ho1 : 1 ≤ most) (ho : most ≤ 9) : CallP E 35 [v, int many, int most] h (fun r h' => ∃ c : List Int, Built h h' 3 r c ∧ c.length = many ∧ (∀ x ∈ c, 0 ≤ x) ∧ 1 ≤ c.sum ∧ c.sum ≤ most ∧ Grows h h') := by
  obtain ⟨av, cp, rfl, hcell⟩ := id hv
  refine enter35 (by simp) ?_
  conv => whnf
  refine SeqP.go ?_
  conv => whnf
  refine SeqP.go ?_
  conv => whnf
  refine SeqP.go ?_
  conv => whnf
  refine SeqP.cut (α := Value × List Int × Int) (fun s => [(7, s.1), (8, int s.2.2), (2, int most)]) (fun s H => Built h H 3 s.1 s.2.1 ∧ s.2.1.length = many ∧ (∀ x ∈ s.2.1, 0 ≤ x) ∧ s.2.2 + s.2.1.sum = most ∧ 0 ≤ s.2.2 ∧ Grows h H) ?_ ?_
  · conv => whnf
    repeat (refine SeqP.go ?_; conv => whnf)
    refine loop_inv (α := Nat × Value × List Int × Int × Hp) (fun s => [(9, int s.1), (7, s.2.1), (8, int s.2.2.2.1), (0, .slice av l.length cp), (1, int many), (2, int most)]) (fun s => s.2.2.2.2) (fun s => s.1 ≤ many ∧ Built h s.2.2.2.2 3 s.2.1 s.2.2.1 ∧ s.2.2.1.length = s.1 ∧ (∀ x ∈ s.2.2.1, 0 ≤ x) ∧ s.2.2.2.1 + s.2.2.1.sum = most ∧ 0 ≤ s.2.2.2.1 ∧ Grows h s.2.2.2.2) (fun s => many - s.1) (0, .slice none 0 0, [], (most : Int), h) ⟨Nat.zero_le _, .inl ⟨rfl, rfl⟩, rfl, by simp, by simp, by show (0 : Int) ≤ most; omega, .refl _⟩ ⟨rfl, rfl, rfl, rfl, rfl, rfl, trivial⟩ (Hp.Le.refl _) ?_
    rintro ⟨k, w, c, left, H⟩ φ ⟨hk, hb, hcl, hnn, hsum, hle, hg⟩
    dsimp only at hk hb hcl hnn hsum hle hg ⊢
    have hcs := sum_nn hnn
    conv => whnf
    repeat (refine SeqP.go ?_; conv => whnf)
    refine cmpB (fun hb1 => ?_) (fun hb1 => ?_)
    rotate_left
    · conv => whnf
      exact ⟨(w, c, left), ⟨rfl, rfl, rfl, trivial⟩, ⟨hb, by show c.length = many; omega, hnn, hsum, hle, hg⟩, rfl⟩
    conv => whnf
    refine SeqP.cut (α := Value × List Int × Int × Hp) (fun s => [(9, int k), (7, s.1), (8, int s.2.2.1), (0, .slice av l.length cp), (1, int many), (2, int most)]) (fun s H' => s.2.2.2 = H' ∧ Built h s.2.2.2 3 s.1 s.2.1 ∧ s.2.1.length = k + 1 ∧ (∀ x ∈ s.2.1, 0 ≤ x) ∧ s.2.2.1 + s.2.1.sum = most ∧ 0 ≤ s.2.2.1 ∧ Grows h s.2.2.2) ?_ ?_
    rotate_left
    · rintro ⟨w', c', left', H'⟩ φ1 _ ⟨rfl, h1, h2, h3, h4, h5, h6⟩
      dsimp only at h1 h2 h3 h4 h5 h6 ⊢
      conv => whnf
      refine ⟨((k + 1 : Nat) : Int), wie (by omega) (by omega), ?_⟩
      conv => whnf
      exact Rnd.mk (k + 1, w', c', left', H') ⟨by show k + 1 ≤ many; omega, h1, h2, h3, h4, h5, h6⟩ (by show many - (k + 1) < many - k; omega) ⟨rfl, rfl, rfl, rfl, rfl, rfl, trivial⟩ (Hp.Le.refl _) rfl
    conv => whnf
    refine SeqP.go ?_
    conv => whnf
    refine SeqP.cut (α := Int) (fun x => [(10, int x), (9, int k), (7, w), (8, int left), (0, .slice av l.length cp), (1, int many), (2, int most)]) (fun x H' => H = H' ∧ 0 ≤ x ∧ x ≤ left) ?_ ?_
    · conv => whnf
      repeat (refine SeqP.go ?_; conv => whnf)
      refine cmpB (fun hb2 => ?_) (fun hb2 => ?_)
      rotate_left
      · conv => whnf
        exact ⟨0, ⟨rfl, rfl, rfl, rfl, rfl, rfl, rfl, trivial⟩, ⟨rfl, by omega, hle⟩, rfl⟩
      have hc := hv.ext hg
      obtain ⟨a', cp', ew, hcc⟩ := hc
      cases ew
      have hc := hcc k (by omega)
      obtain ⟨r, o, sp, ea, hsp, hci⟩ := hc
      subst ea
      have hux := u64_of l[k]
      obtain ⟨u, u0, u1, hu⟩ := hux
      have e1 := tmod_bd u0 (show (0 : Int) < left + 1 by omega)
      conv => whnf
      refine ⟨hsp, ⟨by omega, by omega⟩, ?_⟩
      conv => whnf
      refine ⟨int l[k], by rw [offAt_eq, Nat.add_comm]; simpa using hci, ?_⟩
      conv => whnf
      refine ⟨u, hu, ?_⟩
      conv => whnf
      refine ⟨left + 1, wie rfl (by omega), ?_⟩
      conv => whnf
      refine ⟨left + 1, u64_id (by omega), ?_⟩
      conv => whnf
      refine ⟨by omega, ?_⟩
      conv => whnf
      refine ⟨u.tmod (left + 1), wid (by omega), ?_⟩
      conv => whnf
      exact ⟨u.tmod (left + 1), ⟨rfl, rfl, rfl, rfl, rfl, rfl, rfl, trivial⟩, ⟨rfl, by omega, by omega⟩, rfl⟩
    rintro x φ2 _ ⟨rfl, hx0, hx1⟩
    conv => whnf
    repeat (refine SeqP.go ?_; conv => whnf)
    refine ⟨left - x, wie rfl (by omega), ?_⟩
    conv => whnf
    refine AppP.ints (hb.ext (Grows.lay _ _)) (hg.then_lay _) Elems.lay1 (by simp; omega) ?_
    intro w2 H2 hb2 hg2 _
    conv => whnf
    refine ⟨(w2, c ++ [x], left - x, H2), ⟨rfl, rfl, rfl, rfl, rfl, rfl, trivial⟩, ⟨rfl, hb2, len_snoc hcl x, all_snoc hnn hx0, ?_, by show 0 ≤ left - x; omega, hg2⟩, rfl⟩
    show left - x + (c ++ [x]).sum = most
    rw [List.sum_append]
    simp
    omega
  rintro ⟨w, c, left⟩ φ3 H3 ⟨hb, hcl, hnn, hsum, hle, hg⟩
  dsimp only at hb hcl hnn hsum hle ⊢
  have hcs := sum_nn hnn
  rcases id hb with ⟨rfl, e⟩ | ⟨r, rfl, hr, x, hat⟩
  · rw [e] at hcl; simp at hcl; omega
  conv => whnf
  refine SeqP.cut (α := List Int × Hp) (fun s => [(7, slc r 0 c.length c.length)]) (fun s H => s.2 = H ∧ Built h s.2 3 (slc r 0 c.length c.length) s.1 ∧ s.1.length = many ∧ (∀ x ∈ s.1, 0 ≤ x) ∧ 1 ≤ s.1.sum ∧ s.1.sum ≤ most ∧ Grows h s.2) ?_ ?_
  · conv => whnf
    repeat (refine SeqP.go ?_; conv => whnf)
    refine cmpB (fun hb2 => ?_) (fun hb2 => ?_)
    rotate_left
    · conv => whnf
      exact ⟨(c, H3), ⟨rfl, trivial⟩, ⟨rfl, hb, hcl, hnn, by show 1 ≤ c.sum; omega, by show c.sum ≤ most; omega, hg⟩, rfl⟩
    conv => whnf
    refine ⟨rfl, ⟨by omega, by omega⟩, ?_⟩
    conv => whnf
    have e9 : storeAt H3 r (offAt 0 (0 : Int).toNat 1) [int 1] = some (H3.set r (.row 3 x ((c.set 0 1).map int))) := by
      have := storeAt_row hat (o := 0) (v := int 1) (by rw [List.length_map]; omega) rfl
      rw [show (c.map int).set 0 (int 1) = (c.set 0 1).map int from by rw [List.map_set]] at this
      rw [offAt_eq]
      exact this
    refine ⟨rfl, _, e9, ?_⟩
    conv => whnf
    have hz := sum_zero hnn (by omega)
    have e1 : (c.set 0 1).sum = 1 := by
      cases c with
      | nil => simp at hcl; omega
      | cons y c =>
        have hy := hz y (by simp)
        simp at hsum
        simp
        omega
    refine ⟨(c.set 0 1, H3.set r (.row 3 x ((c.set 0 1).map int))), ⟨rfl, trivial⟩, ⟨rfl, .inr ⟨r, by show slc r 0 c.length c.length = slc r 0 (c.set 0 1).length (c.set 0 1).length; rw [List.length_set], hr, x, Hp.at_set_self _ (Hp.lt_of_at hat)⟩, by show (c.set 0 1).length = many; rw [List.length_set]; exact hcl, fun y hy => ?_, by show 1 ≤ (c.set 0 1).sum; omega, by show (c.set 0 1).sum ≤ most; omega, hg.then_set _ hr⟩, rfl⟩
    rcases List.mem_or_eq_of_mem_set hy with hy | rfl
    · exact hnn y hy
    · omega
  rintro ⟨c', H'⟩ φ4 _ ⟨rfl, h1, h2, h3, h4, h5, h6⟩
  dsimp only at h1 h2 h3 h4 h5 h6 ⊢
  conv => whnf
  repeat (refine SeqP.go ?_; conv => whnf)
  exact ⟨c', h1, h2, h3, h4, h5, h6⟩
end
end Go.Proofs.Ytpiplaicnbapbaa
