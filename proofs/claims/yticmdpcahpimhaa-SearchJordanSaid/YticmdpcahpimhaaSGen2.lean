/- Contracts of the functions that SJorZ comes to. -/
import Derived.Test.YticmdpcahpimhaaSGen
set_option maxRecDepth 100000
set_option maxHeartbeats 1000000
set_option linter.unusedVariables false
set_option linter.unusedSectionVars false
set_option linter.unusedSimpArgs false
namespace Go.Proofs.Yticmdpcahpimhaa
open Go.Rx Go.RowKit Go.Comp
theorem flat_app : ∀ (P Q : List (Int × Int)), flat (P ++ Q) = flat P ++ flat Q
  | [], _ => rfl
  | x :: P, Q => by
    show x.1 :: x.2 :: flat (P ++ Q) = x.1 :: x.2 :: (flat P ++ flat Q)
    rw [flat_app P Q]
/-- The edges up to (a, b). -/
structure UpE (n : Nat) (par : Nat → Nat) (a b : Nat) (P : List (Int × Int)) : Prop where
  up : UpTo n P P.length
  mem : ∀ x, x ∈ P ↔ ∃ t : Nat, 1 ≤ t ∧ t < n ∧ x = ((par t : Int), (t : Int)) ∧ (par t < a ∨ par t = a ∧ t < b)
theorem UpE.start (n : Nat) (par : Nat → Nat) : UpE n par 0 1 [] :=
  ⟨fun k hk => absurd hk (Nat.not_lt_zero _), fun x => ⟨fun h => by simp at h, fun ⟨t, h1, _, _, h2⟩ => by omega⟩⟩
theorem UpE.skip {n : Nat} {par : Nat → Nat} {a b : Nat} {P : List (Int × Int)} (h : UpE n par a b P) (hp : par b ≠ a) : UpE n par a (b + 1) P :=
  ⟨h.up, fun x => (h.mem x).trans ⟨fun ⟨t, h1, h2, h3, h4⟩ => ⟨t, h1, h2, h3, by omega⟩, fun ⟨t, h1, h2, h3, h4⟩ => ⟨t, h1, h2, h3, by
    by_cases e : t = b
    · subst e; omega
    · omega⟩⟩⟩
theorem UpE.turn {n : Nat} {par : Nat → Nat} (hpar : ∀ t, 1 ≤ t → t < n → par t < t) {a : Nat} {P : List (Int × Int)} (h : UpE n par a n P) : UpE n par (a + 1) (a + 2) P :=
  ⟨h.up, fun x => (h.mem x).trans ⟨fun ⟨t, h1, h2, h3, h4⟩ => ⟨t, h1, h2, h3, by omega⟩, fun ⟨t, h1, h2, h3, h4⟩ => ⟨t, h1, h2, h3, by
    have := hpar t h1 h2
    omega⟩⟩⟩
theorem UpE.add {n : Nat} {par : Nat → Nat} {a b : Nat} {P : List (Int × Int)} (h : UpE n par a b P) (hp : par b = a) (hab : a < b) (hb : b < n) : UpE n par a (b + 1) (P ++ [((a : Int), (b : Int))]) := by
  constructor
  · intro k hk hk2
    by_cases e : k < P.length
    · have h1 := h.up k e e
      have e1 : (P ++ [((a : Int), (b : Int))])[k] = P[k] := List.getElem_append_left e
      refine ⟨by rw [e1]; exact h1.1, by rw [e1]; exact h1.2.1, by rw [e1]; exact h1.2.2.1, fun h0 => ?_⟩
      have e2 : (P ++ [((a : Int), (b : Int))])[k - 1]'(by omega) = P[k - 1] := List.getElem_append_left (by omega)
      rw [e1, e2]
      exact h1.2.2.2 h0
    · have hkl : k = P.length := by rw [List.length_append, List.length_singleton] at hk; omega
      subst hkl
      have e1 : (P ++ [((a : Int), (b : Int))])[P.length] = ((a : Int), (b : Int)) := by simp
      refine ⟨by rw [e1]; show (0 : Int) ≤ (a : Int); omega, by rw [e1]; show (a : Int) < (b : Int); omega, by rw [e1]; show (b : Int) < (n : Int); omega, fun h0 => ?_⟩
      have e2 : (P ++ [((a : Int), (b : Int))])[P.length - 1]'(by omega) = P[P.length - 1] := List.getElem_append_left (by omega)
      rw [e1, e2]
      obtain ⟨t, t1, t2, t3, t4⟩ := (h.mem _).1 (List.getElem_mem (show P.length - 1 < P.length by omega))
      rw [t3]
      unfold PLess
      dsimp only
      omega
  · intro x
    rw [List.mem_append, List.mem_singleton]
    constructor
    · rintro (hx | rfl)
      · obtain ⟨t, h1, h2, h3, h4⟩ := (h.mem x).1 hx
        exact ⟨t, h1, h2, h3, by omega⟩
      · exact ⟨b, by omega, hb, by rw [hp], .inr ⟨hp, by omega⟩⟩
    · rintro ⟨t, h1, h2, h3, h4⟩
      by_cases e : t = b
      · subst e
        right
        rw [h3, hp]
      · exact .inl ((h.mem x).2 ⟨t, h1, h2, h3, by omega⟩)
theorem UpE.len {n : Nat} {par : Nat → Nat} {a b : Nat} {P : List (Int × Int)} (h : UpE n par a b P) : P.length ≤ n := by
  have hl : (P.map fun x => x.2.toNat).length ≤ (List.range n).length := by
    refine sub_len ?_ fun t ht => ?_
    · rw [List.nodup_iff_pairwise_ne, List.pairwise_iff_getElem]
      intro i j hi hj hij e
      rw [List.length_map] at hi hj
      rw [List.getElem_map, List.getElem_map] at e
      obtain ⟨d, rfl⟩ : ∃ d, j = i + d + 1 := ⟨j - i - 1, by omega⟩
      have hlt := up_lt h.up d i hj
      obtain ⟨s, s1, s2, s3, _⟩ := (h.mem _).1 (List.getElem_mem hi)
      obtain ⟨t, t1, t2, t3, _⟩ := (h.mem _).1 (List.getElem_mem hj)
      rw [s3, t3] at e hlt
      have : s = t := by simpa using e
      subst this
      unfold PLess at hlt
      dsimp only at hlt
      omega
    · obtain ⟨x, hx, rfl⟩ := List.mem_map.1 ht
      obtain ⟨t, t1, t2, t3, _⟩ := (h.mem x).1 hx
      rw [List.mem_range, t3]
      simpa using t2
  rw [List.length_map, List.length_range] at hl
  exact hl
attribute [local irreducible] E idxN cellAt cellsAt storeAt callable helems hmoved lookIn findKey keyOk hentries Hp.at Hp.set Hp.lay arBits hupdated setAt CallP YieldP BoolOf IsWrap Rnd LoopP AppP CutP Int.tmod Int.tdiv Int.fdiv
section
variable [Unknowns]
attribute [local irreducible] ResP
theorem lawtree_spec (n0 : Int) (l : List Int) (v : Value) (h : Hp) (hv : Ints h v l) (hl : l.length < 9223372036854775808) : CallP E 45 [int n0, v] h (fun r h' => (∃ (n : Nat) (P : List (Int × Int)) (w : Value), r = .tuple ⟨[int n, w]⟩ ∧ 1 ≤ n ∧ n ≤ 10 ∧ TreeP n P ∧ P.length ≤ 10 ∧ PairsV h' w P) ∧ Grows h h') := by
  obtain ⟨av, cp, rfl, hcell⟩ := id hv
  refine enter45 (by simp) ?_
  conv => whnf
  refine SeqP.go ?_
  conv => whnf
  refine SeqP.cut (α := Nat) (fun n => [(0, int n), (1, .slice av l.length cp)]) (fun n H => h = H ∧ 1 ≤ n ∧ n ≤ 10) ?_ ?_
  · conv => whnf
    have hux := u64_of n0
    obtain ⟨u, u0, u1, hu⟩ := hux
    refine ⟨u, hu, ?_⟩
    conv => whnf
    refine ⟨by omega, ?_⟩
    have b1 := tmod_bd u0 (show (0 : Int) < 10 by omega)
    have hexn : ∃ n : Nat, u.tmod 10 = (n : Int) := ⟨(u.tmod 10).toNat, by omega⟩
    obtain ⟨n, hn⟩ := hexn
    conv => whnf
    refine ⟨(n : Int), wie hn (by omega), ?_⟩
    conv => whnf
    refine ⟨((n + 1 : Nat) : Int), wie (by omega) (by omega), ?_⟩
    conv => whnf
    exact ⟨n + 1, ⟨rfl, rfl, trivial⟩, ⟨rfl, by omega, by omega⟩, rfl⟩
  rintro n φ _ ⟨rfl, hn1, hn2⟩
  conv => whnf
  refine SeqP.go ?_
  conv => whnf
  refine ⟨⟨by omega, by omega, by omega, by omega⟩, ?_⟩
  conv => whnf
  have e0 : times [int 0] ((n : Nat) : Int).toNat = rowF n (fun _ => ((0 : Nat) : Int)) := by rw [times_zero, Int.toNat_natCast]; rfl
  rw [e0]
  refine SeqP.cut (α := Nat → Nat) (fun _ => [(6, slc h.next 0 n n), (0, int n), (1, .slice av l.length cp)]) (fun par H => H = h.lay (.row 3 true (rowF n fun i => (par i : Int))) ∧ ∀ t, 1 ≤ t → t < n → par t < t) ?_ ?_
  · conv => whnf
    repeat (refine SeqP.go ?_; conv => whnf)
    refine loop_inv (α := Nat × (Nat → Nat)) (fun s => [(7, int s.1), (6, slc h.next 0 n n), (0, int n), (1, .slice av l.length cp)]) (fun s => h.lay (.row 3 true (rowF n fun i => (s.2 i : Int)))) (fun s => 1 ≤ s.1 ∧ s.1 ≤ n ∧ ∀ t, 1 ≤ t → t < s.1 → s.2 t < t) (fun s => n - s.1) (1, fun _ => 0) ⟨Nat.le_refl _, hn1, fun t h1 h2 => by omega⟩ ⟨rfl, rfl, rfl, rfl, trivial⟩ (Hp.Le.refl _) ?_
    rintro ⟨k, par⟩ φ ⟨hk1, hkn, hpar⟩
    dsimp only at hk1 hkn hpar ⊢
    conv => whnf
    repeat (refine SeqP.go ?_; conv => whnf)
    refine cmpB (fun hb1 => ?_) (fun hb1 => ?_)
    rotate_left
    · have : k = n := by omega
      subst this
      conv => whnf
      repeat (refine SeqP.go ?_; conv => whnf)
      exact ⟨par, ⟨rfl, rfl, rfl, trivial⟩, ⟨rfl, hpar⟩, rfl⟩
    have hkl : k < n := by omega
    have set : ∀ (par : Nat → Nat) (o p : Nat), o = k → (rowF n fun i => (par i : Int)).set o (int p) = rowF n fun i => ((if i = k then p else par i : Nat) : Int) := by
      intro par o p ho
      subst ho
      rw [rowF_set]
      refine rowF_congr fun i _ => ?_
      split <;> rfl
    conv => whnf
    refine SeqP.cut (α := Nat → Nat) (fun _ => [(7, int k), (6, slc h.next 0 n n), (0, int n), (1, .slice av l.length cp)]) (fun par' H => h.lay (.row 3 true (rowF n fun i => (par' i : Int))) = H ∧ ∀ t, 1 ≤ t → t < k + 1 → par' t < t) ?_ ?_
    rotate_left
    · rintro par' φ1 _ ⟨rfl, hpar'⟩
      conv => whnf
      refine ⟨((k + 1 : Nat) : Int), wie (by omega) (by omega), ?_⟩
      conv => whnf
      exact Rnd.mk (k + 1, par') ⟨by show 1 ≤ k + 1; omega, by show k + 1 ≤ n; omega, hpar'⟩ (by show n - (k + 1) < n - k; omega) ⟨rfl, rfl, rfl, rfl, trivial⟩ (Hp.Le.refl _) rfl
    conv => whnf
    refine SeqP.cut (α := Unit) (fun _ => [(7, int k), (6, slc h.next 0 n n), (0, int n), (1, .slice av l.length cp)]) (fun _ H => h.lay (.row 3 true (rowF n fun i => ((if i = k then k - 1 else par i : Nat) : Int))) = H) ?_ ?_
    · conv => whnf
      refine ⟨((k - 1 : Nat) : Int), wie (by omega) (by omega), ?_⟩
      conv => whnf
      refine ⟨rfl, ⟨by omega, by omega⟩, ?_⟩
      conv => whnf
      refine ⟨rfl, _, storeAt_lay (by rw [offAt_eq, rowF_length, Int.toNat_natCast]; omega) rfl, ?_⟩
      conv => whnf
      exact ⟨(), ⟨rfl, rfl, rfl, rfl, trivial⟩, congrArg (fun c => h.lay (.row 3 true c)) (set par _ _ (by rw [offAt_eq, Int.toNat_natCast]; omega)).symm, rfl⟩
    rintro _ φ2 _ rfl
    have hp1 : ∀ p, p < k → ∀ t, 1 ≤ t → t < k + 1 → (if t = k then p else par t) < t := by
      intro p hp t t1 t2
      split
      · omega
      · exact hpar t t1 (by omega)
    conv => whnf
    repeat (refine SeqP.go ?_; conv => whnf)
    refine ⟨((k - 1 : Nat) : Int), wie (by omega) (by omega), ?_⟩
    conv => whnf
    refine cmpB (fun hb2 => ?_) (fun hb2 => ?_)
    rotate_left
    · conv => whnf
      repeat (refine SeqP.go ?_; conv => whnf)
      exact ⟨fun i => if i = k then k - 1 else par i, ⟨rfl, rfl, rfl, rfl, trivial⟩, ⟨rfl, hp1 (k - 1) (by omega)⟩, rfl⟩
    have hc := hcell (k - 1) (by omega)
    obtain ⟨r, o, sp, ea, hsp, hc⟩ := hc
    subst ea
    conv => whnf
    repeat (refine SeqP.go ?_; conv => whnf)
    refine ⟨((k - 1 : Nat) : Int), wie (by omega) (by omega), ?_⟩
    conv => whnf
    refine ⟨hsp, ⟨by omega, by omega⟩, ?_⟩
    conv => whnf
    refine ⟨int l[k - 1], (Grows.lay _ _).cell (by rw [offAt_eq, Nat.add_comm]; simpa using hc), ?_⟩
    conv => whnf
    have hux := u64_of l[k - 1]
    obtain ⟨u, u0, u1, hu⟩ := hux
    refine ⟨u, hu, ?_⟩
    conv => whnf
    refine ⟨(k : Int), u64_id (by omega), ?_⟩
    conv => whnf
    refine ⟨by omega, ?_⟩
    have b1 := tmod_bd u0 (show (0 : Int) < (k : Int) by omega)
    have hexp : ∃ q : Nat, u.tmod k = (q : Int) := ⟨(u.tmod k).toNat, by omega⟩
    obtain ⟨q, hq⟩ := hexp
    conv => whnf
    refine ⟨(q : Int), wie hq (by omega), ?_⟩
    conv => whnf
    refine ⟨rfl, ⟨by omega, by omega⟩, ?_⟩
    conv => whnf
    refine ⟨rfl, _, storeAt_lay (by rw [offAt_eq, rowF_length, Int.toNat_natCast]; omega) rfl, ?_⟩
    conv => whnf
    refine ⟨fun i => if i = k then q else par i, ⟨rfl, rfl, rfl, rfl, trivial⟩, ⟨?_, hp1 q (by omega)⟩, rfl⟩
    have e1 := set (fun i => if i = k then k - 1 else par i) (offAt 0 ((k : Int)).toNat 1) q (by rw [offAt_eq, Int.toNat_natCast]; omega)
    refine congrArg (fun c => h.lay (.row 3 true c)) (Eq.trans ?_ e1.symm)
    refine rowF_congr fun i _ => ?_
    split <;> simp_all
  rintro par φ3 H1 ⟨eH, hpar⟩
  have hrow : H1.at h.next = some (.row 3 true (rowF n fun i => (par i : Int))) := by rw [eH]; exact Hp.at_lay_self _ _
  have hgH : Grows h H1 := by rw [eH]; exact Grows.lay _ _
  clear eH
  have lit : ∀ (h1 : Hp) (x y : Int), ElemsC (h1.lay (.row 81 true [int x, int y])) 2 (slc h1.next 0 1 1) 1 ((flat [(x, y)]).map int) := fun h1 x y => BuiltC.elems (h0 := h1) (e := 81) rfl ⟨rfl, .inr ⟨h1.next, rfl, Nat.le_refl _, true, Hp.at_lay_self _ _⟩⟩
  conv => whnf
  refine SeqP.go ?_
  conv => whnf
  refine SeqP.cut (α := Value × List (Int × Int)) (fun s => [(8, s.1), (0, int n)]) (fun s H => UpE n par n (n + 1) s.2 ∧ BuiltC H1 H 81 2 s.1 s.2.length ((flat s.2).map int) ∧ Grows H1 H) ?_ ?_
  rotate_left
  · rintro ⟨w, P⟩ φ9 H9 ⟨hU, hb, hg⟩
    dsimp only at hU hb ⊢
    have hbs := hb.slice
    obtain ⟨aw, rfl, -⟩ := hbs
    have hTP := tree_of ⟨hn1, hn2⟩ hpar hU.up fun x => (hU.mem x).trans ⟨fun ⟨t, h1, h2, h3, _⟩ => ⟨t, h1, h2, h3⟩, fun ⟨t, h1, h2, h3⟩ => ⟨t, h1, h2, h3, .inl (by have := hpar t h1 h2; omega)⟩⟩
    have hPl := hU.len
    conv => whnf
    repeat (refine SeqP.go ?_; conv => whnf)
    exact ⟨⟨n, P, _, rfl, hn1, hn2, hTP, by omega, hb.pairs⟩, hgH.trans hg⟩
  conv => whnf
  repeat (refine SeqP.go ?_; conv => whnf)
  refine loop_inv (α := Nat × Value × List (Int × Int) × Hp) (fun s => [(9, int s.1), (8, s.2.1), (6, slc h.next 0 n n), (0, int n)]) (fun s => s.2.2.2) (fun s => s.1 ≤ n ∧ UpE n par s.1 (s.1 + 1) s.2.2.1 ∧ BuiltC H1 s.2.2.2 81 2 s.2.1 s.2.2.1.length ((flat s.2.2.1).map int) ∧ Grows H1 s.2.2.2) (fun s => n - s.1) (0, .slice none 0 0, [], H1) ⟨Nat.zero_le _, UpE.start n par, BuiltC.nil, Grows.refl _⟩ ⟨rfl, rfl, rfl, rfl, trivial⟩ (Hp.Le.refl _) ?_
  rintro ⟨a, w, P, H⟩ φ4 ⟨ha, hU, hb, hg⟩
  dsimp only at ha hU hb hg ⊢
  conv => whnf
  repeat (refine SeqP.go ?_; conv => whnf)
  refine cmpB (fun hb1 => ?_) (fun hb1 => ?_)
  rotate_left
  · have : a = n := by omega
    subst this
    conv => whnf
    repeat (refine SeqP.go ?_; conv => whnf)
    exact ⟨(w, P), ⟨rfl, rfl, trivial⟩, ⟨hU, hb, hg⟩, rfl⟩
  conv => whnf
  refine SeqP.cut (α := Value × List (Int × Int) × Hp) (fun s => [(9, int a), (8, s.1), (6, slc h.next 0 n n), (0, int n)]) (fun s H' => s.2.2 = H' ∧ UpE n par (a + 1) (a + 2) s.2.1 ∧ BuiltC H1 s.2.2 81 2 s.1 s.2.1.length ((flat s.2.1).map int) ∧ Grows H1 s.2.2) ?_ ?_
  rotate_left
  · rintro ⟨w', P', H'⟩ φ5 _ ⟨rfl, hU', hb', hg'⟩
    dsimp only at hU' hb' hg' ⊢
    conv => whnf
    refine ⟨((a + 1 : Nat) : Int), wie (by omega) (by omega), ?_⟩
    conv => whnf
    exact Rnd.mk (a + 1, w', P', _) ⟨by show a + 1 ≤ n; omega, hU', hb', hg'⟩ (by show n - (a + 1) < n - a; omega) ⟨rfl, rfl, rfl, rfl, trivial⟩ (Hp.Le.refl _) rfl
  conv => whnf
  repeat (refine SeqP.go ?_; conv => whnf)
  refine ⟨((a + 1 : Nat) : Int), wie (by omega) (by omega), ?_⟩
  conv => whnf
  refine loop_inv (α := Nat × Value × List (Int × Int) × Hp) (fun s => [(10, int s.1), (9, int a), (8, s.2.1), (6, slc h.next 0 n n), (0, int n)]) (fun s => s.2.2.2) (fun s => a < s.1 ∧ s.1 ≤ n ∧ UpE n par a s.1 s.2.2.1 ∧ BuiltC H1 s.2.2.2 81 2 s.2.1 s.2.2.1.length ((flat s.2.2.1).map int) ∧ Grows H1 s.2.2.2) (fun s => n - s.1) (a + 1, w, P, H) ⟨by show a < a + 1; omega, by show a + 1 ≤ n; omega, hU, hb, hg⟩ ⟨rfl, rfl, rfl, rfl, rfl, trivial⟩ (Hp.Le.refl _) ?_
  clear hU hb hg
  rintro ⟨b, w, P, H⟩ φ6 ⟨hab, hbn, hU, hb, hg⟩
  dsimp only at hab hbn hU hb hg ⊢
  conv => whnf
  repeat (refine SeqP.go ?_; conv => whnf)
  refine cmpB (fun hb2 => ?_) (fun hb2 => ?_)
  rotate_left
  · have : b = n := by omega
    subst this
    conv => whnf
    repeat (refine SeqP.go ?_; conv => whnf)
    exact ⟨(w, P, H), ⟨rfl, rfl, rfl, rfl, trivial⟩, ⟨rfl, hU.turn hpar, hb, hg⟩, rfl⟩
  have hbl : b < n := by omega
  conv => whnf
  refine SeqP.cut (α := Value × List (Int × Int) × Hp) (fun s => [(10, int b), (9, int a), (8, s.1), (6, slc h.next 0 n n), (0, int n)]) (fun s H' => s.2.2 = H' ∧ UpE n par a (b + 1) s.2.1 ∧ BuiltC H1 s.2.2 81 2 s.1 s.2.1.length ((flat s.2.1).map int) ∧ Grows H1 s.2.2) ?_ ?_
  rotate_left
  · rintro ⟨w', P', H'⟩ φ7 _ ⟨rfl, hU', hb', hg'⟩
    dsimp only at hU' hb' hg' ⊢
    conv => whnf
    refine ⟨((b + 1 : Nat) : Int), wie (by omega) (by omega), ?_⟩
    conv => whnf
    exact Rnd.mk (b + 1, w', P', _) ⟨by show a < b + 1; omega, by show b + 1 ≤ n; omega, hU', hb', hg'⟩ (by show n - (b + 1) < n - b; omega) ⟨rfl, rfl, rfl, rfl, rfl, trivial⟩ (Hp.Le.refl _) rfl
  conv => whnf
  repeat (refine SeqP.go ?_; conv => whnf)
  refine ⟨rfl, ⟨by omega, by omega⟩, ?_⟩
  conv => whnf
  refine ⟨int (par b : Nat), cellAt_row (hg.at_ _ _ hrow) (by rw [offAt_eq, Nat.zero_add, Nat.mul_one, Int.toNat_natCast, rowF_get hbl]), ?_⟩
  conv => whnf
  refine cmpB (fun c1 => ?_) (fun c1 => ?_)
  rotate_left
  · conv => whnf
    repeat (refine SeqP.go ?_; conv => whnf)
    exact ⟨(w, P, H), ⟨rfl, rfl, rfl, rfl, rfl, trivial⟩, ⟨rfl, hU.skip (by omega), hb, hg⟩, rfl⟩
  have hPl := hU.len
  have hU2 := hU.add (by omega) hab hbl
  conv => whnf
  repeat (refine SeqP.go ?_; conv => whnf)
  refine AppP.cells (h0 := H1) (hb.ext (Grows.lay _ _)) (hg.then_lay _) (lit _ _ _) (by omega) (by omega) ?_
  intro w' H' hb' hg' _
  conv => whnf
  repeat (refine SeqP.go ?_; conv => whnf)
  refine ⟨(w', P ++ [((a : Int), (b : Int))], H'), ⟨rfl, rfl, rfl, rfl, rfl, trivial⟩, ⟨rfl, hU2, ?_, hg'⟩, rfl⟩
  rw [flat_app, List.map_append, List.length_append]
  exact hb'
end
end Go.Proofs.Yticmdpcahpimhaa
