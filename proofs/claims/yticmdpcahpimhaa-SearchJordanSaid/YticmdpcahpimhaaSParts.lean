/- Contracts of the functions that SJorZ comes to. -/
import Derived.Test.YticmdpcahpimhaaSCmp
import Derived.Test.YticmdpcahpimhaaComp
import Derived.Test.YticmdpcahpimhaaWx18
set_option maxRecDepth 100000
set_option maxHeartbeats 1000000
set_option linter.unusedVariables false
set_option linter.unusedSectionVars false
set_option linter.unusedSimpArgs false
namespace Go.Proofs.Yticmdpcahpimhaa
open Go.Rx Go.RowKit Go.Comp
/-- Two nodes with an edge. -/
def adj (P : List (Int × Int)) : Comp.Rel := fun u w => ((u : Int), (w : Int)) ∈ P ∨ ((w : Int), (u : Int)) ∈ P
def EdgesOk (n : Nat) (P : List (Int × Int)) : Prop := ∀ x ∈ P, 0 ≤ x.1 ∧ x.1 < x.2 ∧ x.2 < (n : Int)
theorem edge_at {n : Nat} {P : List (Int × Int)} (h : EdgesOk n P) {k : Nat} (hk : k < P.length) : ∃ a b : Nat, P[k] = ((a : Int), (b : Int)) ∧ a < b ∧ b < n := by
  have h1 := h _ (List.getElem_mem hk)
  refine ⟨(P[k]).1.toNat, (P[k]).2.toNat, ?_, by omega, by omega⟩
  refine Prod.ext ?_ ?_ <;> dsimp only <;> omega
theorem and_pow_ne (s a : Nat) : s &&& 2 ^ a ≠ 0 ↔ s.testBit a = true := by
  constructor
  · intro h
    cases e : s.testBit a with
    | true => rfl
    | false =>
      refine absurd (zero_of_bits fun i => ?_) h
      rw [Nat.testBit_and, Nat.testBit_two_pow]
      by_cases h1 : a = i
      · subst h1; rw [e]; rfl
      · simp [h1]
  · intro h e
    have := congrArg (fun z => z.testBit a) e
    simp [Nat.testBit_and, Nat.testBit_two_pow, h] at this
theorem or_ne (q a b : Nat) : q &&& (2 ^ a ||| 2 ^ b) ≠ 0 ↔ (q.testBit a = true ∨ q.testBit b = true) := by
  rw [Nat.and_or_distrib_left]
  have : ∀ x y : Nat, x ||| y ≠ 0 ↔ x ≠ 0 ∨ y ≠ 0 := by
    intro x y
    constructor
    · intro h
      by_cases hx : x = 0
      · subst hx; right; simpa using h
      · exact .inl hx
    · intro h e
      have h1 : ∀ i, x.testBit i = false ∧ y.testBit i = false := by
        intro i
        have := congrArg (fun z => z.testBit i) e
        simp at this
        exact this
      rcases h with h | h
      · exact h (zero_of_bits fun i => (h1 i).1)
      · exact h (zero_of_bits fun i => (h1 i).2)
  rw [this, and_pow_ne, and_pow_ne]
theorem or2_bit (q a b i : Nat) : ((q ||| 2 ^ a) ||| 2 ^ b).testBit i = true ↔ (q.testBit i = true ∨ i = a ∨ i = b) := by
  rw [Nat.testBit_or, Nat.testBit_or, Nat.testBit_two_pow, Nat.testBit_two_pow]
  by_cases h1 : a = i <;> by_cases h2 : b = i <;> simp [h1, h2] <;> omega
theorem pow_small {a n : Nat} (h : a < n) (hn : n ≤ 20) : 2 ^ a < 1048576 := Nat.lt_of_lt_of_le (Nat.pow_lt_pow_right (by omega) h) (Nat.pow_le_pow_right (n := 2) (by omega) hn)
attribute [local irreducible] E idxN cellAt cellsAt storeAt callable helems hmoved lookIn findKey keyOk hentries Hp.at Hp.set Hp.lay arBits hupdated setAt CallP YieldP BoolOf IsWrap Rnd LoopP AppP CutP Int.tmod Int.tdiv Int.fdiv
structure RPs where
  v : Nat
  s : Nat
  done : List Nat
  out : Value
  H : Hp
def natI (l : List Nat) : List Int := l.map fun x : Nat => (x : Int)
theorem natI_app (l m : List Nat) : natI (l ++ m) = natI l ++ natI m := List.map_append
section
variable [Unknowns]
attribute [local irreducible] ResP sameAt natI
theorem refparts_spec (n : Nat) (hn : n ≤ 20) (P : List (Int × Int)) (hP : EdgesOk n P) (hl : P.length ≤ 1000) (S : Nat) (hS : S < 2 ^ n) (ev : Value) (h : Hp) (hv : PairsV h ev P) : CallP E 67 [int n, ev, int S] h (fun r h' => ∃ l : List Nat, IsParts (adj P) S l ∧ Built h h' 3 r (natI l) ∧ Grows h h') := by
  obtain ⟨av, cap, rfl, hc⟩ := id hv
  have hSb : ∀ s, s < 2 ^ n → s < 1048576 := fun s hs => Nat.lt_of_lt_of_le hs (Nat.pow_le_pow_right (n := 2) (by omega) hn)
  refine enter67 (by simp) ?_
  conv => whnf
  repeat (refine SeqP.go ?_; conv => whnf)
  refine loop_inv (α := RPs) (fun s => [(8, int s.v), (7, s.out), (2, int s.s), (0, int n), (1, .slice av P.length cap)]) (fun s => s.H) (fun s => s.v ≤ n ∧ s.s < 2 ^ n ∧ (∀ u, u < s.v → s.s.testBit u = false) ∧ (∀ l, IsParts (adj P) s.s l → IsParts (adj P) S (s.done ++ l)) ∧ Built h s.H 3 s.out (natI s.done) ∧ Grows h s.H ∧ s.done.length ≤ s.v) (fun s => n - s.v) ⟨0, S, [], .slice none 0 0, h⟩ ⟨Nat.zero_le _, hS, fun u hu => absurd hu (Nat.not_lt_zero _), fun l hl => hl, .inl ⟨rfl, by unfold natI; rfl⟩, Grows.refl _, Nat.zero_le _⟩ ⟨rfl, rfl, rfl, rfl, rfl, trivial⟩ (Hp.Le.refl _) ?_
  rintro ⟨v, s, done, out, H⟩ φ ⟨hvn, hs, hmin, hparts, hb, hg, hdl⟩
  dsimp only at hvn hs hmin hparts hb hg hdl ⊢
  have hsb := hSb s hs
  conv => whnf
  repeat (refine SeqP.go ?_; conv => whnf)
  refine cmpB (fun hb1 => ?_) (fun hb1 => ?_)
  rotate_left
  · have hz : s = 0 := zero_of_bits fun i => by
      rcases Nat.lt_or_ge i v with h1 | h1
      · exact hmin i h1
      · exact Nat.testBit_lt_two_pow (Nat.lt_of_lt_of_le hs (Nat.pow_le_pow_right (by omega) (by omega)))
    have hres := hparts [] (by rw [hz]; exact .nil)
    rw [List.append_nil] at hres
    have hb' := hb
    rcases hb' with ⟨rfl, _⟩ | ⟨r, rfl, _, _⟩ <;> ((conv => whnf); (repeat (refine SeqP.go ?_; conv => whnf)); exact ⟨done, hres, hb, hg⟩)
  have hv' : v < n := by omega
  have esh := shr_nat (a := s) (k := v) (by omega)
  conv => whnf
  repeat (refine SeqP.go ?_; conv => whnf)
  refine ⟨by omega, ?_⟩
  conv => whnf
  refine ⟨by omega, ?_⟩
  conv => whnf
  refine cmpB (fun hb2 => ?_) (fun hb2 => ?_)
  · have hb2 : ((s : Int).fdiv (2 ^ (min (v : Int).toNat 64))).tmod 2 = 0 := hb2
    rw [esh, show (2 : Int) = ((2 : Nat) : Int) from rfl, tmod_nat] at hb2
    have hbit : s.testBit v = false := by
      cases e : s.testBit v with
      | false => rfl
      | true => have := (bit_mod s v).2 e; omega
    conv => whnf
    repeat (refine SeqP.go ?_; conv => whnf)
    refine ⟨((v + 1 : Nat) : Int), wie (by omega) (by omega), ?_⟩
    conv => whnf
    refine Rnd.mk ⟨v + 1, s, done, out, H⟩ ⟨by show v + 1 ≤ n; omega, hs, fun u hu => ?_, hparts, hb, hg, by show done.length ≤ v + 1; omega⟩ (by show n - (v + 1) < n - v; omega) ⟨rfl, rfl, rfl, rfl, rfl, trivial⟩ (Hp.Le.refl _) rfl
    by_cases e : u = v
    · subst e; exact hbit
    · exact hmin u (by have hu : u < v + 1 := hu; omega)
  have hb2 : ¬ ((s : Int).fdiv (2 ^ (min (v : Int).toNat 64))).tmod 2 = 0 := hb2
  rw [esh, show (2 : Int) = ((2 : Nat) : Int) from rfl, tmod_nat] at hb2
  have hbit : s.testBit v = true := (bit_mod s v).1 (by omega)
  conv => whnf
  refine SeqP.go ?_
  conv => whnf
  refine ⟨by omega, ((2 ^ v : Nat) : Int), shl_one (by omega), ?_⟩
  have hstart : Part (adj P) s v (2 ^ v) := ⟨by rw [Nat.testBit_two_pow]; simp, fun u hu => by
    rw [Nat.testBit_two_pow] at hu
    have : v = u := by simpa using hu
    subst this
    exact .refl hbit⟩
  conv => whnf
  refine SeqP.cut (α := Nat) (fun p => [(9, int p), (8, int v), (7, out), (2, int s), (0, int n), (1, .slice av P.length cap)]) (fun p h' => h' = H ∧ Part (adj P) s v p ∧ IsMask (adj P) s v p) ?_ ?_
  · conv => whnf
    refine SeqP.go ?_
    conv => whnf
    refine loop_inv (α := Nat × Nat) (fun x => [(10, int x.1), (9, int x.2), (8, int v), (7, out), (2, int s), (0, int n), (1, .slice av P.length cap)]) (fun _ => H) (fun x => x.1 ≤ n ∧ Part (adj P) s v x.2 ∧ Prog n (Closed (adj P) s) x.1 x.2) (fun x => n - x.1) (0, 2 ^ v) ⟨Nat.zero_le _, hstart, Prog.start hv' hstart.has⟩ ⟨rfl, rfl, rfl, rfl, rfl, rfl, rfl, trivial⟩ (Hp.Le.refl _) ?_
    rintro ⟨k, p⟩ φ ⟨hk, hp, hpr⟩
    dsimp only at hk hp hpr ⊢
    conv => whnf
    refine SeqP.go ?_
    conv => whnf
    refine SeqP.go ?_
    conv => whnf
    refine cmpB (fun hb3 => ?_) (fun hb3 => ?_)
    rotate_left
    · conv => whnf
      have hkn : k = n := by omega
      have hcl : Closed (adj P) s p := Prog.done (by rw [hkn] at hpr; exact hpr)
      exact ⟨p, ⟨rfl, rfl, rfl, rfl, rfl, rfl, trivial⟩, ⟨rfl, hp, hp.mask hcl⟩, rfl⟩
    conv => whnf
    refine SeqP.go ?_
    conv => whnf
    refine SeqP.go ?_
    conv => whnf
    refine loop_inv (α := Nat × Nat) (fun x => [(11, int x.1), (9, int x.2), (10, int k), (8, int v), (7, out), (2, int s), (0, int n), (1, .slice av P.length cap)]) (fun _ => H) (fun x => x.1 ≤ P.length ∧ Part (adj P) s v x.2 ∧ (∀ i, p.testBit i = true → x.2.testBit i = true) ∧ ∀ j, (hj : j < P.length) → j < x.1 → ∀ a b : Nat, P[j] = ((a : Int), (b : Int)) → s.testBit a = true → s.testBit b = true → (p.testBit a = true → x.2.testBit b = true) ∧ (p.testBit b = true → x.2.testBit a = true)) (fun x => P.length - x.1) (0, p) ⟨Nat.zero_le _, hp, fun i hi => hi, fun j hj h0 => absurd h0 (Nat.not_lt_zero _)⟩ ⟨rfl, rfl, rfl, rfl, rfl, rfl, rfl, rfl, trivial⟩ (Hp.Le.refl _) ?_
    rintro ⟨e, q⟩ φ ⟨he, hq, hpq, hset⟩
    dsimp only at he hq hpq hset ⊢
    have hqb := hSb q (mask_lt hs hq)
    conv => whnf
    refine SeqP.go ?_
    conv => whnf
    refine SeqP.go ?_
    conv => whnf
    refine cmpB (fun hb4 => ?_) (fun hb4 => ?_)
    rotate_left
    · conv => whnf
      refine ⟨((k + 1 : Nat) : Int), wie (by omega) (by omega), ?_⟩
      conv => whnf
      refine Rnd.mk (k + 1, q) ⟨by show k + 1 ≤ n; omega, hq, hp.round hs hq hpq ?_ hpr⟩ (by show n - (k + 1) < n - k; omega) ⟨rfl, rfl, rfl, rfl, rfl, rfl, rfl, trivial⟩ (Hp.Le.refl _) rfl
      intro u w hu huw hw
      have hus := (hp.sub u hu).inSet
      rcases huw with huw | huw
      · obtain ⟨j, hj, ej⟩ := List.getElem_of_mem huw
        exact (hset j hj (by omega) u w ej hus hw).1 hu
      · obtain ⟨j, hj, ej⟩ := List.getElem_of_mem huw
        exact (hset j hj (by omega) w u ej hw hus).2 hu
    have he' : e < P.length := by omega
    obtain ⟨a, b, ePe, hab, hbn⟩ := edge_at hP he'
    obtain ⟨r, o, rfl, hc0, hc1⟩ := hc e he'
    rw [ePe] at hc0 hc1
    dsimp only at hc0 hc1
    have hc0' : cellAt H r (0 + (e * 2 + o)) = some (int a) := by rw [Nat.zero_add]; exact hg.cell hc0
    have hc1' : cellAt H r (1 + (e * 2 + o)) = some (int b) := by rw [Nat.add_comm]; exact hg.cell hc1
    have pa := pow_small (show a < n by omega) hn
    have pb := pow_small hbn hn
    have pab : 2 ^ a ||| 2 ^ b < 9223372036854775808 := Nat.or_lt_two_pow (n := 63) (by omega) (by omega)
    have pqa : q ||| 2 ^ a < 9223372036854775808 := Nat.or_lt_two_pow (n := 63) (by omega) (by omega)
    have ea := bits_and (a := s) (b := 2 ^ a) (by omega) (by omega)
    have eb := bits_and (a := s) (b := 2 ^ b) (by omega) (by omega)
    have eo := bits_or (a := 2 ^ a) (b := 2 ^ b) (by omega) (by omega)
    have eq := bits_and (a := q) (b := 2 ^ a ||| 2 ^ b) (by omega) pab
    have ew := bits_or (a := q) (b := 2 ^ a) (by omega) (by omega)
    have ew2 := bits_or (a := q ||| 2 ^ a) (b := 2 ^ b) pqa (by omega)
    have keep : ¬ (s.testBit a = true ∧ s.testBit b = true ∧ (q.testBit a = true ∨ q.testBit b = true)) → ∀ j, (hj : j < P.length) → j < e + 1 → ∀ a b : Nat, P[j] = ((a : Int), (b : Int)) → s.testBit a = true → s.testBit b = true → (p.testBit a = true → q.testBit b = true) ∧ (p.testBit b = true → q.testBit a = true) := by
      intro hno j hj hje a' b' ej h1 h2
      by_cases hjE : j = e
      · subst hjE
        rw [ePe] at ej
        injection ej with e1 e2
        have e1 : a = a' := by omega
        have e2 : b = b' := by omega
        subst e1
        subst e2
        exact ⟨fun h3 => absurd ⟨h1, h2, .inl (hpq _ h3)⟩ hno, fun h3 => absurd ⟨h1, h2, .inr (hpq _ h3)⟩ hno⟩
      · exact hset j hj (by omega) a' b' ej h1 h2
    conv => whnf
    refine SeqP.cut (α := Nat) (fun t => [(11, int e), (9, int t), (10, int k), (8, int v), (7, out), (2, int s), (0, int n), (1, .slice (some ⟨r, o, none⟩) P.length cap)]) (fun t h' => h' = H ∧ Part (adj P) s v t ∧ (∀ i, q.testBit i = true → t.testBit i = true) ∧ ∀ j, (hj : j < P.length) → j < e + 1 → ∀ a b : Nat, P[j] = ((a : Int), (b : Int)) → s.testBit a = true → s.testBit b = true → (p.testBit a = true → t.testBit b = true) ∧ (p.testBit b = true → t.testBit a = true)) ?_ ?_
    · conv => whnf
      refine SeqP.go ?_
      conv => whnf
      refine ⟨rfl, ⟨by omega, by omega⟩, ?_⟩
      conv => whnf
      refine ⟨⟨by omega, by omega⟩, ?_⟩
      conv => whnf
      refine ⟨int a, hc0', ?_⟩
      conv => whnf
      refine ⟨by omega, ((2 ^ a : Nat) : Int), shl_one (by omega), ?_⟩
      conv => whnf
      refine ⟨rfl, ⟨by omega, by omega⟩, ?_⟩
      conv => whnf
      refine ⟨⟨by omega, by omega⟩, ?_⟩
      conv => whnf
      refine ⟨int b, hc1', ?_⟩
      conv => whnf
      refine ⟨by omega, ((2 ^ b : Nat) : Int), shl_one (by omega), ?_⟩
      conv => whnf
      refine SeqP.go ?_
      conv => whnf
      refine cmpB (fun c1 => ?_) (fun c1 => ?_)
      rotate_left
      · have c1 : ¬ arBits .i64 .and (s : Int) ((2 ^ a : Nat) : Int) ≠ 0 := c1
        rw [ea] at c1
        have c1' : ¬ s.testBit a = true := fun h1 => c1 (by have := (and_pow_ne s a).2 h1; omega)
        conv => whnf
        exact ⟨q, ⟨rfl, rfl, rfl, rfl, rfl, rfl, rfl, rfl, trivial⟩, ⟨rfl, hq, fun i hi => hi, keep fun h1 => c1' h1.1⟩, rfl⟩
      have c1 : arBits .i64 .and (s : Int) ((2 ^ a : Nat) : Int) ≠ 0 := c1
      rw [ea] at c1
      have c1' : s.testBit a = true := (and_pow_ne s a).1 (by omega)
      conv => whnf
      refine cmpB (fun c2 => ?_) (fun c2 => ?_)
      rotate_left
      · have c2 : ¬ arBits .i64 .and (s : Int) ((2 ^ b : Nat) : Int) ≠ 0 := c2
        rw [eb] at c2
        have c2' : ¬ s.testBit b = true := fun h1 => c2 (by have := (and_pow_ne s b).2 h1; omega)
        conv => whnf
        exact ⟨q, ⟨rfl, rfl, rfl, rfl, rfl, rfl, rfl, rfl, trivial⟩, ⟨rfl, hq, fun i hi => hi, keep fun h1 => c2' h1.2.1⟩, rfl⟩
      have c2 : arBits .i64 .and (s : Int) ((2 ^ b : Nat) : Int) ≠ 0 := c2
      rw [eb] at c2
      have c2' : s.testBit b = true := (and_pow_ne s b).1 (by omega)
      conv => whnf
      refine cmpB (fun c3 => ?_) (fun c3 => ?_)
      rotate_left
      · have c3 : ¬ arBits .i64 .and (q : Int) (arBits .i64 .or ((2 ^ a : Nat) : Int) ((2 ^ b : Nat) : Int)) ≠ 0 := c3
        rw [eo, eq] at c3
        have c3' : ¬ (q.testBit a = true ∨ q.testBit b = true) := fun h1 => c3 (by have := (or_ne q a b).2 h1; omega)
        conv => whnf
        exact ⟨q, ⟨rfl, rfl, rfl, rfl, rfl, rfl, rfl, rfl, trivial⟩, ⟨rfl, hq, fun i hi => hi, keep fun h1 => c3' h1.2.2⟩, rfl⟩
      have c3 : arBits .i64 .and (q : Int) (arBits .i64 .or ((2 ^ a : Nat) : Int) ((2 ^ b : Nat) : Int)) ≠ 0 := c3
      rw [eo, eq] at c3
      have c3' : q.testBit a = true ∨ q.testBit b = true := (or_ne q a b).1 (by omega)
      have hA : adj P a b := .inl (by rw [← ePe]; exact List.getElem_mem he')
      have hB : adj P b a := .inr (by rw [← ePe]; exact List.getElem_mem he')
      have hab2 : Comp.Reach (adj P) s v a ∧ Comp.Reach (adj P) s v b := by
        rcases c3' with h1 | h1
        · have := hq.sub a h1; exact ⟨this, this.step hA c2'⟩
        · have := hq.sub b h1; exact ⟨this.step hB c1', this⟩
      have hv9 : int (arBits .i64 .or (arBits .i64 .or (q : Int) ((2 ^ a : Nat) : Int)) ((2 ^ b : Nat) : Int)) = int (((q ||| 2 ^ a) ||| 2 ^ b : Nat) : Int) := by rw [ew, ew2]
      conv => whnf
      refine ⟨(q ||| 2 ^ a) ||| 2 ^ b, ⟨rfl, hv9, rfl, rfl, rfl, rfl, rfl, rfl, trivial⟩, ⟨rfl, ⟨?_, ?_⟩, ?_, ?_⟩, rfl⟩
      · exact (or2_bit q a b v).2 (.inl hq.has)
      · intro u hu
        rcases (or2_bit q a b u).1 hu with h1 | rfl | rfl
        · exact hq.sub u h1
        · exact hab2.1
        · exact hab2.2
      · exact fun i hi => (or2_bit q a b i).2 (.inl hi)
      · intro j hj hje a' b' ej h1 h2
        by_cases hjE : j = e
        · subst hjE
          rw [ePe] at ej
          injection ej with e1 e2
          have e1 : a = a' := by omega
          have e2 : b = b' := by omega
          subst e1
          subst e2
          exact ⟨fun _ => (or2_bit q a b b).2 (.inr (.inr rfl)), fun _ => (or2_bit q a b a).2 (.inr (.inl rfl))⟩
        · have := hset j hj (by omega) a' b' ej h1 h2
          exact ⟨fun h3 => (or2_bit q a b b').2 (.inl (this.1 h3)), fun h3 => (or2_bit q a b a').2 (.inl (this.2 h3))⟩
    rintro t φ H1 ⟨rfl, ht, hqt, hset'⟩
    conv => whnf
    refine ⟨((e + 1 : Nat) : Int), wie (by omega) (by omega), ?_⟩
    conv => whnf
    exact Rnd.mk (e + 1, t) ⟨by show e + 1 ≤ P.length; omega, ht, fun i hi => hqt i (hpq i hi), hset'⟩ (by show P.length - (e + 1) < P.length - e; omega) ⟨rfl, rfl, rfl, rfl, rfl, rfl, rfl, rfl, trivial⟩ (Hp.Le.refl _) rfl
  rintro p φ H1 ⟨rfl, hp, hm⟩
  have hpb := hSb p (mask_lt hs hp)
  have eless := bits_andNot (a := s) (b := p) (by omega) (by omega)
  have hls : less s p < 2 ^ n := less_lt hs
  conv => whnf
  refine SeqP.go ?_
  conv => whnf
  refine AppP.ints (hb.ext (Grows.lay H1 (.row 3 true [int p]))) (hg.then_lay _) Elems.lay1 (by unfold natI; rw [List.length_map]; simp; omega) ?_
  intro v' h' hb' hg' _
  conv => whnf
  refine ⟨((v + 1 : Nat) : Int), wie (by omega) (by omega), ?_⟩
  conv => whnf
  have hvs : int (arBits .i64 .andNot (s : Int) (p : Int)) = int ((less s p : Nat) : Int) := by rw [eless]
  refine Rnd.mk ⟨v + 1, less s p, done ++ [p], v', h'⟩ ⟨by show v + 1 ≤ n; omega, hls, fun u hu => ?_, ?_, ?_, hg', ?_⟩ (by show n - (v + 1) < n - v; omega) ⟨rfl, rfl, hvs, rfl, rfl, trivial⟩ (Hp.Le.refl _) rfl
  · show (less s p).testBit u = false
    rw [less_bit]
    have hu : u < v + 1 := hu
    by_cases e : u = v
    · subst e; rw [hp.has]; simp
    · rw [hmin u (by omega)]; rfl
  · exact IsParts.snoc hparts hbit hmin hm
  · show Built h h' 3 v' (natI (done ++ [p]))
    rw [natI_app, show natI [p] = [(p : Int)] by unfold natI; rfl]
    exact hb'
  · show (done ++ [p]).length ≤ v + 1
    rw [List.length_append]; simp; omega
end
end Go.Proofs.Yticmdpcahpimhaa
