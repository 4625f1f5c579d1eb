/- Contracts of the functions that SJorZ comes to. -/
import Derived.Test.YticmdpcahpimhaaSParts
import Derived.KernelRfl
set_option maxRecDepth 100000
set_option maxHeartbeats 1000000
set_option linter.unusedVariables false
set_option linter.unusedSectionVars false
set_option linter.unusedSimpArgs false
namespace Go.Proofs.Yticmdpcahpimhaa
open Go.Rx Go.RowKit Go.Comp
/-- The lowest bit of a number, by what the machine reckons. -/
def lowOk (s : Nat) : Bool := Nat.beq s 0 || (List.range 10).any fun v => s.testBit v && (List.range v).all (fun u => !s.testBit u) && decide (arBits .i64 .and (s : Int) (-(s : Int)) = ((2 ^ v : Nat) : Int))
theorem low_all : (List.range 1024).all lowOk = true := by decide +kernel
theorem low_bit {s : Nat} (h : s < 1024) (h0 : s ≠ 0) : ∃ v, v < 10 ∧ s.testBit v = true ∧ (∀ u, u < v → s.testBit u = false) ∧ arBits .i64 .and (s : Int) (-(s : Int)) = ((2 ^ v : Nat) : Int) := by
  have h1 := List.all_eq_true.1 low_all s (List.mem_range.2 h)
  unfold lowOk at h1
  rw [Bool.or_eq_true] at h1
  rcases h1 with h1 | h1
  · exact absurd (Nat.eq_of_beq_eq_true h1) h0
  · obtain ⟨v, hv, h2⟩ := List.any_eq_true.1 h1
    rw [Bool.and_eq_true, Bool.and_eq_true] at h2
    obtain ⟨⟨h3, h4⟩, h5⟩ := h2
    refine ⟨v, List.mem_range.1 hv, h3, fun u hu => ?_, of_decide_eq_true h5⟩
    have := List.all_eq_true.1 h4 u (List.mem_range.2 hu)
    simpa using this
/-- A tree as the program holds it. -/
def tv (n : Nat) (near : Nat → Nat) : List Value := int n :: rowF 10 fun k => (near k : Int)
structure TreeOk (n : Nat) (P : List (Int × Int)) (near : Nat → Nat) : Prop where
  n1 : n ≤ 10
  bits : ∀ u, u < n → ∀ w, (near u).testBit w = true ↔ adj P u w
  lt : ∀ u, near u < 1024
theorem tv_near {n k : Nat} {near : Nat → Nat} (h : k < 10) : (tv n near)[k + 1]? = some (int (near k)) := by
  unfold tv
  rw [List.getElem?_cons_succ, rowF_get h]
attribute [local irreducible] E idxN cellAt cellsAt storeAt callable helems hmoved lookIn findKey keyOk hentries Hp.at Hp.set Hp.lay arBits hupdated setAt CallP YieldP BoolOf IsWrap Rnd LoopP AppP CutP Int.tmod Int.tdiv Int.fdiv
structure TPs where
  s : Nat
  done : List Nat
  out : Value
  H : Hp
section
variable [Unknowns]
attribute [local irreducible] ResP sameAt natI tv
theorem has_spec (s v : Nat) (hs : s < 1048576) (hv : v < 60) (h : Hp) : CallP E 85 [int s, int v] h (fun r h' => r = .bool (s.testBit v) ∧ h' = h) := by
  have esh := shr_nat (a := s) (k := v) (by omega)
  have hle : s >>> v ≤ s := by rw [Nat.shiftRight_eq_div_pow]; exact Nat.div_le_self _ _
  have ea := bits_and (a := s >>> v) (b := 1) (by omega) (by omega)
  refine enter85 (by simp) ?_
  conv => whnf
  repeat (refine SeqP.go ?_; conv => whnf)
  refine ⟨by omega, ?_⟩
  conv => whnf
  refine cmpB (fun hb => ?_) (fun hb => ?_)
  · have hb : arBits .i64 .and ((s : Int).fdiv (2 ^ (min (v : Int).toNat 64))) ((1 : Nat) : Int) = 1 := hb
    rw [esh, ea] at hb
    have e : s.testBit v = true := (bit_has s v).1 (by omega)
    conv => whnf
    repeat (refine SeqP.go ?_; conv => whnf)
    exact ⟨by rw [e]; rfl, rfl⟩
  · have hb : ¬ arBits .i64 .and ((s : Int).fdiv (2 ^ (min (v : Int).toNat 64))) ((1 : Nat) : Int) = 1 := hb
    rw [esh, ea] at hb
    have e : s.testBit v = false := by
      cases e : s.testBit v with
      | false => rfl
      | true => have := (bit_has s v).2 e; omega
    conv => whnf
    repeat (refine SeqP.go ?_; conv => whnf)
    exact ⟨by rw [e]; rfl, rfl⟩
theorem parts_spec {n : Nat} {P : List (Int × Int)} {near : Nat → Nat} (hT : TreeOk n P near) (S : Nat) (hS : S < 2 ^ n) (h : Hp) : CallP E 90 [.agg ⟨tv n near⟩, int S] h (fun r h' => ∃ l : List Nat, IsParts (adj P) S l ∧ Built h h' 3 r (natI l) ∧ Grows h h') := by
  have hn := hT.n1
  have hSb : ∀ s, s < 2 ^ n → s < 1024 := fun s hs => Nat.lt_of_lt_of_le hs (Nat.pow_le_pow_right (n := 2) (by omega) hn)
  have hbox : (h.lay (.row 102 true (tv n near))).at h.next = some (.row 102 true (tv n near)) := Hp.at_lay_self _ _
  have ht0 : (tv n near)[0]? = some (int n) := by unfold tv; rfl
  refine enter90 (by simp) ?_
  conv => whnf
  repeat (refine SeqP.go ?_; conv => whnf)
  refine loop_inv (α := TPs) (fun s => [(1, int s.s), (5, s.out), (2, ptr h.next 0)]) (fun s => s.H) (fun s => s.s < 2 ^ n ∧ (∀ l, IsParts (adj P) s.s l → IsParts (adj P) S (s.done ++ l)) ∧ Built h s.H 3 s.out (natI s.done) ∧ Grows h s.H ∧ s.H.at h.next = some (.row 102 true (tv n near)) ∧ s.done.length + cnt 10 s.s ≤ 10) (fun s => cnt 10 s.s) ⟨S, [], .slice none 0 0, h.lay (.row 102 true (tv n near))⟩ ⟨hS, fun l hl => hl, .inl ⟨rfl, by unfold natI; rfl⟩, Grows.lay _ _, hbox, by have := cnt_le 10 S; show 0 + cnt 10 S ≤ 10; omega⟩ ⟨rfl, rfl, rfl, trivial⟩ (Hp.Le.refl _) ?_
  rintro ⟨s, done, out, H⟩ φ ⟨hs, hparts, hb, hg, hbx, hcn⟩
  dsimp only at hs hparts hb hg hbx hcn ⊢
  have hsb := hSb s hs
  conv => whnf
  repeat (refine SeqP.go ?_; conv => whnf)
  refine cmpB (fun hb1 => ?_) (fun hb1 => ?_)
  rotate_left
  · have hz : s = 0 := by omega
    have hres := hparts [] (by rw [hz]; exact .nil)
    rw [List.append_nil] at hres
    have hb' := hb
    rcases hb' with ⟨rfl, _⟩ | ⟨r, rfl, _, _⟩ <;> ((conv => whnf); (repeat (refine SeqP.go ?_; conv => whnf)); exact ⟨done, hres, hb, hg⟩)
  obtain ⟨v, hv10, hbit, hmin, elow⟩ := low_bit hsb (by omega)
  have hvn : v < n := by
    rcases Nat.lt_or_ge v n with h5 | h5
    · exact h5
    · rw [Nat.testBit_lt_two_pow (Nat.lt_of_lt_of_le hs (Nat.pow_le_pow_right (by omega) h5))] at hbit; cases hbit
  have hstart : Part (adj P) s v (2 ^ v) := ⟨by rw [Nat.testBit_two_pow]; simp, fun u hu => by
    rw [Nat.testBit_two_pow] at hu
    have : v = u := by simpa using hu
    subst this
    exact .refl hbit⟩
  conv => whnf
  refine SeqP.go ?_
  conv => whnf
  refine resP_val (v := int (-(s : Int))) (h := H) ?_ ?_
  · conv => lhs; whnf
    exact congrArg (HRes.val · _) (neg_eq (by omega))
  conv => whnf
  refine SeqP.cut (α := Nat) (fun p => [(6, int p), (1, int s), (5, out), (2, ptr h.next 0)]) (fun p h' => h' = H ∧ Part (adj P) s v p ∧ IsMask (adj P) s v p) ?_ ?_
  · conv => whnf
    refine SeqP.go ?_
    conv => whnf
    refine ⟨int n, cellAt_row hbx ht0, ?_⟩
    have hv6 : int (arBits .i64 .and (s : Int) (-(s : Int))) = int ((2 ^ v : Nat) : Int) := by rw [elow]
    conv => whnf
    refine loop_inv (α := Nat × Nat) (fun x => [(16, int x.1), (15, int n), (6, int x.2), (1, int s), (5, out), (2, ptr h.next 0)]) (fun _ => H) (fun x => x.1 ≤ n ∧ Part (adj P) s v x.2 ∧ Prog n (Closed (adj P) s) x.1 x.2) (fun x => n - x.1) (0, 2 ^ v) ⟨Nat.zero_le _, hstart, Prog.start hvn hstart.has⟩ ⟨rfl, rfl, hv6, rfl, rfl, rfl, trivial⟩ (Hp.Le.refl _) ?_
    rintro ⟨k, p⟩ φ ⟨hk, hp, hpr⟩
    dsimp only at hk hp hpr ⊢
    conv => whnf
    repeat (refine SeqP.go ?_; conv => whnf)
    refine cmpB (fun hb3 => ?_) (fun hb3 => ?_)
    rotate_left
    · conv => whnf
      repeat (refine SeqP.go ?_; conv => whnf)
      have hkn : k = n := by omega
      have hcl : Closed (adj P) s p := Prog.done (by rw [hkn] at hpr; exact hpr)
      exact ⟨p, ⟨rfl, rfl, rfl, rfl, trivial⟩, ⟨rfl, hp, hp.mask hcl⟩, rfl⟩
    conv => whnf
    repeat (refine SeqP.go ?_; conv => whnf)
    refine ⟨int n, cellAt_row hbx ht0, ?_⟩
    conv => whnf
    refine loop_inv (α := Nat × Nat) (fun x => [(20, int x.1), (19, int n), (6, int x.2), (16, int k), (15, int n), (1, int s), (5, out), (2, ptr h.next 0)]) (fun _ => H) (fun x => x.1 ≤ n ∧ Part (adj P) s v x.2 ∧ (∀ i, p.testBit i = true → x.2.testBit i = true) ∧ ∀ u, u < x.1 → p.testBit u = true → ∀ w, adj P u w → s.testBit w = true → x.2.testBit w = true) (fun x => n - x.1) (0, p) ⟨Nat.zero_le _, hp, fun i hi => hi, fun u hu => absurd hu (Nat.not_lt_zero _)⟩ ⟨rfl, rfl, rfl, rfl, rfl, rfl, rfl, rfl, trivial⟩ (Hp.Le.refl _) ?_
    rintro ⟨e, q⟩ φ ⟨he, hq, hpq, hset⟩
    dsimp only at he hq hpq hset ⊢
    have hqb := hSb q (mask_lt hs hq)
    conv => whnf
    repeat (refine SeqP.go ?_; conv => whnf)
    refine cmpB (fun hb4 => ?_) (fun hb4 => ?_)
    rotate_left
    · conv => whnf
      repeat (refine SeqP.go ?_; conv => whnf)
      refine ⟨((k + 1 : Nat) : Int), wie (by omega) (by omega), ?_⟩
      conv => whnf
      refine Rnd.mk (k + 1, q) ⟨by show k + 1 ≤ n; omega, hq, hp.round hs hq hpq ?_ hpr⟩ (by show n - (k + 1) < n - k; omega) ⟨rfl, rfl, rfl, rfl, rfl, rfl, trivial⟩ (Hp.Le.refl _) rfl
      intro u w hu huw hw
      have hus := (hp.sub u hu).inSet
      have hun : u < n := by
        rcases Nat.lt_or_ge u n with h5 | h5
        · exact h5
        · rw [Nat.testBit_lt_two_pow (Nat.lt_of_lt_of_le hs (Nat.pow_le_pow_right (by omega) h5))] at hus; cases hus
      exact hset u (by omega) hu w huw hw
    have he' : e < n := by omega
    conv => whnf
    refine SeqP.go ?_
    conv => whnf
    refine SeqP.cut (α := Nat) (fun t => [(6, int t), (20, int e), (19, int n), (16, int k), (15, int n), (1, int s), (5, out), (2, ptr h.next 0)]) (fun t h' => h' = H ∧ Part (adj P) s v t ∧ (∀ i, q.testBit i = true → t.testBit i = true) ∧ (q.testBit e = true → ∀ w, adj P e w → s.testBit w = true → t.testBit w = true)) ?_ ?_
    · conv => whnf
      repeat (refine SeqP.go ?_; conv => whnf)
      refine CallP.mono (has_spec q e (by omega) (by omega) H) ?_
      rintro rr h2 ⟨rfl, rfl⟩
      have hbb : ∃ b, q.testBit e = b := ⟨_, rfl⟩
      obtain ⟨b, eb⟩ := hbb
      rw [eb]
      cases b with
      | false =>
        conv => whnf
        exact ⟨q, ⟨rfl, rfl, rfl, rfl, rfl, rfl, rfl, rfl, trivial⟩, ⟨rfl, hq, fun i hi => hi, fun h1 => by first | (cases h1; done) | (rw [eb] at h1; cases h1)⟩, rfl⟩
      | true =>
        have hnb := hT.lt e
        have hcell : cellAt h2 h.next (e + 1) = some (int (near e)) := cellAt_row hbx (tv_near (by omega))
        have hlt1 : near e &&& s < 1024 := Nat.lt_of_le_of_lt Nat.and_le_left hnb
        have e1 := bits_and (a := near e) (b := s) (by omega) (by omega)
        have e2 := bits_or (a := q) (b := near e &&& s) (by omega) (by omega)
        have hv6' : int (arBits .i64 .or (q : Int) (arBits .i64 .and (near e : Int) (s : Int))) = int ((q ||| (near e &&& s) : Nat) : Int) := by rw [e1, e2]
        have hbits : ∀ i, (q ||| (near e &&& s)).testBit i = true ↔ (q.testBit i = true ∨ adj P e i ∧ s.testBit i = true) := by
          intro i
          rw [Nat.testBit_or, Nat.testBit_and, Bool.or_eq_true, Bool.and_eq_true, hT.bits e he' i]
        conv => whnf
        refine ⟨⟨by omega, by omega⟩, ?_⟩
        conv => whnf
        refine ⟨int (near e), hcell, ?_⟩
        conv => whnf
        refine ⟨q ||| (near e &&& s), ⟨hv6', rfl, rfl, rfl, rfl, rfl, rfl, rfl, trivial⟩, ⟨rfl, ⟨(hbits v).2 (.inl hq.has), ?_⟩, fun i hi => (hbits i).2 (.inl hi), fun _ w h1 h2 => (hbits w).2 (.inr ⟨h1, h2⟩)⟩, rfl⟩
        intro u hu
        rcases (hbits u).1 hu with h1 | ⟨h1, h2⟩
        · exact hq.sub u h1
        · exact (hq.sub e eb).step h1 h2
    rintro t φ H1 ⟨rfl, ht, hqt, hnew⟩
    conv => whnf
    refine ⟨((e + 1 : Nat) : Int), wie (by omega) (by omega), ?_⟩
    conv => whnf
    refine Rnd.mk (e + 1, t) ⟨by show e + 1 ≤ n; omega, ht, fun i hi => hqt i (hpq i hi), fun u hu hpu w h1 h2 => ?_⟩ (by show n - (e + 1) < n - e; omega) ⟨rfl, rfl, rfl, rfl, rfl, rfl, rfl, rfl, trivial⟩ (Hp.Le.refl _) rfl
    have hu : u < e + 1 := hu
    by_cases hue : u = e
    · subst hue; exact hnew (hpq _ hpu) w h1 h2
    · exact hqt w (hset u (by omega) hpu w h1 h2)
  rintro p φ H1 ⟨rfl, hp, hm⟩
  have hpb := hSb p (mask_lt hs hp)
  have eless := bits_andNot (a := s) (b := p) (by omega) (by omega)
  have hls : less s p < 2 ^ n := less_lt hs
  have hcl : cnt 10 (less s p) < cnt 10 s := cnt_lt (fun i hi => by rw [less_bit] at hi; simp at hi; exact hi.1) (v := v) (by rw [less_bit, hp.has]; simp) hbit 10 hv10
  conv => whnf
  refine SeqP.go ?_
  conv => whnf
  have hlt : h.next < H1.next := Hp.lt_of_at hbx
  refine AppP.ints (hb.ext (Grows.lay H1 (.row 3 true [int p]))) (hg.then_lay _) Elems.lay1 (by unfold natI; rw [List.length_map]; simp; omega) ?_
  intro v' h' hb' hg' hkeep
  conv => whnf
  have hvs : int (arBits .i64 .andNot (s : Int) (p : Int)) = int ((less s p : Nat) : Int) := by rw [eless]
  refine Rnd.mk ⟨less s p, done ++ [p], v', h'⟩ ⟨hls, IsParts.snoc hparts hbit hmin hm, ?_, hg', ?_, ?_⟩ hcl ⟨hvs, rfl, rfl, trivial⟩ (Hp.Le.refl _) rfl
  · show Built h h' 3 v' (natI (done ++ [p]))
    rw [natI_app, show natI [p] = [(p : Int)] by unfold natI; rfl]
    exact hb'
  · refine hkeep _ _ (Hp.at_lay_old _ hbx) (fun n' c' e => ?_)
    rcases hb with ⟨e0, _⟩ | ⟨r, e0, _, x, hr⟩
    · rw [e0] at e; cases e
    · rw [e0] at e
      unfold slc at e
      cases e
      rw [hbx] at hr
      injection hr with hr
      injection hr with hr
      cases hr
  · show (done ++ [p]).length + cnt 10 (less s p) ≤ 10
    rw [List.length_append]; simp; omega
end
end Go.Proofs.Yticmdpcahpimhaa
