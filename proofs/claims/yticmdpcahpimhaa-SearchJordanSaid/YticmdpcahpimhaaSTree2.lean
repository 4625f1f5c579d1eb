/- Contracts of the functions that SJorZ comes to. -/
import Derived.Test.YticmdpcahpimhaaSTree
set_option maxRecDepth 100000
set_option maxHeartbeats 1000000
set_option linter.unusedVariables false
set_option linter.unusedSectionVars false
set_option linter.unusedSimpArgs false
namespace Go.Proofs.Yticmdpcahpimhaa
open Go.Rx Go.RowKit Go.Comp
theorem ty102 : ∃ i, E.ty 102 = some i ∧ i.agg = true ∧ i.size = 11 := by
  have hs : (tiOf Try.prog 102).isSome = true := by kernel_rfl
  refine ⟨(tiOf Try.prog 102).get hs, ty_get (by kernel_rfl) (Option.some_get hs).symm, ?_, ?_⟩
  · kernel_rfl
  · kernel_rfl
theorem tv_zero (n : Nat) : tv n (fun _ => 0) = [int n, int 0, int 0, int 0, int 0, int 0, int 0, int 0, int 0, int 0, int 0] := rfl
def Z : List Value := [int 0, int 0, int 0, int 0, int 0, int 0, int 0, int 0, int 0, int 0, int 0]
theorem tv_length (n : Nat) (near : Nat → Nat) : (tv n near).length = 11 := by unfold tv; rw [List.length_cons, rowF_length]
theorem tv_one (n : Nat) (near : Nat → Nat) : (tv n near).all oneCell = true := by
  unfold tv rowF
  rw [List.all_eq_true]
  intro v hv
  rcases List.mem_cons.1 hv with rfl | hv
  · rfl
  · obtain ⟨k, _, rfl⟩ := List.mem_map.1 hv; rfl
theorem tv_set {n a x : Nat} {near : Nat → Nat} : (tv n near).set (a + 1) (int (x : Int)) = tv n (fun u => if u = a then x else near u) := by
  unfold tv
  rw [List.set_cons_succ, rowF_set]
  congr 1
  refine rowF_congr fun k _ => ?_
  by_cases h : k = a
  · simp [h]
  · simp [h]
theorem sameV_tv (n : Nat) (near : Nat → Nat) : sameV 4 (.agg ⟨tv n near⟩) (.agg ⟨tv n near⟩) = true := by
  have e : tv n near = ((n : Int) :: (List.range 10).map fun k => (near k : Int)).map int := by
    unfold tv rowF
    rw [List.map_cons, List.map_map]
    rfl
  rw [e]
  exact sameV_agg _
theorem over_tv (n : Nat) (near : Nat → Nat) (cs : List Value) (h : cs.length = 11) : over cs 0 (tv n near) = tv n near := by
  match cs, h with
  | [a, b, c, d, e, f, g, i, j, k, l], _ => rfl
/-- Neighbours, as far as the edges have been read. -/
structure NearOk (P : List (Int × Int)) (k : Nat) (near : Nat → Nat) : Prop where
  bits : ∀ u w, (near u).testBit w = true ↔ adj (P.take k) u w
  lt : ∀ u, near u < 1024
theorem NearOk.zero (P : List (Int × Int)) : NearOk P 0 (fun _ => 0) := ⟨fun u w => by unfold adj; simp, fun u => by omega⟩
theorem or_lt {x b : Nat} (h : x < 1024) (hb : b < 10) : x ||| 2 ^ b < 1024 := Nat.or_lt_two_pow (n := 10) h (Nat.pow_lt_pow_right (by omega) hb)
theorem or_bit (x b w : Nat) : (x ||| 2 ^ b).testBit w = true ↔ (x.testBit w = true ∨ w = b) := by
  rw [Nat.testBit_or, Nat.testBit_two_pow, Bool.or_eq_true, decide_eq_true_eq]
  constructor <;> (rintro (h | h) <;> first | exact .inl h | exact .inr h.symm)
theorem NearOk.succ {P : List (Int × Int)} {k : Nat} {near : Nat → Nat} (h : NearOk P k near) (hk : k < P.length) {a b : Nat} (e : P[k] = ((a : Int), (b : Int))) (hab : a < b) (hb : b < 10) :
    NearOk P (k + 1) (fun u => if u = b then (if b = a then near a ||| 2 ^ b else near b) ||| 2 ^ a else if u = a then near a ||| 2 ^ b else near u) := by
  have hne : b ≠ a := by omega
  rw [if_neg hne]
  constructor
  · intro u w
    have hA : adj (P.take (k + 1)) u w ↔ adj (P.take k) u w ∨ (u = a ∧ w = b) ∨ (u = b ∧ w = a) := by
      unfold adj
      rw [List.take_succ_eq_append_getElem hk, e]
      simp only [List.mem_append, List.mem_singleton, Prod.mk.injEq, Int.ofNat_inj]
      by_cases m1 : ((u : Int), (w : Int)) ∈ P.take k <;> by_cases m2 : ((w : Int), (u : Int)) ∈ P.take k <;> simp only [m1, m2, true_or, or_true, false_or, true_iff] <;> omega
    rw [hA, ← h.bits u w]
    by_cases h1 : u = b
    · subst h1
      rw [if_pos rfl, or_bit]
      constructor
      · rintro (h2 | h2)
        · exact .inl h2
        · exact .inr (.inr ⟨rfl, h2⟩)
      · rintro (h2 | ⟨h2, h3⟩ | ⟨h2, h3⟩)
        · exact .inl h2
        · omega
        · exact .inr h3
    · rw [if_neg h1]
      by_cases h2 : u = a
      · subst h2
        rw [if_pos rfl, or_bit]
        constructor
        · rintro (h3 | h3)
          · exact .inl h3
          · exact .inr (.inl ⟨rfl, h3⟩)
        · rintro (h3 | ⟨h3, h4⟩ | ⟨h3, h4⟩)
          · exact .inl h3
          · exact .inr h4
          · omega
      · rw [if_neg h2]
        constructor
        · exact .inl
        · rintro (h3 | ⟨h3, h4⟩ | ⟨h3, h4⟩)
          · exact h3
          · omega
          · omega
  · intro u
    have ha := or_lt (h.lt a) hb
    have hb2 := or_lt (h.lt b) (show a < 10 by omega)
    split
    · exact hb2
    · split
      · exact ha
      · exact h.lt u
attribute [local irreducible] E idxN cellAt cellsAt storeAt callable helems hmoved lookIn findKey keyOk hentries Hp.at Hp.set Hp.lay arBits hupdated setAt CallP YieldP BoolOf IsWrap Rnd LoopP AppP CutP Int.tmod Int.tdiv Int.fdiv
structure RDs where
  k : Nat
  near : Nat → Nat
  H : Hp
section
variable [Unknowns]
attribute [local irreducible] ResP sameAt natI tv finP
theorem all_spec (n : Nat) (hn : n ≤ 10) (near : Nat → Nat) (h : Hp) : CallP E 70 [.agg ⟨tv n near⟩] h (fun r h' => r = int ((2 ^ n - 1 : Nat) : Int) ∧ Grows h h') := by
  have hpw : 2 ^ n < 2 ^ 11 := Nat.pow_lt_pow_right (by omega) (by omega)
  have hpw1 : 1 ≤ 2 ^ n := Nat.one_le_two_pow
  have ht0 : (tv n near)[0]? = some (int n) := by unfold tv; rfl
  refine enter70 (by simp) ?_
  conv => whnf
  repeat (refine SeqP.go ?_; conv => whnf)
  refine ⟨int n, cellAt_row (Hp.at_lay_self _ _) ht0, ?_⟩
  conv => whnf
  refine ⟨by omega, ((2 ^ n : Nat) : Int), shl_one (by omega), ?_⟩
  conv => whnf
  refine ⟨((2 ^ n - 1 : Nat) : Int), wie (by omega) (by omega), ?_⟩
  conv => whnf
  repeat (refine SeqP.go ?_; conv => whnf)
  exact finP_one rfl rfl ⟨rfl, Grows.lay _ _⟩
theorem fin_tree {φ : Rx.Frame} {H : Hp} {c4 : Nat} {x b : Bool} {cs : List Value} {Q : Value → Hp → Prop} (hφ : φ 4 = ptr c4 0) (h5 : φ 5 = .bool b) (hat : H.at c4 = some (.row 102 x cs)) (hl : cs.length = 11) (q : Q (.tuple ⟨[.agg ⟨cs⟩, .bool b]⟩) H) : finP E [.cell 4 102, .tmp 5] ⟨φ, H, []⟩ Q := by
  obtain ⟨i, hi, hag, hsz⟩ := ty102
  refine leave_cell2 hφ h5 rfl hi hag ?_ q
  rw [hsz, cellsAt_row hat (by omega), List.drop_zero, List.take_of_length_le (by omega)]
theorem read_spec (n : Nat) (hn : 1 ≤ n ∧ n ≤ 10) (P : List (Int × Int)) (hl : P.length ≤ 1000) (ev : Value) (h : Hp) (hv : PairsV h ev P) : CallP E 84 [int n, ev] h (fun r h' => (∃ cs b, r = .tuple ⟨[.agg ⟨cs⟩, .bool b]⟩ ∧ cs.length = 11 ∧ cs.all oneCell = true ∧ (b = true ↔ TreeP n P) ∧ (b = true → ∃ near, cs = tv n near ∧ TreeOk n P near)) ∧ Grows h h') := by
  obtain ⟨av, cap, rfl, hc⟩ := id hv
  have h4 : ∀ o, ((h.lay (.row 102 true Z)).lay o).at h.next = some (.row 102 true Z) := fun o => Hp.at_lay_old _ (Hp.at_lay_self _ _)
  have bad : ¬ TreeP n P → ∀ H x, Grows h H → H.at h.next = some (.row 102 x Z) → ((∃ cs b, Value.tuple ⟨[.agg ⟨Z⟩, .bool false]⟩ = .tuple ⟨[.agg ⟨cs⟩, .bool b]⟩ ∧ cs.length = 11 ∧ cs.all oneCell = true ∧ (b = true ↔ TreeP n P) ∧ (b = true → ∃ near, cs = tv n near ∧ TreeOk n P near)) ∧ Grows h (H.set h.next (.row 102 x Z))) := fun hno H x hg hat =>
    ⟨⟨Z, false, rfl, rfl, rfl, ⟨fun e => (by cases e), fun e => absurd e hno⟩, fun e => (by cases e)⟩, hg.then_set _ (Nat.le_refl _)⟩
  refine enter84 (by simp) ?_
  conv => whnf
  refine SeqP.go ?_
  conv => whnf
  refine SeqP.go ?_
  conv => whnf
  refine ⟨rfl, _, storeAt_all rfl rfl rfl, ?_⟩
  conv => whnf
  refine SeqP.go ?_
  conv => whnf
  refine SeqP.go ?_
  conv => whnf
  refine ⟨((n : Int) - 1), wid (by omega), ?_⟩
  conv => whnf
  refine cmpB (fun c0 => ?_) (fun c0 => ?_)
  · conv => whnf
    repeat (refine SeqP.go ?_; conv => whnf)
    refine ⟨rfl, _, storeAt_full (vs := Z) (h4 _) rfl rfl rfl, ?_⟩
    conv => whnf
    repeat (refine SeqP.go ?_; conv => whnf)
    exact fin_tree rfl rfl (Hp.at_set_self _ (Hp.lt_of_at (h4 _))) rfl (bad (fun ht => by have := ht.len; omega) _ _ ((Grows.lay _ _).then_lay _) (h4 _))
  conv => whnf
  refine SeqP.cut (α := RDs) (fun s => [(0, int n), (1, .slice av P.length cap), (4, ptr h.next 0), (6, ptr (h.lay (.row 102 true Z)).next 0)]) (fun s h' => h' = s.H ∧ UpTo n P P.length ∧ NearOk P P.length s.near ∧ Grows h s.H ∧ s.H.at h.next = some (.row 102 true Z) ∧ s.H.at (h.lay (.row 102 true Z)).next = some (.row 102 true (tv n s.near))) ?_ ?_
  · conv => whnf
    repeat (refine SeqP.go ?_; conv => whnf)
    refine loop_inv (α := RDs) (fun s => [(19, int s.k), (18, int P.length), (17, .slice av P.length cap), (0, int n), (1, .slice av P.length cap), (4, ptr h.next 0), (6, ptr (h.lay (.row 102 true Z)).next 0)]) (fun s => s.H) (fun s => s.k ≤ P.length ∧ UpTo n P s.k ∧ NearOk P s.k s.near ∧ Grows h s.H ∧ s.H.at h.next = some (.row 102 true Z) ∧ s.H.at (h.lay (.row 102 true Z)).next = some (.row 102 true (tv n s.near))) (fun s => P.length - s.k) ⟨0, fun _ => 0, _⟩ ⟨Nat.zero_le _, fun k hk h0 => absurd h0 (Nat.not_lt_zero _), NearOk.zero P, (Grows.lay _ _).then_lay _, h4 _, (by rw [tv_zero]; exact Hp.at_lay_self _ _)⟩ ⟨rfl, rfl, rfl, rfl, rfl, rfl, rfl, trivial⟩ (Hp.Le.refl _) ?_
    rintro ⟨k, near, H⟩ φ ⟨hk, hup, hno, hg, hat4, hat6⟩
    dsimp only at hk hup hno hg hat4 hat6 ⊢
    conv => whnf
    repeat (refine SeqP.go ?_; conv => whnf)
    refine cmpB (fun hb => ?_) (fun hb => ?_)
    rotate_left
    · conv => whnf
      repeat (refine SeqP.go ?_; conv => whnf)
      have hkl : k = P.length := by omega
      exact ⟨⟨k, near, H⟩, ⟨rfl, rfl, rfl, rfl, trivial⟩, ⟨rfl, by rw [← hkl]; exact hup, by rw [← hkl]; exact hno, hg, hat4, hat6⟩, rfl⟩
    have hk' : k < P.length := by omega
    have hcc := hc k hk'
    obtain ⟨r, o, rfl, hc0, hc1⟩ := hcc
    have hex : ∃ x y : Int, P[k] = (x, y) := ⟨_, _, rfl⟩
    obtain ⟨x, y, exy⟩ := hex
    rw [exy] at hc0 hc1
    dsimp only at hc0 hc1
    have hE : EdgeOk n P k hk' → TreeP n P ∨ True := fun _ => .inr trivial
    have nob : ¬ EdgeOk n P k hk' → ¬ TreeP n P := fun h1 ht => h1 (ht.up k hk' hk')
    have hL := Hp.at_lay_self H (.row 81 true [int x, int y])
    have hat4' := Hp.at_lay_old (.row 81 true [int x, int y]) hat4
    have hat6' := Hp.at_lay_old (.row 81 true [int x, int y]) hat6
    have hg' := hg.then_lay (.row 81 true [int x, int y])
    have l6 := Hp.lt_of_at hat6
    conv => whnf
    refine SeqP.go ?_
    conv => whnf
    refine SeqP.go ?_
    conv => whnf
    refine SeqP.go ?_
    conv => whnf
    refine ⟨rfl, ⟨by omega, by omega⟩, ?_⟩
    conv => whnf
    refine ⟨[int x, int y], cellsAt_two (hg.cell hc0) (hg.cell hc1), ?_⟩
    conv => whnf
    refine ⟨rfl, _, storeAt_all rfl rfl rfl, ?_⟩
    conv => whnf
    refine SeqP.cut (α := Unit) (fun _ => [(7, int k), (8, ptr H.next 0), (19, int k), (18, int P.length), (17, .slice (some ⟨r, o, none⟩) P.length cap), (0, int n), (1, .slice (some ⟨r, o, none⟩) P.length cap), (4, ptr h.next 0), (6, ptr (h.lay (.row 102 true Z)).next 0)]) (fun _ h' => h' = H.lay (.row 81 true [int x, int y]) ∧ 0 ≤ x ∧ x < y ∧ y < n) ?_ ?_
    · conv => whnf
      repeat (refine SeqP.go ?_; conv => whnf)
      refine ⟨⟨by omega, by omega⟩, ?_⟩
      conv => whnf
      refine ⟨int x, cellAt_row hL rfl, ?_⟩
      conv => whnf
      refine cmpB (fun c2 => ?_) (fun c2 => ?_)
      · conv => whnf
        repeat (refine SeqP.go ?_; conv => whnf)
        refine ⟨rfl, _, storeAt_full (vs := Z) hat4' rfl rfl rfl, ?_⟩
        conv => whnf
        repeat (refine SeqP.go ?_; conv => whnf)
        exact fin_tree rfl rfl (Hp.at_set_self _ (Hp.lt_of_at hat4')) rfl (bad (nob fun h1 => by have := h1.1; rw [exy] at this; dsimp only at this; omega) _ _ hg' hat4')
      conv => whnf
      refine ⟨⟨by omega, by omega⟩, ?_⟩
      conv => whnf
      refine ⟨int x, cellAt_row hL rfl, ?_⟩
      conv => whnf
      refine ⟨⟨by omega, by omega⟩, ?_⟩
      conv => whnf
      refine ⟨int y, cellAt_row hL rfl, ?_⟩
      conv => whnf
      refine cmpB (fun c3 => ?_) (fun c3 => ?_)
      · conv => whnf
        repeat (refine SeqP.go ?_; conv => whnf)
        refine ⟨rfl, _, storeAt_full (vs := Z) hat4' rfl rfl rfl, ?_⟩
        conv => whnf
        repeat (refine SeqP.go ?_; conv => whnf)
        exact fin_tree rfl rfl (Hp.at_set_self _ (Hp.lt_of_at hat4')) rfl (bad (nob fun h1 => by have := h1.2.1; rw [exy] at this; dsimp only at this; omega) _ _ hg' hat4')
      conv => whnf
      refine ⟨⟨by omega, by omega⟩, ?_⟩
      conv => whnf
      refine ⟨int y, cellAt_row hL rfl, ?_⟩
      conv => whnf
      refine cmpB (fun c4 => ?_) (fun c4 => ?_)
      · conv => whnf
        repeat (refine SeqP.go ?_; conv => whnf)
        refine ⟨rfl, _, storeAt_full (vs := Z) hat4' rfl rfl rfl, ?_⟩
        conv => whnf
        repeat (refine SeqP.go ?_; conv => whnf)
        exact fin_tree rfl rfl (Hp.at_set_self _ (Hp.lt_of_at hat4')) rfl (bad (nob fun h1 => by have := h1.2.2.1; rw [exy] at this; dsimp only at this; omega) _ _ hg' hat4')
      conv => whnf
      exact ⟨(), ⟨rfl, rfl, rfl, rfl, rfl, rfl, rfl, rfl, rfl, trivial⟩, ⟨rfl, by omega, by omega, by omega⟩, rfl⟩
    rintro _ φ H1 ⟨rfl, hx0, hxy, hyn⟩
    obtain ⟨a, rfl⟩ : ∃ a : Nat, x = a := ⟨x.toNat, by omega⟩
    obtain ⟨b, rfl⟩ : ∃ b : Nat, y = b := ⟨y.toNat, by omega⟩
    conv => whnf
    refine SeqP.cut (α := Unit) (fun _ => [(8, ptr H.next 0), (19, int k), (18, int P.length), (17, .slice (some ⟨r, o, none⟩) P.length cap), (0, int n), (1, .slice (some ⟨r, o, none⟩) P.length cap), (4, ptr h.next 0), (6, ptr (h.lay (.row 102 true Z)).next 0)]) (fun _ h' => h' = H.lay (.row 81 true [int a, int b]) ∧ EdgeOk n P k hk') ?_ ?_
    · conv => whnf
      repeat (refine SeqP.go ?_; conv => whnf)
      refine cmpB (fun c2 => ?_) (fun c2 => ?_)
      rotate_left
      · conv => whnf
        exact ⟨(), ⟨rfl, rfl, rfl, rfl, rfl, rfl, rfl, rfl, trivial⟩, ⟨rfl, by rw [exy]; exact hx0, by rw [exy]; exact hxy, by rw [exy]; exact hyn, fun h0 => by omega⟩, rfl⟩
      have hk1 : k - 1 < P.length := by omega
      have hcc := hc (k - 1) hk1
      obtain ⟨r', o', e', hd0, hd1⟩ := hcc
      obtain ⟨rfl, rfl⟩ : r' = r ∧ o' = o := by cases e'; exact ⟨rfl, rfl⟩
      conv => whnf
      refine ⟨((k - 1 : Nat) : Int), wie (by omega) (by omega), ?_⟩
      conv => whnf
      refine ⟨rfl, ⟨by omega, by omega⟩, ?_⟩
      conv => whnf
      refine resP_cutA ?_ (by omega)
      conv => whnf
      refine resP_cutA ?_ (by omega)
      conv => whnf
      refine CallP.mono (compare_spec _ _ P[k - 1] P[k] _ ?_ ?_) ?_
      · refine ⟨_, 2, rfl, fun j hj => ?_⟩
        have hj2 : j = 0 ∨ j = 1 := by simp at hj; omega
        rcases hj2 with rfl | rfl
        · exact ⟨r', _, some 1, rfl, rfl, by rw [Nat.zero_add]; exact hg'.cell hd0⟩
        · exact ⟨r', _, some 1, rfl, rfl, by rw [Nat.add_comm]; exact hg'.cell hd1⟩
      · rw [exy]
        exact ints_spot (l := [(a : Int), (b : Int)]) hL (fun j hj => by
          have hj2 : j = 0 ∨ j = 1 := by simp at hj; omega
          rcases hj2 with rfl | rfl <;> rfl)
      rintro rr h2 ⟨⟨c, rfl, hcl, -⟩, rfl⟩
      conv => whnf
      refine cmpB (fun c3 => ?_) (fun c3 => ?_)
      · conv => whnf
        repeat (refine SeqP.go ?_; conv => whnf)
        refine ⟨rfl, _, storeAt_full (vs := Z) hat4' rfl rfl rfl, ?_⟩
        conv => whnf
        repeat (refine SeqP.go ?_; conv => whnf)
        exact fin_tree rfl rfl (Hp.at_set_self _ (Hp.lt_of_at hat4')) rfl (bad (nob fun h1 => by have := hcl.2 (h1.2.2.2 (by omega)); omega) _ _ hg' hat4')
      conv => whnf
      exact ⟨(), ⟨rfl, rfl, rfl, rfl, rfl, rfl, rfl, rfl, trivial⟩, ⟨rfl, by rw [exy]; exact hx0, by rw [exy]; exact hxy, by rw [exy]; exact hyn, fun h0 => hcl.1 (by omega)⟩, rfl⟩
    rintro _ φ H1 ⟨rfl, hEd⟩
    have hab : a < b := by omega
    have hb10 : b < 10 := by omega
    have hn1 : ∃ f : Nat → Nat, f = fun u => if u = a then near a ||| 2 ^ b else near u := ⟨_, rfl⟩
    obtain ⟨near1, en1⟩ := hn1
    have hn2 : ∃ f : Nat → Nat, f = fun u => if u = b then near1 b ||| 2 ^ a else near1 u := ⟨_, rfl⟩
    obtain ⟨near2, en2⟩ := hn2
    have hna := hno.lt a
    have hn1b : near1 b < 1024 := by rw [en1]; dsimp only; rw [if_neg (by omega)]; exact hno.lt b
    have pa := pow_small (show a < 10 by omega) (n := 10) (by omega)
    have pb := pow_small hb10 (by omega)
    have e1 := bits_or (a := near a) (b := 2 ^ b) (by omega) (by omega)
    have e2 := bits_or (a := near1 b) (b := 2 ^ a) (by omega) (by omega)
    have hst1 : storeAt (H.lay (.row 81 true [int a, int b])) (h.lay (.row 102 true Z)).next (a + 1) [int (arBits .i64 .or (near a : Int) ((2 ^ b : Nat) : Int))] = some ((H.lay (.row 81 true [int a, int b])).set (h.lay (.row 102 true Z)).next (.row 102 true (tv n near1))) := by
      rw [e1, storeAt_row hat6' (by rw [tv_length]; omega) rfl, tv_set, en1]
    have hne : H.next ≠ (h.lay (.row 102 true Z)).next := by omega
    have hlt6 := Hp.lt_of_at hat6'
    have hH2 : ∃ H2, H2 = (H.lay (.row 81 true [int a, int b])).set (h.lay (.row 102 true Z)).next (.row 102 true (tv n near1)) := ⟨_, rfl⟩
    obtain ⟨H2, eH2⟩ := hH2
    rw [← eH2] at hst1
    have hL2 : H2.at H.next = some (.row 81 true [int a, int b]) := by rw [eH2, Hp.at_set_ne _ hne]; exact hL
    have h62 : H2.at (h.lay (.row 102 true Z)).next = some (.row 102 true (tv n near1)) := by rw [eH2]; exact Hp.at_set_self _ hlt6
    have h42 : H2.at h.next = some (.row 102 true Z) := by rw [eH2, Hp.at_set_ne _ (by rw [Hp.next_lay]; omega)]; exact hat4'
    have hg2 : Grows h H2 := by rw [eH2]; exact hg'.then_set _ (by rw [Hp.next_lay]; omega)
    have hst2 : storeAt H2 (h.lay (.row 102 true Z)).next (b + 1) [int (arBits .i64 .or (near1 b : Int) ((2 ^ a : Nat) : Int))] = some (H2.set (h.lay (.row 102 true Z)).next (.row 102 true (tv n near2))) := by
      rw [e2, storeAt_row h62 (by rw [tv_length]; omega) rfl, tv_set, en2]
    have hlt62 := Hp.lt_of_at h62
    conv => whnf
    refine SeqP.go ?_
    conv => whnf
    refine ⟨⟨by omega, by omega⟩, ?_⟩
    conv => whnf
    refine ⟨int a, cellAt_row hL rfl, ?_⟩
    conv => whnf
    refine ⟨⟨by omega, by omega⟩, ?_⟩
    conv => whnf
    refine ⟨int (near a), cellAt_row hat6' (tv_near (by omega)), ?_⟩
    conv => whnf
    refine ⟨⟨by omega, by omega⟩, ?_⟩
    conv => whnf
    refine ⟨int b, cellAt_row hL rfl, ?_⟩
    conv => whnf
    refine ⟨by omega, ((2 ^ b : Nat) : Int), shl_one (by omega), ?_⟩
    conv => whnf
    refine ⟨⟨by omega, by omega⟩, ?_⟩
    conv => whnf
    refine ⟨rfl, _, hst1, ?_⟩
    conv => whnf
    refine ⟨⟨by omega, by omega⟩, ?_⟩
    conv => whnf
    refine ⟨int b, cellAt_row hL2 rfl, ?_⟩
    conv => whnf
    refine ⟨⟨by omega, by omega⟩, ?_⟩
    conv => whnf
    refine ⟨int (near1 b), cellAt_row h62 (tv_near (by omega)), ?_⟩
    conv => whnf
    refine ⟨⟨by omega, by omega⟩, ?_⟩
    conv => whnf
    refine ⟨int a, cellAt_row hL2 rfl, ?_⟩
    conv => whnf
    refine ⟨by omega, ((2 ^ a : Nat) : Int), shl_one (by omega), ?_⟩
    conv => whnf
    refine ⟨⟨by omega, by omega⟩, ?_⟩
    conv => whnf
    refine ⟨rfl, _, hst2, ?_⟩
    conv => whnf
    refine ⟨((k + 1 : Nat) : Int), wie (by omega) (by omega), ?_⟩
    conv => whnf
    refine Rnd.mk ⟨k + 1, near2, H2.set (h.lay (.row 102 true Z)).next (.row 102 true (tv n near2))⟩ ⟨by show k + 1 ≤ P.length; omega, hup.succ hk' hEd, ?_, hg2.then_set _ (by rw [Hp.next_lay]; omega), ?_, Hp.at_set_self _ hlt62⟩ (by show P.length - (k + 1) < P.length - k; omega) ⟨rfl, rfl, rfl, rfl, rfl, rfl, rfl, trivial⟩ (Hp.Le.refl _) rfl
    · show NearOk P (k + 1) near2
      rw [en2, en1]
      exact hno.succ hk' exy hab hb10
    · show (H2.set _ _).at h.next = _
      rw [Hp.at_set_ne _ (by rw [Hp.next_lay]; omega)]
      exact h42
  rintro ⟨_, near, H⟩ φ H1 ⟨rfl, hup, hno, hg, hat4, hat6⟩
  dsimp only at hno hat6
  have hT : TreeOk n P near := ⟨hn.2, fun u _ w => by have := hno.bits u w; rw [List.take_length] at this; exact this, hno.lt⟩
  have hpw : 2 ^ n < 2 ^ 11 := Nat.pow_lt_pow_right (by omega) (by omega)
  have hpw1 : 1 ≤ 2 ^ n := Nat.one_le_two_pow
  have hcs : ∀ H', Grows H1 H' → cellsAt H' (h.lay (.row 102 true Z)).next 0 11 = some (tv n near) := fun H' hg' => by
    rw [cellsAt_row (hg'.at_ _ _ hat6) (by rw [tv_length]; omega), List.drop_zero, List.take_of_length_le (by rw [tv_length]; omega)]
  conv => whnf
  refine SeqP.go ?_
  conv => whnf
  refine ⟨tv n near, hcs _ (Grows.refl _), ?_⟩
  conv => whnf
  refine ⟨tv n near, hcs _ (Grows.refl _), ?_⟩
  conv => whnf
  refine ⟨tv n near, hcs _ (Grows.refl _), ?_⟩
  conv => whnf
  refine CallP.mono (all_spec n hn.2 near H1) ?_
  rintro rr h2 ⟨rfl, hg2⟩
  conv => whnf
  refine CallP.mono (parts_spec hT (2 ^ n - 1) (by omega) h2) ?_
  rintro rr h3 ⟨l, hlp, hb, hg3⟩
  have hlen := isParts_len hlp
  have hb' := hb.view.known
  obtain ⟨a3, c3, rfl⟩ := hb'
  have hnl : (natI l).length = l.length := by unfold natI; rw [List.length_map]
  have hg23 := hg2.trans hg3
  have hat43 := hg23.at_ _ _ hat4
  have hst : storeAt h3 h.next 0 (tv n near) = some (h3.set h.next (.row 102 true (tv n near))) := storeAt_full hat43 (tv_length n near) (tv_one n near) (over_tv n near Z rfl)
  have hgl : Grows h (h3.set h.next (.row 102 true (tv n near))) := (hg.trans hg23).then_set _ (Nat.le_refl _)
  conv => whnf
  have okl : ∀ (H' : Hp), Grows H1 H' → hval H' (aggOf (cellsAt H' (h.lay (.row 102 true Z)).next 0 11)) = .val (.agg ⟨tv n near⟩) H' := fun H' hg' => by rw [hcs H' hg']; rfl
  refine cmpB (fun c1 => ?_) (fun c1 => ?_)
  · have hone := hlen.1 (by omega)
    have ht : TreeP n P := ⟨⟨by omega, by omega⟩, hup, by omega, hone⟩
    have c1 : ((natI l).length : Int) = 1 := c1
    conv => whnf
    refine ⟨tv_length n near, _, hst, ?_⟩
    conv => whnf
    refine ⟨?_, ?_⟩
    · repeat' (first | exact True.intro | (refine And.intro ?_ ?_ <;> (conv => whnf)))
      all_goals first
        | exact sameAt_val (h2 := H1) (okl H1 (Grows.refl _)) (sameV_tv _ _)
        | exact sameAt_val (h2 := h2) (okl h2 hg2) (sameV_tv _ _)
        | exact sameAt_val (h2 := h3) (okl h3 hg23) (sameV_tv _ _)
        | exact sameAt_val (h2 := _) rfl (sameV_int _)
        | exact sameAt_val (h2 := h3) (by show hval h3 (some (Value.bool (decide (((natI l).length : Int) = 1)))) = _; rw [decide_eq_true c1]; rfl) rfl
        | exact sameAt_val (h2 := h3.set h.next (.row 102 true (tv n near))) (by show hval _ (some (Value.bool (decide (((natI l).length : Int) = 1)))) = _; rw [decide_eq_true c1]; rfl) rfl
    conv => whnf
    repeat (refine SeqP.go ?_; conv => whnf)
    exact fin_tree rfl rfl (Hp.at_set_self _ (Hp.lt_of_at hat43)) (tv_length n near) ⟨⟨tv n near, true, rfl, tv_length n near, tv_one n near, ⟨fun _ => ht, fun _ => rfl⟩, fun _ => ⟨near, rfl, hT⟩⟩, hgl⟩
  · have c1 : ¬ ((natI l).length : Int) = 1 := c1
    have ht : ¬ TreeP n P := fun ht => by have := hlen.2 ht.one; omega
    conv => whnf
    refine ⟨tv_length n near, _, hst, ?_⟩
    conv => whnf
    refine ⟨?_, ?_⟩
    · repeat' (first | exact True.intro | (refine And.intro ?_ ?_ <;> (conv => whnf)))
      all_goals first
        | exact sameAt_val (h2 := H1) (okl H1 (Grows.refl _)) (sameV_tv _ _)
        | exact sameAt_val (h2 := h2) (okl h2 hg2) (sameV_tv _ _)
        | exact sameAt_val (h2 := h3) (okl h3 hg23) (sameV_tv _ _)
        | exact sameAt_val (h2 := _) rfl (sameV_int _)
        | exact sameAt_val (h2 := h3) (by show hval h3 (some (Value.bool (decide (((natI l).length : Int) = 1)))) = _; rw [decide_eq_false c1]; rfl) rfl
        | exact sameAt_val (h2 := h3.set h.next (.row 102 true (tv n near))) (by show hval _ (some (Value.bool (decide (((natI l).length : Int) = 1)))) = _; rw [decide_eq_false c1]; rfl) rfl
    conv => whnf
    repeat (refine SeqP.go ?_; conv => whnf)
    exact fin_tree rfl rfl (Hp.at_set_self _ (Hp.lt_of_at hat43)) (tv_length n near) ⟨⟨tv n near, false, rfl, tv_length n near, tv_one n near, ⟨fun e => (by cases e), fun e => absurd e ht⟩, fun e => (by cases e)⟩, hgl⟩
end
end Go.Proofs.Yticmdpcahpimhaa
