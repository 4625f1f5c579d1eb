/- Contracts of the functions that SJorZ comes to. -/
import Derived.Test.YticmdpcahpimhaaSMarks2
set_option maxRecDepth 100000
set_option maxHeartbeats 1000000
set_option linter.unusedVariables false
set_option linter.unusedSectionVars false
set_option linter.unusedSimpArgs false
namespace Go.Proofs.Yticmdpcahpimhaa
open Go.Rx Go.RowKit Go.Comp
attribute [local irreducible] E idxN cellAt cellsAt storeAt callable helems hmoved lookIn findKey keyOk hentries Hp.at Hp.set Hp.lay arBits hupdated setAt CallP YieldP BoolOf IsWrap Rnd LoopP AppP CutP Int.tmod Int.tdiv Int.fdiv
section
variable [Unknowns]
attribute [local irreducible] ResP sameAt natI tv
theorem refsize_spec' (s : Nat) (hs : s < 1024) (v : Value) (e : v = int s) (h : Hp) : CallP E 74 [v] h (fun r h' => r = int (pop s) ∧ h' = h) := by
  subst e
  exact refsize_spec s hs h
theorem refmarks_spec (n : Nat) (hn : n ≤ 10) (P : List (Int × Int)) (hP : EdgesOk n P) (hPl : P.length ≤ 1000) (l : List Int) (ev v : Value) (h : Hp) (he : PairsV h ev P) (hv : Ints h v l) (hl : l.length ≤ 1000000) : CallP E 48 [int n, ev, v] h (fun r h' => (∃ b, r = .bool b ∧ BoolOf b (MOk P n l)) ∧ Grows h h') := by
  obtain ⟨av, cp, rfl, hcell⟩ := id hv
  obtain ⟨ae, ce, rfl, hec⟩ := id he
  have hpn : 2 ^ n ≤ 1024 := Nat.pow_le_pow_right (n := 2) (by omega) hn
  refine enter48 (by simp) ?_
  conv => whnf
  refine SeqP.go ?_
  conv => whnf
  refine SeqP.cut (α := Unit) (fun _ => [(0, int n), (1, .slice ae P.length ce), (2, .slice av l.length cp)]) (fun _ H => h = H ∧ l.length = n) ?_ ?_
  · conv => whnf
    repeat (refine SeqP.go ?_; conv => whnf)
    refine cmpB (fun c1 => ?_) (fun c1 => ?_)
    · conv => whnf
      repeat (refine SeqP.go ?_; conv => whnf)
      exact ⟨⟨false, rfl, bo_no fun hm => by have := hm.1; omega⟩, Grows.refl _⟩
    · conv => whnf
      repeat (refine SeqP.go ?_; conv => whnf)
      exact ⟨(), ⟨rfl, rfl, rfl, trivial⟩, ⟨rfl, by omega⟩, rfl⟩
  rintro _ φ0 _ ⟨rfl, hln⟩
  conv => whnf
  refine SeqP.cut (α := Unit) (fun _ => [(0, int n), (1, .slice ae P.length ce), (2, .slice av l.length cp)]) (fun _ H => h = H ∧ ∀ x ∈ l, 0 ≤ x ∧ x ≤ 10) ?_ ?_
  · conv => whnf
    repeat (refine SeqP.go ?_; conv => whnf)
    refine loop_inv (α := Nat) (fun i => [(7, int i), (0, int n), (1, .slice ae P.length ce), (2, .slice av l.length cp)]) (fun _ => h) (fun i => i ≤ n ∧ ∀ x ∈ l.take i, 0 ≤ x ∧ x ≤ 10) (fun i => n - i) 0 ⟨Nat.zero_le _, by simp⟩ ⟨rfl, rfl, rfl, rfl, trivial⟩ (Hp.Le.refl _) ?_
    rintro i φ ⟨hi, hall⟩
    conv => whnf
    repeat (refine SeqP.go ?_; conv => whnf)
    refine cmpB (fun hb1 => ?_) (fun hb1 => ?_)
    rotate_left
    · have : i = l.length := by omega
      subst this
      rw [List.take_of_length_le (Nat.le_refl _)] at hall
      conv => whnf
      repeat (refine SeqP.go ?_; conv => whnf)
      exact ⟨(), ⟨rfl, rfl, rfl, trivial⟩, ⟨rfl, hall⟩, rfl⟩
    have hil : i < l.length := by omega
    have hc := hcell i hil
    obtain ⟨r, o, sp, ea, hsp, hci⟩ := hc
    subst ea
    have hci2 : cellAt h r (offAt o i 1) = some (int l[i]) := by rw [offAt_eq, Nat.add_comm]; simpa using hci
    have bad : ¬ (0 ≤ l[i] ∧ l[i] ≤ 10) → ¬ MOk P n l := fun hno hm => hno (hm.2 _ (List.getElem_mem hil)).1
    conv => whnf
    repeat (refine SeqP.go ?_; conv => whnf)
    refine ⟨hsp, ⟨by omega, by omega⟩, ?_⟩
    conv => whnf
    refine ⟨int l[i], hci2, ?_⟩
    conv => whnf
    refine cmpB (fun c1 => ?_) (fun c1 => ?_)
    · conv => whnf
      repeat (refine SeqP.go ?_; conv => whnf)
      exact ⟨⟨false, rfl, bo_no (bad fun hm => by omega)⟩, Grows.refl _⟩
    conv => whnf
    refine ⟨hsp, ⟨by omega, by omega⟩, ?_⟩
    conv => whnf
    refine ⟨int l[i], hci2, ?_⟩
    conv => whnf
    refine cmpB (fun c2 => ?_) (fun c2 => ?_)
    · conv => whnf
      repeat (refine SeqP.go ?_; conv => whnf)
      exact ⟨⟨false, rfl, bo_no (bad fun hm => by omega)⟩, Grows.refl _⟩
    conv => whnf
    repeat (refine SeqP.go ?_; conv => whnf)
    refine ⟨((i + 1 : Nat) : Int), wie (by omega) (by omega), ?_⟩
    conv => whnf
    refine Rnd.mk (i + 1) ⟨by show i + 1 ≤ n; omega, fun x hx => ?_⟩ (by show n - (i + 1) < n - i; omega) ⟨rfl, rfl, rfl, rfl, trivial⟩ (Hp.Le.refl _) rfl
    rw [List.take_succ_eq_append_getElem hil] at hx
    rcases List.mem_append.1 hx with h1 | h1
    · exact hall x h1
    · rw [List.mem_singleton.1 h1]; omega
  rintro _ φ1 _ ⟨rfl, hrange⟩
  conv => whnf
  refine SeqP.cut (α := Unit) (fun _ => []) (fun _ H => MOk P n l ∧ Grows h H) ?_ ?_
  rotate_left
  · rintro _ φ9 H9 ⟨hm, hg⟩
    conv => whnf
    repeat (refine SeqP.go ?_; conv => whnf)
    exact ⟨⟨true, rfl, bo_yes hm⟩, hg⟩
  conv => whnf
  repeat (refine SeqP.go ?_; conv => whnf)
  refine loop_inv (α := Nat × Hp) (fun s => [(8, int s.1), (0, int n), (1, .slice ae P.length ce), (2, .slice av l.length cp)]) (fun s => s.2) (fun s => s.1 ≤ 11 ∧ (∀ m : Nat, m < s.1 → VOk P l m) ∧ Grows h s.2) (fun s => 11 - s.1) (0, h) ⟨Nat.zero_le _, fun m hm => absurd hm (Nat.not_lt_zero _), Grows.refl _⟩ ⟨rfl, rfl, rfl, rfl, trivial⟩ (Hp.Le.refl _) ?_
  rintro ⟨m, H⟩ φ ⟨hm, hall, hg⟩
  dsimp only at hm hall hg ⊢
  conv => whnf
  repeat (refine SeqP.go ?_; conv => whnf)
  refine cmpB (fun hb1 => ?_) (fun hb1 => ?_)
  rotate_left
  · have : m = 11 := by omega
    subst this
    conv => whnf
    repeat (refine SeqP.go ?_; conv => whnf)
    refine ⟨(), trivial, ⟨MOk.iff.2 ⟨hln, hrange, fun v h1 h2 => ?_⟩, hg⟩, rfl⟩
    have hv : ∃ k : Nat, v = (k : Int) := ⟨v.toNat, by omega⟩
    obtain ⟨k, rfl⟩ := hv
    exact hall k (by omega)
  have hget : ∀ k, (hk : k < l.length) → ∃ r o sp, av = some ⟨r, o, sp⟩ ∧ voidSp sp = false ∧ cellAt H r (offAt o k 1) = some (int l[k]) := by
    intro k hk
    obtain ⟨r, o, sp, e, hsp, hc⟩ := hcell k hk
    exact ⟨r, o, sp, e, hsp, hg.cell (by rw [offAt_eq, Nat.add_comm]; simpa using hc)⟩
  conv => whnf
  refine SeqP.cut (α := Hp) (fun _ => [(8, int m), (0, int n), (1, .slice ae P.length ce), (2, .slice av l.length cp)]) (fun H1 H2 => H1 = H2 ∧ Grows H H1 ∧ VOk P l m) ?_ ?_
  rotate_left
  · rintro _ φ2 H1 ⟨rfl, hgH, hvm⟩
    conv => whnf
    refine ⟨((m + 1 : Nat) : Int), wie (by omega) (by omega), ?_⟩
    conv => whnf
    refine Rnd.mk (m + 1, _) ⟨by show m + 1 ≤ 11; omega, fun k hk => ?_, hg.trans hgH⟩ (by show 11 - (m + 1) < 11 - m; omega) ⟨rfl, rfl, rfl, rfl, trivial⟩ (Hp.Le.refl _) rfl
    by_cases e : k = m
    · subst e; exact hvm
    · exact hall k (by have hk : k < m + 1 := hk; omega)
  conv => whnf
  refine SeqP.go ?_
  conv => whnf
  refine SeqP.cut (α := Unit) (fun _ => [(9, int (msk (upF l m) l.length : Nat)), (10, int (msk (saF l m) l.length : Nat)), (8, int m), (0, int n), (1, .slice ae P.length ce), (2, .slice av l.length cp)]) (fun _ H' => H = H') ?_ ?_
  · conv => whnf
    repeat (refine SeqP.go ?_; conv => whnf)
    refine loop_inv (α := Nat) (fun k => [(11, int k), (9, int (msk (upF l m) k : Nat)), (10, int (msk (saF l m) k : Nat)), (8, int m), (0, int n), (1, .slice ae P.length ce), (2, .slice av l.length cp)]) (fun _ => H) (fun k => k ≤ n) (fun k => n - k) 0 (Nat.zero_le _) ⟨rfl, rfl, rfl, rfl, rfl, rfl, rfl, trivial⟩ (Hp.Le.refl _) ?_
    rintro k φ3 hk
    conv => whnf
    repeat (refine SeqP.go ?_; conv => whnf)
    refine cmpB (fun hb2 => ?_) (fun hb2 => ?_)
    rotate_left
    · have : k = l.length := by omega
      subst this
      conv => whnf
      repeat (refine SeqP.go ?_; conv => whnf)
      exact ⟨(), ⟨rfl, rfl, rfl, rfl, rfl, rfl, trivial⟩, rfl, rfl⟩
    have hkl : k < l.length := by omega
    have hk10 : 2 ^ k ≤ 2 ^ 10 := Nat.pow_le_pow_right (by omega) (by omega)
    have hs1 := msk_lt (saF l m) k
    have hs2 := msk_lt (upF l m) k
    have o1 := bits_or (a := msk (saF l m) k) (b := 2 ^ k) (by omega) (by omega)
    have o2 := bits_or (a := msk (upF l m) k) (b := 2 ^ k) (by omega) (by omega)
    have hgk := hget k hkl
    obtain ⟨r, o, sp, ea, hsp, hck⟩ := hgk
    subst ea
    conv => whnf
    refine SeqP.cut (α := Unit) (fun _ => [(11, int k), (9, int (msk (upF l m) (k + 1) : Nat)), (10, int (msk (saF l m) (k + 1) : Nat)), (8, int m), (0, int n), (1, .slice ae P.length ce), (2, .slice (some ⟨r, o, sp⟩) l.length cp)]) (fun _ H' => H = H') ?_ ?_
    rotate_left
    · rintro _ φ4 _ rfl
      conv => whnf
      refine ⟨((k + 1 : Nat) : Int), wie (by omega) (by omega), ?_⟩
      conv => whnf
      exact Rnd.mk (k + 1) (by show k + 1 ≤ n; omega) (by show n - (k + 1) < n - k; omega) ⟨rfl, rfl, rfl, rfl, rfl, rfl, rfl, trivial⟩ (Hp.Le.refl _) rfl
    conv => whnf
    refine SeqP.cut (α := Unit) (fun _ => [(11, int k), (9, int (msk (upF l m) (k + 1) : Nat)), (10, int (msk (saF l m) k : Nat)), (8, int m), (0, int n), (1, .slice ae P.length ce), (2, .slice (some ⟨r, o, sp⟩) l.length cp)]) (fun _ H' => H = H') ?_ ?_
    · conv => whnf
      repeat (refine SeqP.go ?_; conv => whnf)
      refine ⟨hsp, ⟨by omega, by omega⟩, ?_⟩
      conv => whnf
      refine ⟨int l[k], hck, ?_⟩
      conv => whnf
      refine cmpB (fun c1 => ?_) (fun c1 => ?_)
      · have e1 : msk (upF l m) (k + 1) = msk (upF l m) k ||| 2 ^ k := by
          show (if upF l m k = true then _ else _) = _
          rw [if_pos (by unfold upF; rw [getD_at2 hkl]; exact decide_eq_true c1)]
        conv => whnf
        repeat (refine SeqP.go ?_; conv => whnf)
        refine ⟨by omega, ((2 ^ k : Nat) : Int), shl_one (by omega), ?_⟩
        conv => whnf
        exact ⟨(), ⟨rfl, congrArg int (by rw [e1]; exact o2), rfl, rfl, rfl, rfl, rfl, trivial⟩, rfl, rfl⟩
      · have e1 : msk (upF l m) (k + 1) = msk (upF l m) k := by
          show (if upF l m k = true then _ else _) = _
          rw [if_neg (by unfold upF; rw [getD_at2 hkl]; simpa using c1)]
        conv => whnf
        repeat (refine SeqP.go ?_; conv => whnf)
        exact ⟨(), ⟨rfl, congrArg int (by rw [e1]), rfl, rfl, rfl, rfl, rfl, trivial⟩, rfl, rfl⟩
    rintro _ φ5 _ rfl
    conv => whnf
    repeat (refine SeqP.go ?_; conv => whnf)
    refine ⟨hsp, ⟨by omega, by omega⟩, ?_⟩
    conv => whnf
    refine ⟨int l[k], hck, ?_⟩
    conv => whnf
    refine cmpB (fun c1 => ?_) (fun c1 => ?_)
    · have e1 : msk (saF l m) (k + 1) = msk (saF l m) k ||| 2 ^ k := by
        show (if saF l m k = true then _ else _) = _
        rw [if_pos (by unfold saF; rw [getD_at2 hkl]; exact decide_eq_true c1)]
      conv => whnf
      repeat (refine SeqP.go ?_; conv => whnf)
      refine ⟨by omega, ((2 ^ k : Nat) : Int), shl_one (by omega), ?_⟩
      conv => whnf
      exact ⟨(), ⟨rfl, rfl, congrArg int (by rw [e1]; exact o1), rfl, rfl, rfl, rfl, trivial⟩, rfl, rfl⟩
    · have e1 : msk (saF l m) (k + 1) = msk (saF l m) k := by
        show (if saF l m k = true then _ else _) = _
        rw [if_neg (by unfold saF; rw [getD_at2 hkl]; simpa using c1)]
      conv => whnf
      repeat (refine SeqP.go ?_; conv => whnf)
      exact ⟨(), ⟨rfl, rfl, congrArg int (by rw [e1]), rfl, rfl, rfl, rfl, trivial⟩, rfl, rfl⟩
  rintro _ φ6 _ rfl
  have hup1 : msk (upF l m) l.length < 2 ^ n := by have := msk_lt (upF l m) l.length; rw [hln] at this ⊢; exact this
  have hsa1 : msk (saF l m) l.length < 1024 := by have := msk_lt (saF l m) l.length; rw [hln] at this ⊢; omega
  conv => whnf
  refine SeqP.go ?_
  conv => whnf
  refine CallP.mono (refparts_spec n (by omega) P hP hPl (msk (upF l m) l.length) hup1 _ H (he.ext hg)) ?_
  rintro w H1 ⟨L, hL, hbL, hgL⟩
  have hwk := hbL.ints
  obtain ⟨aw, cw, rfl, hcw⟩ := hwk
  have hLl : (natI L).length = L.length := by unfold natI; rw [List.length_map]
  have hLle := parts_le hL
  have hLn := parts_len hL
  conv => whnf
  repeat (refine SeqP.go ?_; conv => whnf)
  refine loop_inv (α := Nat) (fun j => [(13, int j), (12, .slice aw (natI L).length cw), (10, int (msk (saF l m) l.length : Nat)), (8, int m), (0, int n), (1, .slice ae P.length ce), (2, .slice av l.length cp)]) (fun _ => H1) (fun j => j ≤ L.length ∧ ∀ x ∈ L.take j, pop (x &&& msk (saF l m) l.length) ≤ 1) (fun j => L.length - j) 0 ⟨Nat.zero_le _, by simp⟩ ⟨rfl, rfl, rfl, rfl, rfl, rfl, rfl, trivial⟩ (Hp.Le.refl _) ?_
  rintro j φ7 ⟨hj, hjall⟩
  conv => whnf
  repeat (refine SeqP.go ?_; conv => whnf)
  refine cmpB (fun hb2 => ?_) (fun hb2 => ?_)
  rotate_left
  · have : j = L.length := by omega
    subst this
    rw [List.take_of_length_le (Nat.le_refl _)] at hjall
    conv => whnf
    repeat (refine SeqP.go ?_; conv => whnf)
    exact ⟨H1, ⟨rfl, rfl, rfl, rfl, trivial⟩, ⟨rfl, hgL, fun L' hL' x hx => by rw [hL'.uniq hL] at hx; exact hjall x hx⟩, rfl⟩
  have hjL : j < L.length := by omega
  have hc := hcw j (by omega)
  obtain ⟨r2, o2, sp2, ea2, hsp2, hc2⟩ := hc
  subst ea2
  have eLj : (natI L)[j]'(by omega) = (L[j] : Int) := by unfold natI; rw [List.getElem_map]
  rw [eLj] at hc2
  have hxle := hLle _ (List.getElem_mem hjL)
  have eand := bits_and (a := L[j]) (b := msk (saF l m) l.length) (by omega) (by omega)
  have hand : L[j] &&& msk (saF l m) l.length < 1024 := Nat.lt_of_le_of_lt Nat.and_le_right hsa1
  conv => whnf
  repeat (refine SeqP.go ?_; conv => whnf)
  refine ⟨hsp2, ⟨by omega, by omega⟩, ?_⟩
  conv => whnf
  refine ⟨int L[j], by rw [offAt_eq, Nat.add_comm]; simpa using hc2, ?_⟩
  conv => whnf
  refine CallP.mono (refsize_spec' (L[j] &&& msk (saF l m) l.length) hand _ (congrArg int eand) H1) ?_
  rintro r3 _ ⟨rfl, rfl⟩
  conv => whnf
  refine cmpB (fun c1 => ?_) (fun c1 => ?_)
  · conv => whnf
    repeat (refine SeqP.go ?_; conv => whnf)
    exact ⟨⟨false, rfl, bo_no fun hm => by have := (MOk.iff.1 hm).2.2 m (by omega) (by omega) L hL _ (List.getElem_mem hjL); omega⟩, hg.trans hgL⟩
  · conv => whnf
    repeat (refine SeqP.go ?_; conv => whnf)
    refine ⟨((j + 1 : Nat) : Int), wie (by omega) (by omega), ?_⟩
    conv => whnf
    refine Rnd.mk (j + 1) ⟨by show j + 1 ≤ _; omega, fun x hx => ?_⟩ (by show _ - (j + 1) < _ - j; omega) ⟨rfl, rfl, rfl, rfl, rfl, rfl, rfl, trivial⟩ (Hp.Le.refl _) rfl
    rw [List.take_succ_eq_append_getElem hjL] at hx
    rcases List.mem_append.1 hx with h1 | h1
    · exact hjall x h1
    · rw [List.mem_singleton.1 h1]; omega
end
end Go.Proofs.Yticmdpcahpimhaa
