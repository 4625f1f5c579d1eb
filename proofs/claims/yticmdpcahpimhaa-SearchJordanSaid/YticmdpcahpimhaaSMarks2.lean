/- Contracts of the functions that SJorZ comes to. -/
import Derived.Test.YticmdpcahpimhaaSMarks1
set_option maxRecDepth 100000
set_option maxHeartbeats 1000000
set_option linter.unusedVariables false
set_option linter.unusedSectionVars false
set_option linter.unusedSimpArgs false
namespace Go.Proofs.Yticmdpcahpimhaa
open Go.Rx Go.RowKit Go.Comp
theorem parts_len {A : Rel} {s : Nat} {l : List Nat} (h : IsParts A s l) : l.length ≤ s := by
  induction h with
  | nil => exact Nat.le_refl _
  | @cons s v p l hv hm hp hl ih =>
    have h1 : less s p ≤ s := sub_le fun u hu => by rw [less_bit] at hu; exact (Bool.and_eq_true _ _ ▸ hu).1
    have h2 : less s p ≠ s := fun e => by
      have h3 : (less s p).testBit v = true := by rw [e]; exact hv
      rw [less_bit, (hp v).2 (.refl hv)] at h3
      simp at h3
    rw [List.length_cons]
    omega
theorem bo_yes {p : Prop} (h : p) : BoolOf true p := ⟨fun _ => h, fun _ => rfl⟩
theorem bo_no {p : Prop} (h : ¬ p) : BoolOf false p := ⟨fun e => (by cases e), fun hp => absurd hp h⟩
theorem bo_congr {b : Bool} {p q : Prop} (h : BoolOf b p) (e : p ↔ q) : BoolOf b q := Iff.trans h e
theorem getD_at2 {l : List Int} {k : Nat} (h : k < l.length) : l.getD k 0 = l[k] := by
  rw [List.getD_eq_getElem?_getD, List.getElem?_eq_getElem h]; rfl
theorem AllOk.succ {P : List (Int × Int)} {l : List Int} {i : Nat} (hi : i < l.length) (h : ∀ x ∈ l.take i, (0 ≤ x ∧ x ≤ 10) ∧ VOk P l x) (h2 : (0 ≤ l[i] ∧ l[i] ≤ 10) ∧ VOk P l l[i]) : ∀ x ∈ l.take (i + 1), (0 ≤ x ∧ x ≤ 10) ∧ VOk P l x := by
  intro x hx
  rw [List.take_succ_eq_append_getElem hi] at hx
  rcases List.mem_append.1 hx with h1 | h1
  · exact h x h1
  · rw [List.mem_singleton.1 h1]; exact h2
attribute [local irreducible] E idxN cellAt cellsAt storeAt callable helems hmoved lookIn findKey keyOk hentries Hp.at Hp.set Hp.lay arBits hupdated setAt CallP YieldP BoolOf IsWrap Rnd LoopP AppP CutP Int.tmod Int.tdiv Int.fdiv
section
variable [Unknowns]
attribute [local irreducible] ResP sameAt natI tv
theorem size_spec' (s : Nat) (hs : s < 1024) (v : Value) (e : v = int s) (h : Hp) : CallP E 91 [v] h (fun r h' => r = int (pop s) ∧ h' = h) := by
  subst e
  exact size_spec s hs h
theorem aremarks_spec {n : Nat} {P : List (Int × Int)} {near : Nat → Nat} (hT : TreeOk n P near) (l : List Int) (v : Value) (h : Hp) (hv : Ints h v l) (hl : l.length ≤ 1000000) : CallP E 72 [.agg ⟨tv n near⟩, v] h (fun r h' => (∃ b, r = .bool b ∧ BoolOf b (MOk P n l)) ∧ Grows h h') := by
  obtain ⟨av, cp, rfl, hcell⟩ := id hv
  have hn := hT.n1
  have ht0 : (tv n near)[0]? = some (int n) := by unfold tv; rfl
  refine enter72 (by simp) ?_
  conv => whnf
  refine SeqP.go ?_
  conv => whnf
  refine SeqP.go ?_
  conv => whnf
  refine SeqP.go ?_
  conv => whnf
  refine ⟨int n, cellAt_row (Hp.at_lay_self _ _) ht0, ?_⟩
  conv => whnf
  refine cmpB (fun hlen => ?_) (fun hlen => ?_)
  · conv => whnf
    repeat (refine SeqP.go ?_; conv => whnf)
    exact ⟨⟨false, rfl, bo_no fun hm => by have := hm.1; omega⟩, Grows.lay _ _⟩
  have hln : l.length = n := by omega
  have hbx : (h.lay (.row 102 true (tv n near))).at h.next = some (.row 102 true (tv n near)) := Hp.at_lay_self _ _
  have hg0 : Grows h (h.lay (.row 102 true (tv n near))) := Grows.lay _ _
  have hpn : 2 ^ n ≤ 1024 := Nat.pow_le_pow_right (n := 2) (by omega) hn
  conv => whnf
  refine SeqP.go ?_
  conv => whnf
  refine SeqP.go ?_
  conv => whnf
  refine SeqP.cut (α := Bool) (fun b => [(5, .bool b)]) (fun b H => BoolOf b (AllOk P l) ∧ Grows h H) ?_ ?_
  rotate_left
  · rintro b φ9 H9 ⟨hb, hg⟩
    conv => whnf
    repeat (refine SeqP.go ?_; conv => whnf)
    exact ⟨⟨b, rfl, bo_congr hb ⟨fun ho => ⟨hln, ho⟩, fun hm => hm.2⟩⟩, hg⟩
  conv => whnf
  repeat (refine SeqP.go ?_; conv => whnf)
  refine loop_inv (α := Nat × Hp) (fun s => [(21, int s.1), (20, int l.length), (19, .slice av l.length cp), (5, .bool true), (2, ptr0 h.next), (1, .slice av l.length cp)]) (fun s => s.2) (fun s => s.1 ≤ l.length ∧ (∀ x ∈ l.take s.1, (0 ≤ x ∧ x ≤ 10) ∧ VOk P l x) ∧ Grows (h.lay (.row 102 true (tv n near))) s.2) (fun s => l.length - s.1) (0, _) ⟨Nat.zero_le _, by simp, Grows.refl _⟩ ⟨rfl, rfl, rfl, rfl, rfl, rfl, trivial⟩ (Hp.Le.refl _) ?_
  rintro ⟨i, H⟩ φ ⟨hi, hall, hg⟩
  dsimp only at hi hall hg ⊢
  conv => whnf
  repeat (refine SeqP.go ?_; conv => whnf)
  refine cmpB (fun hb1 => ?_) (fun hb1 => ?_)
  rotate_left
  · have : i = l.length := by omega
    subst this
    rw [List.take_of_length_le (Nat.le_refl _)] at hall
    conv => whnf
    repeat (refine SeqP.go ?_; conv => whnf)
    exact ⟨true, ⟨rfl, trivial⟩, ⟨bo_yes hall, hg0.trans hg⟩, rfl⟩
  have hil : i < l.length := by omega
  have hexm : ∃ m, l[i] = m := ⟨_, rfl⟩
  obtain ⟨m, em⟩ := hexm
  have hml : m ∈ l := by rw [← em]; exact List.getElem_mem hil
  have hget : ∀ k, (hk : k < l.length) → ∃ r o sp, av = some ⟨r, o, sp⟩ ∧ voidSp sp = false ∧ cellAt H r (offAt o k 1) = some (int l[k]) := by
    intro k hk
    obtain ⟨r, o, sp, e, hsp, hc⟩ := hcell k hk
    exact ⟨r, o, sp, e, hsp, hg.cell (hg0.cell (by rw [offAt_eq, Nat.add_comm]; simpa using hc))⟩
  have hgi := hget i hil
  obtain ⟨r, o, sp, ea, hsp, hci⟩ := hgi
  subst ea
  have hget2 : ∀ k, (hk : k < l.length) → cellAt H r (offAt o k 1) = some (int l[k]) := by
    intro k hk
    obtain ⟨r', o', sp', e, _, hc⟩ := hget k hk
    cases e
    exact hc
  rw [em] at hci
  conv => whnf
  refine SeqP.go ?_
  conv => whnf
  refine SeqP.cut (α := Hp) (fun _ => [(21, int i), (20, int l.length), (19, .slice (some ⟨r, o, sp⟩) l.length cp), (5, .bool true), (2, ptr0 h.next), (1, .slice (some ⟨r, o, sp⟩) l.length cp)]) (fun H1 H2 => H1 = H2 ∧ Grows H H1 ∧ (0 ≤ m ∧ m ≤ 10) ∧ VOk P l m) ?_ ?_
  rotate_left
  · rintro _ φ1 H1 ⟨rfl, hgH, hm1, hm2⟩
    conv => whnf
    refine ⟨((i + 1 : Nat) : Int), wie (by omega) (by omega), ?_⟩
    conv => whnf
    exact Rnd.mk (i + 1, _) ⟨by show i + 1 ≤ _; omega, AllOk.succ hil hall (by rw [em]; exact ⟨hm1, hm2⟩), hg.trans hgH⟩ (by show _ - (i + 1) < _ - i; omega) ⟨rfl, rfl, rfl, rfl, rfl, rfl, trivial⟩ (Hp.Le.refl _) rfl
  conv => whnf
  refine SeqP.go ?_
  conv => whnf
  refine ⟨hsp, ⟨by omega, by omega⟩, ?_⟩
  conv => whnf
  refine ⟨int m, hci, ?_⟩
  conv => whnf
  have bad : ¬ ((0 ≤ m ∧ m ≤ 10) ∧ VOk P l m) → ¬ AllOk P l := fun hno ha => hno (ha m hml)
  refine SeqP.cut (α := Unit) (fun _ => [(7, int m), (21, int i), (20, int l.length), (19, .slice (some ⟨r, o, sp⟩) l.length cp), (5, .bool true), (2, ptr0 h.next), (1, .slice (some ⟨r, o, sp⟩) l.length cp)]) (fun _ H' => H = H' ∧ 0 ≤ m ∧ m ≤ 10) ?_ ?_
  · conv => whnf
    repeat (refine SeqP.go ?_; conv => whnf)
    refine cmpB (fun c1 => ?_) (fun c1 => ?_)
    · conv => whnf
      repeat (refine SeqP.go ?_; conv => whnf)
      exact ⟨false, ⟨rfl, trivial⟩, ⟨bo_no (bad fun h => by have := h.1; omega), hg0.trans hg⟩, rfl⟩
    conv => whnf
    refine cmpB (fun c2 => ?_) (fun c2 => ?_)
    · conv => whnf
      repeat (refine SeqP.go ?_; conv => whnf)
      exact ⟨false, ⟨rfl, trivial⟩, ⟨bo_no (bad fun h => by have := h.1; omega), hg0.trans hg⟩, rfl⟩
    conv => whnf
    repeat (refine SeqP.go ?_; conv => whnf)
    exact ⟨(), ⟨rfl, rfl, rfl, rfl, rfl, rfl, rfl, trivial⟩, ⟨rfl, by omega, by omega⟩, rfl⟩
  rintro _ φ2 _ ⟨rfl, hm0, hm10⟩
  conv => whnf
  refine SeqP.go ?_
  conv => whnf
  refine SeqP.cut (α := Unit) (fun _ => [(8, int (msk (saF l m) l.length : Nat)), (9, int (msk (upF l m) l.length : Nat)), (7, int m), (21, int i), (20, int l.length), (19, .slice (some ⟨r, o, sp⟩) l.length cp), (5, .bool true), (2, ptr0 h.next), (1, .slice (some ⟨r, o, sp⟩) l.length cp)]) (fun _ H' => H = H') ?_ ?_
  · conv => whnf
    repeat (refine SeqP.go ?_; conv => whnf)
    refine loop_inv (α := Nat) (fun k => [(33, int k), (32, int l.length), (31, .slice (some ⟨r, o, sp⟩) l.length cp), (8, int (msk (saF l m) k : Nat)), (9, int (msk (upF l m) k : Nat)), (7, int m), (21, int i), (20, int l.length), (19, .slice (some ⟨r, o, sp⟩) l.length cp), (5, .bool true), (2, ptr0 h.next), (1, .slice (some ⟨r, o, sp⟩) l.length cp)]) (fun _ => H) (fun k => k ≤ l.length) (fun k => l.length - k) 0 (Nat.zero_le _) ⟨rfl, rfl, rfl, rfl, rfl, rfl, rfl, rfl, rfl, rfl, rfl, rfl, trivial⟩ (Hp.Le.refl _) ?_
    rintro k φ3 hk
    conv => whnf
    repeat (refine SeqP.go ?_; conv => whnf)
    refine cmpB (fun hb2 => ?_) (fun hb2 => ?_)
    rotate_left
    · have : k = l.length := by omega
      subst this
      conv => whnf
      repeat (refine SeqP.go ?_; conv => whnf)
      exact ⟨(), ⟨rfl, rfl, rfl, rfl, rfl, rfl, rfl, rfl, rfl, trivial⟩, rfl, rfl⟩
    have hkl : k < l.length := by omega
    have hk10 : 2 ^ k ≤ 2 ^ 10 := Nat.pow_le_pow_right (by omega) (by omega)
    have hs1 := msk_lt (saF l m) k
    have hs2 := msk_lt (upF l m) k
    have o1 := bits_or (a := msk (saF l m) k) (b := 2 ^ k) (by omega) (by omega)
    have o2 := bits_or (a := msk (upF l m) k) (b := 2 ^ k) (by omega) (by omega)
    conv => whnf
    refine SeqP.go ?_
    conv => whnf
    refine SeqP.cut (α := Unit) (fun _ => [(33, int k), (32, int l.length), (31, .slice (some ⟨r, o, sp⟩) l.length cp), (8, int (msk (saF l m) (k + 1) : Nat)), (9, int (msk (upF l m) (k + 1) : Nat)), (7, int m), (21, int i), (20, int l.length), (19, .slice (some ⟨r, o, sp⟩) l.length cp), (5, .bool true), (2, ptr0 h.next), (1, .slice (some ⟨r, o, sp⟩) l.length cp)]) (fun _ H' => H = H') ?_ ?_
    rotate_left
    · rintro _ φ4 _ rfl
      conv => whnf
      refine ⟨((k + 1 : Nat) : Int), wie (by omega) (by omega), ?_⟩
      conv => whnf
      exact Rnd.mk (k + 1) (by show k + 1 ≤ _; omega) (by show _ - (k + 1) < _ - k; omega) ⟨rfl, rfl, rfl, rfl, rfl, rfl, rfl, rfl, rfl, rfl, rfl, rfl, trivial⟩ (Hp.Le.refl _) rfl
    conv => whnf
    refine SeqP.go ?_
    conv => whnf
    refine ⟨hsp, ⟨by omega, by omega⟩, ?_⟩
    conv => whnf
    refine ⟨int l[k], hget2 k hkl, ?_⟩
    conv => whnf
    refine SeqP.cut (α := Unit) (fun _ => [(10, int k), (11, int l[k]), (33, int k), (32, int l.length), (31, .slice (some ⟨r, o, sp⟩) l.length cp), (8, int (msk (saF l m) (k + 1) : Nat)), (9, int (msk (upF l m) k : Nat)), (7, int m), (21, int i), (20, int l.length), (19, .slice (some ⟨r, o, sp⟩) l.length cp), (5, .bool true), (2, ptr0 h.next), (1, .slice (some ⟨r, o, sp⟩) l.length cp)]) (fun _ H' => H = H') ?_ ?_
    · conv => whnf
      repeat (refine SeqP.go ?_; conv => whnf)
      refine cmpB (fun c1 => ?_) (fun c1 => ?_)
      · have e1 : msk (saF l m) (k + 1) = msk (saF l m) k ||| 2 ^ k := by
          show (if saF l m k = true then _ else _) = _
          rw [if_pos (by unfold saF; rw [getD_at2 hkl]; exact decide_eq_true c1)]
        conv => whnf
        repeat (refine SeqP.go ?_; conv => whnf)
        refine ⟨by omega, ((2 ^ k : Nat) : Int), shl_one (by omega), ?_⟩
        conv => whnf
        exact ⟨(), ⟨rfl, rfl, rfl, rfl, rfl, congrArg int (by rw [e1]; exact o1), rfl, rfl, rfl, rfl, rfl, rfl, rfl, rfl, trivial⟩, rfl, rfl⟩
      · have e1 : msk (saF l m) (k + 1) = msk (saF l m) k := by
          show (if saF l m k = true then _ else _) = _
          rw [if_neg (by unfold saF; rw [getD_at2 hkl]; simpa using c1)]
        conv => whnf
        repeat (refine SeqP.go ?_; conv => whnf)
        exact ⟨(), ⟨rfl, rfl, rfl, rfl, rfl, congrArg int (by rw [e1]), rfl, rfl, rfl, rfl, rfl, rfl, rfl, rfl, trivial⟩, rfl, rfl⟩
    rintro _ φ5 _ rfl
    conv => whnf
    repeat (refine SeqP.go ?_; conv => whnf)
    refine cmpB (fun c1 => ?_) (fun c1 => ?_)
    · have e1 : msk (upF l m) (k + 1) = msk (upF l m) k ||| 2 ^ k := by
        show (if upF l m k = true then _ else _) = _
        rw [if_pos (by unfold upF; rw [getD_at2 hkl]; exact decide_eq_true c1)]
      conv => whnf
      repeat (refine SeqP.go ?_; conv => whnf)
      refine ⟨by omega, ((2 ^ k : Nat) : Int), shl_one (by omega), ?_⟩
      conv => whnf
      exact ⟨(), ⟨rfl, rfl, rfl, rfl, congrArg int (by rw [e1]; exact o2), rfl, rfl, rfl, rfl, rfl, rfl, rfl, trivial⟩, rfl, rfl⟩
    · have e1 : msk (upF l m) (k + 1) = msk (upF l m) k := by
        show (if upF l m k = true then _ else _) = _
        rw [if_neg (by unfold upF; rw [getD_at2 hkl]; simpa using c1)]
      conv => whnf
      repeat (refine SeqP.go ?_; conv => whnf)
      exact ⟨(), ⟨rfl, rfl, rfl, rfl, congrArg int (by rw [e1]), rfl, rfl, rfl, rfl, rfl, rfl, rfl, trivial⟩, rfl, rfl⟩
  rintro _ φ6 _ rfl
  have hup := msk_lt (upF l m) l.length
  have hsa := msk_lt (saF l m) l.length
  rw [hln] at hup hsa
  have hup1 : msk (upF l m) l.length < 2 ^ n := by rw [hln]; exact hup
  have hsa1 : msk (saF l m) l.length < 1024 := by rw [hln]; omega
  conv => whnf
  refine SeqP.go ?_
  conv => whnf
  refine ⟨tv n near, by rw [cellsAt_row (hg.at_ _ _ hbx) (by rw [tv_length]; omega), List.drop_zero, List.take_of_length_le (by rw [tv_length]; omega)], ?_⟩
  conv => whnf
  refine CallP.mono (parts_spec hT (msk (upF l m) l.length) hup1 H) ?_
  rintro w H1 ⟨L, hL, hbL, hgL⟩
  have hwk := hbL.ints
  obtain ⟨aw, cw, rfl, hcw⟩ := hwk
  have hLl : (natI L).length = L.length := by unfold natI; rw [List.length_map]
  have hLle := parts_le hL
  have hLn := parts_len hL
  conv => whnf
  refine loop_inv (α := Nat) (fun j => [(57, int j), (56, int (natI L).length), (55, .slice aw (natI L).length cw), (8, int (msk (saF l m) l.length : Nat)), (7, int m), (21, int i), (20, int l.length), (19, .slice (some ⟨r, o, sp⟩) l.length cp), (5, .bool true), (2, ptr0 h.next), (1, .slice (some ⟨r, o, sp⟩) l.length cp)]) (fun _ => H1) (fun j => j ≤ L.length ∧ ∀ x ∈ L.take j, pop (x &&& msk (saF l m) l.length) ≤ 1) (fun j => L.length - j) 0 ⟨Nat.zero_le _, by simp⟩ ⟨rfl, rfl, rfl, rfl, rfl, rfl, rfl, rfl, rfl, rfl, rfl, trivial⟩ (Hp.Le.refl _) ?_
  rintro j φ7 ⟨hj, hjall⟩
  conv => whnf
  repeat (refine SeqP.go ?_; conv => whnf)
  refine cmpB (fun hb2 => ?_) (fun hb2 => ?_)
  rotate_left
  · have : j = L.length := by omega
    subst this
    rw [List.take_of_length_le (Nat.le_refl _)] at hjall
    conv => whnf
    repeat (refine SeqP.go ?_; conv => whnf)
    exact ⟨H1, ⟨rfl, rfl, rfl, rfl, rfl, rfl, trivial⟩, ⟨rfl, hgL, ⟨hm0, hm10⟩, fun L' hL' x hx => by rw [hL'.uniq hL] at hx; exact hjall x hx⟩, rfl⟩
  have hjL : j < L.length := by omega
  have hc := hcw j (by omega)
  obtain ⟨r2, o2, sp2, ea2, hsp2, hc2⟩ := hc
  subst ea2
  have eLj : (natI L)[j]'(by omega) = (L[j] : Int) := by unfold natI; rw [List.getElem_map]
  rw [eLj] at hc2
  have hxle := hLle _ (List.getElem_mem hjL)
  have eand := bits_and (a := L[j]) (b := msk (saF l m) l.length) (by omega) (by omega)
  have hand : L[j] &&& msk (saF l m) l.length < 1024 := Nat.lt_of_le_of_lt Nat.and_le_right hsa1
  conv => whnf
  refine SeqP.go ?_
  conv => whnf
  refine SeqP.cut (α := Unit) (fun _ => [(57, int j), (56, int (natI L).length), (55, .slice (some ⟨r2, o2, sp2⟩) (natI L).length cw), (8, int (msk (saF l m) l.length : Nat)), (7, int m), (21, int i), (20, int l.length), (19, .slice (some ⟨r, o, sp⟩) l.length cp), (5, .bool true), (2, ptr0 h.next), (1, .slice (some ⟨r, o, sp⟩) l.length cp)]) (fun _ H' => H1 = H' ∧ pop (L[j] &&& msk (saF l m) l.length) ≤ 1) ?_ ?_
  rotate_left
  · rintro _ φ8 _ ⟨rfl, hp⟩
    conv => whnf
    refine ⟨((j + 1 : Nat) : Int), wie (by omega) (by omega), ?_⟩
    conv => whnf
    refine Rnd.mk (j + 1) ⟨by show j + 1 ≤ _; omega, fun x hx => ?_⟩ (by show _ - (j + 1) < _ - j; omega) ⟨rfl, rfl, rfl, rfl, rfl, rfl, rfl, rfl, rfl, rfl, rfl, trivial⟩ (Hp.Le.refl _) rfl
    rw [List.take_succ_eq_append_getElem hjL] at hx
    rcases List.mem_append.1 hx with h1 | h1
    · exact hjall x h1
    · rw [List.mem_singleton.1 h1]; exact hp
  conv => whnf
  refine SeqP.go ?_
  conv => whnf
  refine ⟨hsp2, ⟨by omega, by omega⟩, ?_⟩
  conv => whnf
  refine ⟨int L[j], by rw [offAt_eq, Nat.add_comm]; simpa using hc2, ?_⟩
  conv => whnf
  repeat (refine SeqP.go ?_; conv => whnf)
  refine CallP.mono (size_spec' (L[j] &&& msk (saF l m) l.length) hand _ (congrArg int eand) H1) ?_
  rintro r3 _ ⟨rfl, rfl⟩
  conv => whnf
  refine cmpB (fun c1 => ?_) (fun c1 => ?_)
  · conv => whnf
    repeat (refine SeqP.go ?_; conv => whnf)
    exact ⟨false, ⟨rfl, trivial⟩, ⟨bo_no (bad fun h => by have := h.2 L hL _ (List.getElem_mem hjL); omega), hg0.trans (hg.trans hgL)⟩, rfl⟩
  · conv => whnf
    repeat (refine SeqP.go ?_; conv => whnf)
    exact ⟨(), ⟨rfl, rfl, rfl, rfl, rfl, rfl, rfl, rfl, rfl, rfl, rfl, trivial⟩, ⟨rfl, by omega⟩, rfl⟩
end
end Go.Proofs.Yticmdpcahpimhaa
