/- Contracts of the functions that SJorZ comes to. -/
import Derived.Test.YticmdpcahpimhaaSMk4M
import Derived.Test.YticmdpcahpimhaaSKb3
set_option maxRecDepth 100000
set_option maxHeartbeats 1000000
set_option linter.unusedVariables false
set_option linter.unusedSectionVars false
set_option linter.unusedSimpArgs false
namespace Go.Proofs.Yticmdpcahpimhaa
open Go.Rx Go.RowKit Go.Comp
noncomputable def midC (P : List (Int × Int)) (n v : Nat) : Int := mx ((partsOf (adj P) (less (2 ^ n - 1) (2 ^ v))).map fun p => (pop p : Int))
/-- The middle, as far as the nodes have been looked at. -/
def mS (n : Nat) (c : Nat → Int) : Nat → Int × Int
  | 0 => ((n : Int), 0)
  | k + 1 => betterOf (mS n c k) (c k, (k : Int))
theorem mS_succ (n : Nat) (c : Nat → Int) (k : Nat) : mS n c (k + 1) = betterOf (mS n c k) (c k, (k : Int)) := rfl
theorem pop_le (s : Nat) : pop s ≤ 10 := by
  unfold pop
  exact Nat.le_trans (List.length_filter_le _ _) (by simp)
structure DS (n : Nat) (near : Nat → Nat) (h : Hp) (x : Int × Int) (H : Hp) : Prop where
  gr : Grows h H
  t : H.at h.next = some (.row 102 true (tv n near))
  o : H.at (h.next + 1) = some (.row 85 true [int 0, int 0])
  b : H.at (h.next + 2) = some (.row 85 true [int x.1, int x.2])
theorem DS.ext {n : Nat} {near : Nat → Nat} {h H H' : Hp} {x : Int × Int} (k : DS n near h x H) (g : Grows H H') : DS n near h x H' := ⟨k.gr.trans g, g.at_ _ _ k.t, g.at_ _ _ k.o, g.at_ _ _ k.b⟩
theorem DS.set {n : Nat} {near : Nat → Nat} {h H : Hp} {x : Int × Int} (k : DS n near h x H) {r : Nat} (o : Rx.Obj) (hr : h.next + 3 ≤ r) : DS n near h x (H.set r o) :=
  ⟨k.gr.then_set _ (by omega), by rw [Hp.at_set_ne _ (by omega)]; exact k.t, by rw [Hp.at_set_ne _ (by omega)]; exact k.o, by rw [Hp.at_set_ne _ (by omega)]; exact k.b⟩
theorem DS.upd {n : Nat} {near : Nat → Nat} {h H : Hp} {x : Int × Int} (k : DS n near h x H) (y : Int × Int) : DS n near h y (H.set (h.next + 2) (.row 85 true [int y.1, int y.2])) :=
  ⟨k.gr.then_set _ (by omega), by rw [Hp.at_set_ne _ (by omega)]; exact k.t, by rw [Hp.at_set_ne _ (by omega)]; exact k.o, Hp.at_set_self _ (Hp.lt_of_at k.b)⟩
theorem fin_pair2 {φ : Rx.Frame} {H : Hp} {c6 : Nat} {x : Bool} {p : Int × Int} {Q : Value → Hp → Prop} (hφ : φ 2 = ptr c6 0) (hat : H.at c6 = some (.row 85 x [int p.1, int p.2])) (q : Q (pairV p) H) : finP E [.cell 2 85] ⟨φ, H, []⟩ Q := by
  obtain ⟨i, hi, hag, hsz⟩ := ty85
  refine leave_cell hφ hi hag ?_ q
  rw [hsz, cellsAt_row hat (by simp)]
  rfl
attribute [local irreducible] E idxN cellAt cellsAt storeAt callable helems hmoved lookIn findKey keyOk hentries Hp.at Hp.set Hp.lay arBits hupdated setAt CallP YieldP BoolOf IsWrap Rnd LoopP AppP CutP Int.tmod Int.tdiv Int.fdiv
section
variable [Unknowns]
attribute [local irreducible] ResP sameAt natI tv finP
theorem tmiddle_spec {n : Nat} {P : List (Int × Int)} {near : Nat → Nat} (hT : TreeOk n P near) (h : Hp) : CallP E 73 [.agg ⟨tv n near⟩] h (fun r h' => r = pairV (mS n (midC P n) n) ∧ Grows h h') := by
  have hn := hT.n1
  have hpn : 2 ^ n ≤ 2 ^ 10 := Nat.pow_le_pow_right (by omega) hn
  have hS : 2 ^ n - 1 < 2 ^ n := by have := Nat.two_pow_pos n; omega
  have ht0 : (tv n near)[0]? = some (int n) := by unfold tv; rfl
  refine enter73 (by simp) ?_
  conv => whnf
  refine SeqP.go ?_
  conv => whnf
  have a1 : ((h.lay (.row 102 true (tv n near))).lay (.row 85 true [int 0, int 0])).at h.next = some (.row 102 true (tv n near)) := Hp.at_lay_old _ (Hp.at_lay_self _ _)
  refine SeqP.cut (α := Unit) (fun _ => [(3, ptr (h.next + 2) 0), (2, ptr (h.next + 1) 0), (1, ptr h.next 0)]) (fun _ H => DS n near h (mS n (midC P n) 0) H) ?_ ?_
  · conv => whnf
    refine ⟨int n, cellAt_row a1 ht0, ?_⟩
    conv => whnf
    refine ⟨rfl, _, storeAt_all (vs := [int n, int 0]) rfl rfl rfl, ?_⟩
    conv => whnf
    refine ⟨(), ⟨congrArg (fun k => ptr k 0) (by simp only [Hp.next_lay]), congrArg (fun k => ptr k 0) (by simp only [Hp.next_lay]), rfl, trivial⟩, ⟨((Grows.lay _ _).then_lay _).then_lay _, Hp.at_lay_old _ a1, ?_, ?_⟩, rfl⟩
    · exact Hp.at_lay_old _ (at_nx2 (Hp.next_lay _ _) (Hp.at_lay_self _ _))
    · exact at_nx2 (by simp only [Hp.next_lay]) (Hp.at_lay_self _ _)
  rintro _ φ0 H0 hd
  conv => whnf
  refine SeqP.cut (α := Unit) (fun _ => [(3, ptr (h.next + 2) 0), (2, ptr (h.next + 1) 0)]) (fun _ H => DS n near h (mS n (midC P n) n) H) ?_ ?_
  rotate_left
  · rintro _ φ9 H9 hd9
    conv => whnf
    repeat (refine SeqP.go ?_; conv => whnf)
    refine ⟨_, two_cells2 hd9.b, ?_⟩
    conv => whnf
    refine ⟨rfl, _, storeAt_full (vs := [int (mS n (midC P n) n).1, int (mS n (midC P n) n).2]) hd9.o rfl rfl rfl, ?_⟩
    conv => whnf
    repeat (refine SeqP.go ?_; conv => whnf)
    exact fin_pair2 (p := mS n (midC P n) n) rfl (Hp.at_set_self _ (Hp.lt_of_at hd9.o)) ⟨rfl, hd9.gr.then_set _ (by omega)⟩
  conv => whnf
  repeat (refine SeqP.go ?_; conv => whnf)
  refine ⟨int n, cellAt_row hd.t ht0, ?_⟩
  conv => whnf
  refine loop_inv (α := Nat × Hp) (fun s => [(13, int s.1), (12, int n), (3, ptr (h.next + 2) 0), (2, ptr (h.next + 1) 0), (1, ptr h.next 0)]) (fun s => s.2) (fun s => s.1 ≤ n ∧ DS n near h (mS n (midC P n) s.1) s.2) (fun s => n - s.1) (0, H0) ⟨Nat.zero_le _, hd⟩ ⟨rfl, rfl, rfl, rfl, rfl, trivial⟩ (Hp.Le.refl _) ?_
  clear hd
  rintro ⟨k, H⟩ φ ⟨hkn, hd⟩
  dsimp only at hkn hd ⊢
  conv => whnf
  repeat (refine SeqP.go ?_; conv => whnf)
  refine cmpB (fun hb1 => ?_) (fun hb1 => ?_)
  rotate_left
  · have : k = n := by omega
    subst this
    conv => whnf
    repeat (refine SeqP.go ?_; conv => whnf)
    exact ⟨(), ⟨rfl, rfl, trivial⟩, hd, rfl⟩
  have hkl : k < n := by omega
  have e0 := mS_succ n (midC P n) k
  have hexx : ∃ x, mS n (midC P n) k = x := ⟨_, rfl⟩
  obtain ⟨x, ex⟩ := hexx
  rw [ex] at e0 hd
  have hlt := Hp.lt_of_at hd.b
  have hc0 : (H.lay (.row 85 true [int 0, int k])).at H.next = some (.row 85 true [int 0, int k]) := Hp.at_lay_self _ _
  have hgc : Grows H (H.lay (.row 85 true [int 0, int k])) := Grows.lay _ _
  have hdc := hd.ext hgc
  conv => whnf
  refine SeqP.go ?_
  conv => whnf
  refine SeqP.cut (α := Hp) (fun _ => [(13, int k), (12, int n), (3, ptr (h.next + 2) 0), (2, ptr (h.next + 1) 0), (1, ptr h.next 0)]) (fun H1 H2 => H1 = H2 ∧ DS n near h (mS n (midC P n) (k + 1)) H1) ?_ ?_
  rotate_left
  · rintro H1 φ1 _ ⟨rfl, hk1⟩
    conv => whnf
    refine ⟨((k + 1 : Nat) : Int), wie (by omega) (by omega), ?_⟩
    conv => whnf
    exact Rnd.mk (k + 1, _) ⟨by show k + 1 ≤ n; omega, hk1⟩ (by show n - (k + 1) < n - k; omega) ⟨rfl, rfl, rfl, rfl, rfl, trivial⟩ (Hp.Le.refl _) rfl
  conv => whnf
  refine SeqP.go ?_
  conv => whnf
  refine SeqP.go ?_
  conv => whnf
  refine ⟨rfl, _, storeAt_all (vs := [int 0, int k]) rfl rfl rfl, ?_⟩
  conv => whnf
  refine SeqP.cut (α := Hp) (fun _ => [(5, ptr H.next 0), (13, int k), (12, int n), (3, ptr (h.next + 2) 0), (2, ptr (h.next + 1) 0), (1, ptr h.next 0)]) (fun H1 H2 => H1 = H2 ∧ DS n near h x H1 ∧ H1.at H.next = some (.row 85 true [int (midC P n k), int k])) ?_ ?_
  · conv => whnf
    refine SeqP.go ?_
    conv => whnf
    have okl : ∀ H', Grows (H.lay (.row 85 true [int 0, int k])) H' → hval H' (aggOf (cellsAt H' h.next 0 11)) = .val (.agg ⟨tv n near⟩) H' := fun H' g => by
      rw [cellsAt_row (g.at_ _ _ hdc.t) (by rw [tv_length]; omega), List.drop_zero, List.take_of_length_le (by rw [tv_length]; omega)]
      rfl
    refine ⟨tv n near, by rw [cellsAt_row hdc.t (by rw [tv_length]; omega), List.drop_zero, List.take_of_length_le (by rw [tv_length]; omega)], ?_⟩
    conv => whnf
    refine ⟨tv n near, by rw [cellsAt_row hdc.t (by rw [tv_length]; omega), List.drop_zero, List.take_of_length_le (by rw [tv_length]; omega)], ?_⟩
    conv => whnf
    refine CallP.mono (all_spec n hn near _) ?_
    rintro r H1 ⟨rfl, g1⟩
    conv => whnf
    refine CallP.mono (without_spec hT (2 ^ n - 1) k hS (by omega) _) ?_
    rintro r H2 ⟨L, hL, hbL, hgL⟩
    have g12 := g1.trans hgL
    have hpe := partsOf_eq hL
    have hLle := parts_le hL
    have hLlen : (natI L).length = L.length := by unfold natI; rw [List.length_map]
    have hlS : less (2 ^ n - 1) (2 ^ k) < 2 ^ n := less_lt hS
    have hLn : L.length ≤ less (2 ^ n - 1) (2 ^ k) := parts_len hL
    have hwk := hbL.ints
    obtain ⟨aw, cw, rfl, -⟩ := hwk
    have hd2 := hdc.ext g12
    have hc2 := g12.at_ _ _ hc0
    conv => whnf
    refine ⟨?_, ?_⟩
    · repeat' (first | exact True.intro | (refine And.intro ?_ ?_ <;> (conv => whnf)))
      all_goals first
        | exact sameAt_val (h2 := _) rfl (sameV_int _)
        | exact sameAt_val (h2 := _) (okl _ (Grows.refl _)) (sameV_tv _ _)
        | exact sameAt_val (h2 := _) (okl _ g1) (sameV_tv _ _)
        | exact sameAt_val (h2 := _) (okl _ g12) (sameV_tv _ _)
        | skip
    conv => whnf
    refine loop_inv (α := Nat × Hp) (fun s => [(24, int s.1), (23, int (natI L).length), (22, .slice aw (natI L).length cw), (5, ptr H.next 0), (13, int k), (12, int n), (3, ptr (h.next + 2) 0), (2, ptr (h.next + 1) 0), (1, ptr h.next 0)]) (fun s => s.2) (fun s => s.1 ≤ L.length ∧ DS n near h x s.2 ∧ s.2.at H.next = some (.row 85 true [int (mx ((L.take s.1).map fun p => (pop p : Int))), int k]) ∧ Built H1 s.2 3 (.slice aw (natI L).length cw) (natI L)) (fun s => L.length - s.1) (0, H2) ⟨Nat.zero_le _, hd2, hc2, hbL⟩ ⟨rfl, rfl, rfl, rfl, rfl, rfl, rfl, rfl, rfl, trivial⟩ (Hp.Le.refl _) ?_
    clear hd2 hc2 hbL
    rintro ⟨j, H3⟩ φ3 ⟨hj, hd3, hc3, hb3⟩
    dsimp only at hj hd3 hc3 hb3 ⊢
    conv => whnf
    repeat (refine SeqP.go ?_; conv => whnf)
    refine cmpB (fun hb4 => ?_) (fun hb4 => ?_)
    rotate_left
    · have : j = L.length := by omega
      subst this
      rw [List.take_of_length_le (Nat.le_refl _)] at hc3
      conv => whnf
      repeat (refine SeqP.go ?_; conv => whnf)
      exact ⟨H3, ⟨rfl, rfl, rfl, rfl, rfl, rfl, trivial⟩, ⟨rfl, hd3, by rw [hc3]; unfold midC; rw [hpe]⟩, rfl⟩
    have hjL : j < L.length := by omega
    have hbi := hb3.ints
    obtain ⟨aw', cw', ew, hcell⟩ := hbi
    cases ew
    have hc := hcell j (by omega)
    obtain ⟨r, o, sp, ea, hsp, hci⟩ := hc
    subst ea
    have eLj : (natI L)[j]'(by omega) = (L[j] : Int) := by unfold natI; rw [List.getElem_map]
    rw [eLj] at hci
    have hxle := hLle _ (List.getElem_mem hjL)
    have emx : mx ((L.take (j + 1)).map fun p => (pop p : Int)) = max (mx ((L.take j).map fun p => (pop p : Int))) (pop L[j] : Int) := by
      rw [List.take_succ_eq_append_getElem hjL, List.map_append, List.map_singleton, mx_snoc]
    have hb3n : H.next < H1.next := by have := g1.next; rw [Hp.next_lay] at this; omega
    conv => whnf
    refine SeqP.go ?_
    conv => whnf
    refine SeqP.cut (α := Hp) (fun _ => [(24, int j), (23, int (natI L).length), (22, .slice (some ⟨r, o, sp⟩) (natI L).length cw), (5, ptr H.next 0), (13, int k), (12, int n), (3, ptr (h.next + 2) 0), (2, ptr (h.next + 1) 0), (1, ptr h.next 0)]) (fun H4 H5 => H4 = H5 ∧ DS n near h x H4 ∧ H4.at H.next = some (.row 85 true [int (mx ((L.take (j + 1)).map fun p => (pop p : Int))), int k]) ∧ Built H1 H4 3 (.slice (some ⟨r, o, sp⟩) (natI L).length cw) (natI L)) ?_ ?_
    rotate_left
    · rintro H4 φ4 _ ⟨rfl, hd4, hc4, hb5⟩
      conv => whnf
      refine ⟨((j + 1 : Nat) : Int), wie (by omega) (by omega), ?_⟩
      conv => whnf
      exact Rnd.mk (j + 1, _) ⟨by show j + 1 ≤ _; omega, hd4, hc4, hb5⟩ (by show _ - (j + 1) < _ - j; omega) ⟨rfl, rfl, rfl, rfl, rfl, rfl, rfl, rfl, rfl, trivial⟩ (Hp.Le.refl _) rfl
    conv => whnf
    refine SeqP.go ?_
    conv => whnf
    refine ⟨hsp, ⟨by omega, by omega⟩, ?_⟩
    conv => whnf
    refine ⟨int L[j], by rw [offAt_eq, Nat.add_comm]; simpa using hci, ?_⟩
    conv => whnf
    refine ⟨_, cellAt_row hc3 rfl, ?_⟩
    conv => whnf
    refine CallP.mono (size_spec L[j] (by omega) _) ?_
    rintro r6 _ ⟨rfl, rfl⟩
    conv => whnf
    refine ⟨rfl, _, storeAt_row hc3 (by simp) rfl, ?_⟩
    conv => whnf
    refine ⟨?_, ?_⟩
    · repeat' (first | exact True.intro | (refine And.intro ?_ ?_ <;> (conv => whnf)))
      all_goals first
        | exact sameAt_val (h2 := _) rfl (sameV_ptr3 _ _)
        | exact sameAt_val (h2 := _) (congrArg (hval _) (cellAt_row hc3 rfl)) (sameV_int _)
        | skip
    conv => whnf
    refine ⟨_, ⟨rfl, rfl, rfl, rfl, rfl, rfl, rfl, rfl, rfl, trivial⟩, ⟨rfl, hd3.set _ (by omega), ?_, built_set_lt hb3 hb3n⟩, rfl⟩
    rw [Hp.at_set_self _ (Hp.lt_of_at hc3), emx]
    exact congrArg (fun z => some (Rx.Obj.row 85 true [z, int k])) (max_eq3 _ _)
  rintro H3 φ7 _ ⟨rfl, hd3, hc3⟩
  have hexy : ∃ y, midC P n k = y := ⟨_, rfl⟩
  obtain ⟨y, ey⟩ := hexy
  rw [ey] at e0 hc3
  conv => whnf
  refine ⟨_, two_cells2 hd3.b, ?_⟩
  conv => whnf
  refine ⟨_, two_cells2 hc3, ?_⟩
  conv => whnf
  refine CallP.mono (better_spec x (y, (k : Int)) _) ?_
  rintro r h7 ⟨rfl, g7⟩
  have hd7 := hd3.ext g7
  conv => whnf
  refine ⟨rfl, _, storeAt_full (vs := [int (betterOf x (y, (k : Int))).1, int (betterOf x (y, (k : Int))).2]) hd7.b rfl rfl rfl, ?_⟩
  conv => whnf
  exact ⟨_, ⟨rfl, rfl, rfl, rfl, rfl, trivial⟩, ⟨rfl, by rw [e0]; exact hd7.upd (betterOf x (y, (k : Int)))⟩, rfl⟩
end
end Go.Proofs.Yticmdpcahpimhaa
namespace Go.Proofs.Yticmdpcahpimhaa
open Go.Rx Go.RowKit Go.Comp
attribute [local irreducible] E idxN cellAt cellsAt storeAt callable helems hmoved lookIn findKey keyOk hentries Hp.at Hp.set Hp.lay arBits hupdated setAt CallP YieldP BoolOf IsWrap Rnd LoopP AppP CutP Int.tmod Int.tdiv Int.fdiv
section
variable [Unknowns]
attribute [local irreducible] ResP sameAt natI tv Z bestM mS
theorem Middle_spec (n : Nat) (P : List (Int × Int)) (hPl : P.length ≤ 1000) (hT : TreeP n P) (ev : Value) (h : Hp) (he : PairsV h ev P) : CallP E 44 [int n, ev] h (fun r h' => r = .tuple ⟨[int (mS n (midC P n) n).2, int (mS n (midC P n) n).1, int 0]⟩ ∧ Grows h h') := by
  have hn1 := hT.n1
  refine enter44 (by simp) ?_
  conv => whnf
  repeat (refine SeqP.go ?_; conv => whnf)
  refine CallP.mono (checked_spec n P hPl ev h he) ?_
  rintro r h1 ⟨⟨cs, e, rfl, hcl, hco, hch, hnear⟩, hg1⟩
  have e0 := hch.2.2 hT
  subst e0
  have hnr := hnear hT
  obtain ⟨near, rfl, hok⟩ := hnr
  rw [Int.toNat_natCast] at hok hcl hco
  conv => whnf
  refine ⟨hcl, _, storeAt_all hcl hco (over_all rfl hcl), ?_⟩
  conv => whnf
  repeat (refine SeqP.go ?_; conv => whnf)
  refine cmpF (by omega) ?_
  conv => whnf
  repeat (refine SeqP.go ?_; conv => whnf)
  refine ⟨tv n near, by rw [cellsAt_row (Hp.at_lay_self _ _) (by rw [Int.toNat_natCast, tv_length]; omega), List.drop_zero, List.take_of_length_le (by rw [Int.toNat_natCast, tv_length]; omega), Int.toNat_natCast], ?_⟩
  conv => whnf
  refine CallP.mono (tmiddle_spec hok _) ?_
  rintro r h2 ⟨rfl, hg2⟩
  have hg2' : Grows (h1.lay (.row 102 true (tv (n : Int).toNat near))) h2 := hg2
  conv => whnf
  refine ⟨rfl, _, storeAt_all (vs := [int (mS n (midC P n) n).1, int (mS n (midC P n) n).2]) rfl rfl rfl, ?_⟩
  conv => whnf
  repeat (refine SeqP.go ?_; conv => whnf)
  refine ⟨_, cellAt_row (Hp.at_lay_self _ _) rfl, ?_⟩
  conv => whnf
  refine ⟨_, cellAt_row (Hp.at_lay_self _ _) rfl, ?_⟩
  conv => whnf
  repeat (refine SeqP.go ?_; conv => whnf)
  exact ⟨rfl, ((hg1.then_lay _).trans hg2').then_lay _⟩
theorem Looks_spec (n : Nat) (P : List (Int × Int)) (hPl : P.length ≤ 1000) (hT : TreeP n P) (ev : Value) (h : Hp) (he : PairsV h ev P) : CallP E 41 [int n, ev] h (fun r h' => r = .tuple ⟨[int (B (adj P) n (2 ^ n - 1)).1, int 0]⟩ ∧ Grows h h') := by
  have hn1 := hT.n1
  refine enter41 (by simp) ?_
  conv => whnf
  repeat (refine SeqP.go ?_; conv => whnf)
  refine CallP.mono (checked_spec n P hPl ev h he) ?_
  rintro r h1 ⟨⟨cs, e, rfl, hcl, hco, hch, hnear⟩, hg1⟩
  have e0 := hch.2.2 hT
  subst e0
  have hnr := hnear hT
  obtain ⟨near, rfl, hok⟩ := hnr
  rw [Int.toNat_natCast] at hok hcl hco
  have hat : (h1.lay (.row 102 true (tv (n : Int).toNat near))).at h1.next = some (.row 102 true (tv n near)) := by rw [Hp.at_lay_self, Int.toNat_natCast]
  have hld : ∀ H, Grows (h1.lay (.row 102 true (tv (n : Int).toNat near))) H → cellsAt H h1.next 0 11 = some (tv n near) := fun H g => by
    rw [cellsAt_row (g.at_ _ _ hat) (by rw [tv_length]; omega), List.drop_zero, List.take_of_length_le (by rw [tv_length]; omega)]
  conv => whnf
  refine ⟨hcl, _, storeAt_all hcl hco (over_all rfl hcl), ?_⟩
  conv => whnf
  repeat (refine SeqP.go ?_; conv => whnf)
  refine cmpF (by omega) ?_
  conv => whnf
  refine SeqP.go ?_
  conv => whnf
  have okl : ∀ H', Grows (h1.lay (.row 102 true (tv (n : Int).toNat near))) H' → hval H' (aggOf (cellsAt H' h1.next 0 11)) = .val (.agg ⟨tv n near⟩) H' := fun H' g => by
    rw [hld H' g]
    rfl
  have gl0 : Grows (h1.lay (.row 102 true (tv (n : Int).toNat near))) ((h1.lay (.row 102 true (tv (n : Int).toNat near))).lay (.map [] 0)) := Grows.lay _ _
  have hK0 : KM (adj P) n ((h1.lay (.row 102 true (tv (n : Int).toNat near))).lay (.map [] 0)) (h1.lay (.row 102 true (tv (n : Int).toNat near))).next := ⟨fun _ => none, 0, MapAt.new _, fun s v e => by cases e⟩
  refine ⟨tv n near, hld _ gl0, ?_⟩
  conv => whnf
  refine ⟨tv n near, hld _ gl0, ?_⟩
  conv => whnf
  refine CallP.mono (all_spec n (by omega) near _) ?_
  rintro r h2 ⟨rfl, hg2⟩
  have hS : 2 ^ n - 1 < 2 ^ n := by have := Nat.two_pow_pos n; omega
  conv => whnf
  refine CallP.mono (best_spec hok _ (n + 1) (2 ^ n - 1) h2 (by have := cnt_le n (2 ^ n - 1); omega) hS (hK0.ext hg2)) ?_
  rintro r h3 ⟨rfl, hK3, hG3⟩
  conv => whnf
  refine ⟨?_, ?_⟩
  · repeat' (first | exact True.intro | (refine And.intro ?_ ?_ <;> (conv => whnf)))
    all_goals first
      | exact ⟨_, rfl, Hp.at_lay_self _ _⟩
      | exact ⟨_, rfl, hg2.at_ _ _ (Hp.at_lay_self _ _)⟩
      | exact sameAt_val (h2 := _) (okl _ gl0) (sameV_tv _ _)
      | exact sameAt_val (h2 := _) (okl _ (gl0.trans hg2)) (sameV_tv _ _)
  conv => whnf
  repeat (refine SeqP.go ?_; conv => whnf)
  have hg2' : Grows ((h1.lay (.row 102 true (tv (n : Int).toNat near))).lay (.map [] 0)) h2 := hg2
  have hg02 : Grows h h2 := (hg1.then_lay _).trans (gl0.trans hg2')
  have n0 := hg1.next
  refine ⟨rfl, ⟨Nat.le_trans hg02.next hG3.next, fun r o e => hG3.at_ _ _ ?_ (hg02.at_ _ _ e)⟩⟩
  have := Hp.lt_of_at e
  show r ≠ (h1.lay (.row 102 true (tv (n : Int).toNat near))).next
  rw [Hp.next_lay]
  omega
end
end Go.Proofs.Yticmdpcahpimhaa
namespace Go.Proofs.Yticmdpcahpimhaa
open Go.Rx Go.RowKit Go.Comp
theorem mS_bd (n : Nat) (c : Nat → Int) (hc : ∀ v, 0 ≤ c v ∧ c v ≤ 10) : ∀ k, 0 ≤ (mS n c k).1 ∧ (mS n c k).1 ≤ n + 10 ∧ 0 ≤ (mS n c k).2 ∧ (mS n c k).2 ≤ k
  | 0 => by show 0 ≤ (n : Int) ∧ (n : Int) ≤ n + 10 ∧ (0 : Int) ≤ 0 ∧ (0 : Int) ≤ ((0 : Nat) : Int); omega
  | k + 1 => by
    have h := mS_bd n c hc k
    have h2 := hc k
    rw [mS_succ]
    unfold betterOf
    split
    · dsimp only at *; omega
    · omega
theorem midC_bd (P : List (Int × Int)) (n v : Nat) : 0 ≤ midC P n v ∧ midC P n v ≤ 10 := mx_bd (by omega) fun x hx => by
  obtain ⟨p, _, rfl⟩ := List.mem_map.1 hx
  have := pop_le p
  omega
attribute [local irreducible] E idxN cellAt cellsAt storeAt callable helems hmoved lookIn findKey keyOk hentries Hp.at Hp.set Hp.lay arBits hupdated setAt CallP YieldP BoolOf IsWrap Rnd LoopP AppP CutP Int.tmod Int.tdiv Int.fdiv
section
variable [Unknowns]
attribute [local irreducible] ResP sameAt natI tv Z bestM mS
theorem refmiddle_spec (n : Nat) (hn : n ≤ 10) (P : List (Int × Int)) (hP : EdgesOk n P) (hPl : P.length ≤ 1000) (ev : Value) (h : Hp) (he : PairsV h ev P) : CallP E 47 [int n, ev] h (fun r h' => r = .tuple ⟨[int (mS n (midC P n) n).2, int (mS n (midC P n) n).1]⟩ ∧ Grows h h') := by
  have hpn : 2 ^ n ≤ 1024 := Nat.pow_le_pow_right (n := 2) (by omega) hn
  have hS : 2 ^ n - 1 < 2 ^ n := by have := Nat.two_pow_pos n; omega
  have hbd := mS_bd n (midC P n) (midC_bd P n)
  have e00 : mS n (midC P n) 0 = ((n : Int), 0) := by unfold mS; rfl
  refine enter47 (by simp) ?_
  conv => whnf
  repeat (refine SeqP.go ?_; conv => whnf)
  refine loop_inv (α := Nat × Int × Int × Hp) (fun s => [(8, int s.1), (6, int s.2.2.1), (7, int s.2.1), (0, int n), (1, ev)]) (fun s => s.2.2.2) (fun s => s.1 ≤ n ∧ (s.2.1, s.2.2.1) = mS n (midC P n) s.1 ∧ Grows h s.2.2.2) (fun s => n - s.1) (0, (n : Int), 0, h) ⟨Nat.zero_le _, e00.symm, .refl _⟩ ⟨rfl, rfl, rfl, rfl, rfl, trivial⟩ (Hp.Le.refl _) ?_
  rintro ⟨k, c, a, H⟩ φ ⟨hkn, hx, hg⟩
  dsimp only at hkn hx hg ⊢
  conv => whnf
  repeat (refine SeqP.go ?_; conv => whnf)
  refine cmpB (fun hb1 => ?_) (fun hb1 => ?_)
  rotate_left
  · have : k = n := by omega
    subst this
    rw [← hx]
    conv => whnf
    repeat (refine SeqP.go ?_; conv => whnf)
    exact ⟨rfl, hg⟩
  have hkl : k < n := by omega
  have hpk : 2 ^ k ≤ 1024 := Nat.le_trans (Nat.pow_le_pow_right (n := 2) (by omega) (by omega : k ≤ n)) hpn
  have e0 := mS_succ n (midC P n) k
  rw [← hx] at e0
  have hbk := hbd k
  rw [← hx] at hbk
  dsimp only at hbk
  have hm10 := midC_bd P n k
  conv => whnf
  refine SeqP.cut (α := Int × Int × Hp) (fun s => [(8, int k), (6, int s.2.1), (7, int s.1), (0, int n), (1, ev)]) (fun s H' => s.2.2 = H' ∧ (s.1, s.2.1) = mS n (midC P n) (k + 1) ∧ Grows h s.2.2) ?_ ?_
  rotate_left
  · rintro ⟨c', a', H'⟩ φ1 _ ⟨rfl, hx', hg'⟩
    dsimp only at hx' hg' ⊢
    conv => whnf
    refine ⟨((k + 1 : Nat) : Int), wie (by omega) (by omega), ?_⟩
    conv => whnf
    exact Rnd.mk (k + 1, c', a', H') ⟨by show k + 1 ≤ n; omega, hx', hg'⟩ (by show n - (k + 1) < n - k; omega) ⟨rfl, rfl, rfl, rfl, rfl, trivial⟩ (Hp.Le.refl _) rfl
  conv => whnf
  refine SeqP.cut (α := Value × List Nat × Hp) (fun s => [(9, s.1), (8, int k), (6, int a), (7, int c), (0, int n), (1, ev)]) (fun s H' => s.2.2 = H' ∧ IsParts (adj P) (less (2 ^ n - 1) (2 ^ k)) s.2.1 ∧ Built H s.2.2 3 s.1 (natI s.2.1) ∧ Grows H s.2.2) ?_ ?_
  · conv => whnf
    refine ⟨by omega, ((2 ^ n : Nat) : Int), shl_one (by omega), ?_⟩
    conv => whnf
    have hp0 := Nat.two_pow_pos n
    refine ⟨((2 ^ n - 1 : Nat) : Int), wie (by omega) (by omega), ?_⟩
    conv => whnf
    refine ⟨by omega, ((2 ^ k : Nat) : Int), shl_one (by omega), ?_⟩
    conv => whnf
    have ea := bits_andNot (a := 2 ^ n - 1) (b := 2 ^ k) (by omega) (by omega)
    have key : ∀ w, w = int (less (2 ^ n - 1) (2 ^ k) : Nat) → CallP E 67 [int n, ev, w] H (fun r h' => ∃ l : List Nat, IsParts (adj P) (less (2 ^ n - 1) (2 ^ k)) l ∧ Built H h' 3 r (natI l) ∧ Grows H h') := by
      intro w e
      subst e
      exact refparts_spec n (by omega) P hP hPl _ (less_lt hS) ev H (he.ext hg)
    refine CallP.mono (key _ (congrArg int ea)) ?_
    rintro r H1 ⟨L, hL, hb, hg1⟩
    conv => whnf
    exact ⟨(r, L, H1), ⟨rfl, rfl, rfl, rfl, rfl, rfl, trivial⟩, ⟨rfl, hL, hb, hg1⟩, rfl⟩
  rintro ⟨w, L, H1⟩ φ2 _ ⟨rfl, hL, hbL, hg1⟩
  dsimp only at hL hbL hg1 ⊢
  have hpe := partsOf_eq hL
  have hLle := parts_le hL
  have hLlen : (natI L).length = L.length := by unfold natI; rw [List.length_map]
  have hlS : less (2 ^ n - 1) (2 ^ k) < 2 ^ n := less_lt hS
  have hLn : L.length ≤ less (2 ^ n - 1) (2 ^ k) := parts_len hL
  have hwk := hbL.ints
  obtain ⟨aw, cw, rfl, hcell⟩ := hwk
  conv => whnf
  refine SeqP.go ?_
  conv => whnf
  refine SeqP.cut (α := Unit) (fun _ => [(10, int (midC P n k)), (8, int k), (6, int a), (7, int c), (0, int n), (1, ev)]) (fun _ H' => H1 = H') ?_ ?_
  · conv => whnf
    repeat (refine SeqP.go ?_; conv => whnf)
    refine loop_inv (α := Nat) (fun j => [(11, int j), (10, int (mx ((L.take j).map fun p => (pop p : Int)))), (9, .slice aw (natI L).length cw), (8, int k), (6, int a), (7, int c), (0, int n), (1, ev)]) (fun _ => H1) (fun j => j ≤ L.length) (fun j => L.length - j) 0 (Nat.zero_le _) ⟨rfl, rfl, rfl, rfl, rfl, rfl, rfl, rfl, trivial⟩ (Hp.Le.refl _) ?_
    rintro j φ3 hj
    conv => whnf
    repeat (refine SeqP.go ?_; conv => whnf)
    refine cmpB (fun hb4 => ?_) (fun hb4 => ?_)
    rotate_left
    · have : j = L.length := by omega
      subst this
      have em : mx ((L.take L.length).map fun p => (pop p : Int)) = midC P n k := by
        rw [List.take_of_length_le (Nat.le_refl _)]; unfold midC; rw [hpe]
      conv => whnf
      repeat (refine SeqP.go ?_; conv => whnf)
      exact ⟨(), ⟨congrArg int em, rfl, rfl, rfl, rfl, rfl, trivial⟩, rfl, rfl⟩
    have hjL : j < L.length := by omega
    have hc := hcell j (by omega)
    obtain ⟨r, o, sp, ea, hsp, hci⟩ := hc
    subst ea
    have eLj : (natI L)[j]'(by omega) = (L[j] : Int) := by unfold natI; rw [List.getElem_map]
    rw [eLj] at hci
    have hxle := hLle _ (List.getElem_mem hjL)
    have emx : mx ((L.take (j + 1)).map fun p => (pop p : Int)) = max (mx ((L.take j).map fun p => (pop p : Int))) (pop L[j] : Int) := by
      rw [List.take_succ_eq_append_getElem hjL, List.map_append, List.map_singleton, mx_snoc]
    conv => whnf
    repeat (refine SeqP.go ?_; conv => whnf)
    refine ⟨hsp, ⟨by omega, by omega⟩, ?_⟩
    conv => whnf
    refine ⟨int L[j], by rw [offAt_eq, Nat.add_comm]; simpa using hci, ?_⟩
    conv => whnf
    refine CallP.mono (refsize_spec' L[j] (by omega) _ rfl _) ?_
    rintro r6 H6 ⟨rfl, e6⟩
    subst e6
    conv => whnf
    refine resP_val (v := int (max (mx ((L.take j).map fun p => (pop p : Int))) (pop L[j] : Int))) (h := H6) ?_ ?_
    · conv => lhs; whnf
      exact congrArg (HRes.val · _) (max_eq3 _ _)
    conv => whnf
    refine ⟨((j + 1 : Nat) : Int), wie (by omega) (by omega), ?_⟩
    conv => whnf
    exact Rnd.mk (j + 1) (by show j + 1 ≤ _; omega) (by show _ - (j + 1) < _ - j; omega) ⟨rfl, congrArg int emx.symm, rfl, rfl, rfl, rfl, rfl, rfl, trivial⟩ (Hp.Le.refl _) rfl
  rintro _ φ4 _ rfl
  conv => whnf
  repeat (refine SeqP.go ?_; conv => whnf)
  refine cmpB (fun hb5 => ?_) (fun hb5 => ?_)
  · conv => whnf
    repeat (refine SeqP.go ?_; conv => whnf)
    refine ⟨(midC P n k, (k : Int), H1), ⟨rfl, rfl, rfl, rfl, rfl, trivial⟩, ⟨rfl, ?_, hg.trans hg1⟩, rfl⟩
    rw [e0]
    unfold betterOf
    rw [if_pos hb5]
  · conv => whnf
    repeat (refine SeqP.go ?_; conv => whnf)
    refine ⟨(c, a, H1), ⟨rfl, rfl, rfl, rfl, rfl, trivial⟩, ⟨rfl, ?_, hg.trans hg1⟩, rfl⟩
    rw [e0]
    unfold betterOf
    rw [if_neg hb5]
end
end Go.Proofs.Yticmdpcahpimhaa
namespace Go.Proofs.Yticmdpcahpimhaa
open Go.Rx Go.RowKit Go.Comp
theorem cnt_up {n S : Nat} (hS : S < 2 ^ n) : ∀ d, cnt (n + d) S = cnt n S
  | 0 => rfl
  | d + 1 => by
    show cnt (n + d) S + (if S.testBit (n + d) then 1 else 0) = _
    rw [cnt_up hS d, Nat.testBit_lt_two_pow (Nat.lt_of_lt_of_le hS (Nat.pow_le_pow_right (by omega) (by omega)))]
    rfl
theorem filter_cnt (S : Nat) : ∀ k, ((List.range k).filter S.testBit).length = cnt k S
  | 0 => rfl
  | k + 1 => by
    rw [List.range_succ, List.filter_append, List.length_append, filter_cnt S k]
    show _ = cnt k S + (if S.testBit k then 1 else 0)
    cases h : S.testBit k <;> simp [h]
theorem pop_cnt {n S : Nat} (hn : n ≤ 10) (hS : S < 2 ^ n) : pop S = cnt n S := by
  unfold pop
  rw [filter_cnt]
  have := cnt_up hS (10 - n)
  rwa [show n + (10 - n) = 10 by omega] at this
theorem cnt_less (S v : Nat) : ∀ n, (v < n → cnt n S ≤ cnt n (less S (2 ^ v)) + 1) ∧ (n ≤ v → cnt n S ≤ cnt n (less S (2 ^ v)))
  | 0 => ⟨fun h => by omega, fun _ => Nat.le_refl _⟩
  | n + 1 => by
    have ih := cnt_less S v n
    unfold cnt
    rw [less_bit, Nat.testBit_two_pow]
    by_cases e : v = n
    · subst e
      have := ih.2 (Nat.le_refl _)
      refine ⟨fun _ => ?_, fun h => by omega⟩
      split <;> split <;> omega
    · have : decide (v = n) = false := decide_eq_false e
      rw [this]
      refine ⟨fun h => ?_, fun h => ?_⟩
      · have := ih.1 (by omega)
        cases S.testBit n <;> simp <;> omega
      · have := ih.2 (by omega)
        cases S.testBit n <;> simp <;> omega
theorem B_one {A : Comp.Rel} {n S : Nat} (hS : S < 2 ^ n) (h : cnt n S = 1) : (B A n S).1 = 0 := by
  obtain ⟨v, hv, hbit, eB⟩ := B_in A (by omega : 1 ≤ cnt n S)
  have hlS : less S (2 ^ v) < 2 ^ n := less_lt hS
  obtain ⟨L, hL⟩ := parts_all A n _ hlS
  rw [eB]
  show nodeC A n S v = 0
  unfold nodeC
  rw [partsOf_eq hL]
  cases L with
  | nil => rfl
  | cons p l =>
    obtain ⟨u, hu⟩ := parts_ne hL p List.mem_cons_self
    have h1 := parts_sub hL p List.mem_cons_self u hu
    have h2 := cnt_pos h1 n (sub_bit hlS h1)
    have h3 := less_cnt hv hbit
    omega
theorem mx_one {l : List Int} (hl : l ≠ []) (h0 : ∀ x ∈ l, 0 ≤ x) : mx (l.map fun x => 1 + x) = 1 + mx l := by
  have key : ∀ (l : List Int) (a : Int), (l.map fun x => 1 + x).foldl max (1 + a) = 1 + l.foldl max a := by
    intro l
    induction l with
    | nil => intro a; rfl
    | cons x l ih =>
      intro a
      show (l.map fun x => 1 + x).foldl max (max (1 + a) (1 + x)) = 1 + l.foldl max (max a x)
      rw [show max (1 + a) (1 + x) = 1 + max a x by omega]
      exact ih _
  cases l with
  | nil => exact absurd rfl hl
  | cons x l =>
    have := h0 x List.mem_cons_self
    show (l.map fun x => 1 + x).foldl max (max 0 (1 + x)) = 1 + l.foldl max (max 0 x)
    rw [show max 0 (1 + x) = 1 + x by omega, show max 0 x = x by omega]
    exact key l x
theorem node_one {A : Comp.Rel} {n S v : Nat} {L : List Nat} (hS : S < 2 ^ n) (h2 : 2 ≤ cnt n S) (hv : v < n) (hL : IsParts A (less S (2 ^ v)) L) : nodeC A n S v = mx (L.map fun p => (B A n p).1) + 1 := by
  have hlS : less S (2 ^ v) < 2 ^ n := less_lt hS
  have hne : L ≠ [] := by
    intro e
    subst e
    have h1 := (cnt_less S v n).1 hv
    have h3 : less S (2 ^ v) = 0 := zero_of_bits fun i => by
      cases hb : (less S (2 ^ v)).testBit i with
      | false => rfl
      | true =>
        obtain ⟨p, hp, _⟩ := parts_cover hL i hb
        simp at hp
    rw [h3] at h1
    have h4 : ∀ n, cnt n 0 = 0 := by
      intro n
      induction n with
      | zero => rfl
      | succ n ih => unfold cnt; rw [ih]; simp
    rw [h4] at h1
    omega
  unfold nodeC
  rw [partsOf_eq hL]
  have := mx_one (l := L.map fun p => (B A n p).1) (by simp [hne]) fun x hx => by
    obtain ⟨p, _, rfl⟩ := List.mem_map.1 hx
    exact (B_bd A n _ p (Nat.le_refl _)).1
  rw [List.map_map] at this
  rw [Int.add_comm]
  exact this
/-- The least so far, as the reference keeps it. -/
def rb (n S : Nat) (c : Nat → Int) (k : Nat) : Int := if (scan S c k).2 < 0 then (n : Int) else min (n : Int) (scan S c k).1
theorem scan_nn (S : Nat) (c : Nat → Int) : ∀ k, (scan S c k).2 = -1 ∨ 0 ≤ (scan S c k).2
  | 0 => .inl rfl
  | k + 1 => by
    rw [scan_succ]
    have ih := scan_nn S c k
    unfold betterOf
    by_cases hb : S.testBit k = true
    · rw [if_pos hb]
      right
      by_cases h2 : (scan S c k).2 < 0
      · rw [if_pos h2]; split <;> (show (0 : Int) ≤ (k : Int); omega)
      · rw [if_neg h2]
        split
        · show (0 : Int) ≤ (k : Int); omega
        · omega
    · rw [if_neg hb]; exact ih
theorem rb_zero (n S : Nat) (c : Nat → Int) : rb n S c 0 = n := rfl
theorem rb_skip {n S : Nat} {c : Nat → Int} {k : Nat} (h : S.testBit k = false) : rb n S c (k + 1) = rb n S c k := by
  unfold rb
  have e : scan S c (k + 1) = scan S c k := by rw [scan_succ, if_neg (by rw [h]; simp)]
  rw [e]
theorem rb_take {n S : Nat} {c : Nat → Int} {k : Nat} (h : S.testBit k = true) : rb n S c (k + 1) = min (rb n S c k) (c k) := by
  unfold rb
  have e : scan S c (k + 1) = betterOf (if (scan S c k).2 < 0 then (c k, (k : Int)) else scan S c k) (c k, (k : Int)) := by rw [scan_succ, if_pos h]
  rw [e]
  generalize scan S c k = z
  by_cases h2 : z.2 < 0
  · rw [if_pos h2, if_pos h2]
    have e2 : betterOf (c k, (k : Int)) (c k, (k : Int)) = (c k, (k : Int)) := by unfold betterOf; split <;> rfl
    rw [e2, if_neg (by show ¬ (k : Int) < 0; omega)]
  · rw [if_neg h2, if_neg h2]
    unfold betterOf
    by_cases h3 : c k < z.1
    · rw [if_pos h3, if_neg (by show ¬ (k : Int) < 0; omega)]
      show min (n : Int) (c k) = _
      omega
    · rw [if_neg h3, if_neg h2]; omega
theorem rb_end {A : Comp.Rel} {n S : Nat} (h : 1 ≤ cnt n S) : rb n S (nodeC A n S) n = (B A n S).1 := by
  unfold rb
  rw [← B_step]
  obtain ⟨v, hv, hbit, eB⟩ := B_in A h
  have hb := B_bd A n (cnt n S) S (Nat.le_refl _)
  have := cnt_le n S
  rw [if_neg (by rw [eB]; show ¬ (v : Int) < 0; omega)]
  omega
theorem rb_bd {n S : Nat} {c : Nat → Int} (hc : ∀ v, v < n → S.testBit v = true → 0 ≤ c v) : ∀ k, k ≤ n → 0 ≤ rb n S c k ∧ rb n S c k ≤ n
  | 0, _ => by rw [rb_zero]; omega
  | k + 1, hk => by
    have ih := rb_bd hc k (by omega)
    by_cases hb : S.testBit k = true
    · rw [rb_take hb]; have := hc k (by omega) hb; omega
    · rw [rb_skip (by simpa using hb)]; exact ih
/-- What the reference knows. -/
def KM2 (A : Comp.Rel) (n : Nat) (h : Hp) (km : Nat) : Prop := ∃ f c, MapAt h km encI f c ∧ ∀ s v, f s = some v → ∃ S : Nat, s = (S : Int) ∧ S < 2 ^ n ∧ v = int (B A n S).1
theorem KM2.ext {A : Comp.Rel} {n : Nat} {h h' : Hp} {km : Nat} (g : Grows h h') (k : KM2 A n h km) : KM2 A n h' km := by
  obtain ⟨f, c, h1, h2⟩ := k
  exact ⟨f, c, h1.ext g, h2⟩
theorem KM2.at {A : Comp.Rel} {n : Nat} {h : Hp} {km : Nat} (k : KM2 A n h km) : ∃ es c, h.at km = some (.map es c) := by
  obtain ⟨f, c, ⟨es, c', h1, _⟩, _⟩ := k
  exact ⟨_, _, h1⟩
theorem cellAt_map {h : Hp} {r o : Nat} {es : List Entry} {c : Nat} (hr : h.at r = some (.map es c)) : cellAt h r o = none := by
  unfold cellAt; rw [hr]
theorem pairs_gm {h h' : Hp} {km : Nat} {v : Value} {P : List (Int × Int)} (hk : ∃ es c, h.at km = some (.map es c)) (g : GM km h h') (k : PairsV h v P) : PairsV h' v P := by
  obtain ⟨es, c, hm⟩ := hk
  obtain ⟨a, cp, rfl, hc⟩ := k
  refine ⟨a, cp, rfl, fun j hj => ?_⟩
  obtain ⟨r, o, e1, e3, e4⟩ := hc j hj
  have hne : r ≠ km := fun e => by
    subst e
    rw [cellAt_map hm] at e3
    cases e3
  exact ⟨r, o, e1, cellAt_congr (fun ob e => g.at_ _ _ hne e) e3, cellAt_congr (fun ob e => g.at_ _ _ hne e) e4⟩
theorem ty67 : ∃ i, E.ty 67 = some i ∧ i.desc = .map 3 3 := by
  have hs : (tiOf Try.prog 67).isSome = true := by kernel_rfl
  refine ⟨(tiOf Try.prog 67).get hs, ty_get (by kernel_rfl) (Option.some_get hs).symm, ?_⟩
  kernel_rfl
theorem ty3z : ∃ i, E.ty 3 = some i ∧ i.zero = some (int 0) := by
  have hs : (tiOf Try.prog 3).isSome = true := by kernel_rfl
  refine ⟨(tiOf Try.prog 3).get hs, ty_get (by kernel_rfl) (Option.some_get hs).symm, ?_⟩
  kernel_rfl
theorem min_eq3 (x y : Int) : Value.int IntKind.i64 (if y < x then y else x) = int (min x y) := congrArg (Value.int .i64) (by split <;> omega)
end Go.Proofs.Yticmdpcahpimhaa
namespace Go.Proofs.Yticmdpcahpimhaa
open Go.Rx Go.RowKit Go.Comp
attribute [local irreducible] E idxN cellAt cellsAt storeAt callable helems hmoved lookIn findKey keyOk hentries Hp.at Hp.set Hp.lay arBits hupdated setAt CallP YieldP BoolOf IsWrap Rnd LoopP AppP CutP Int.tmod Int.tdiv Int.fdiv
section
variable [Unknowns]
attribute [local irreducible] ResP sameAt natI tv Z bestM mS rb
theorem reflooks_spec {n : Nat} (hn : n ≤ 10) {P : List (Int × Int)} (hP : EdgesOk n P) (hPl : P.length ≤ 1000) (ev : Value) (km : Nat) (m : Nat) : ∀ (S : Nat) (h : Hp), 1 ≤ cnt n S → cnt n S < m → S < 2 ^ n → PairsV h ev P → KM2 (adj P) n h km → CallP E 46 [int n, ev, int S, mapAt km] h (fun r h' => r = int (B (adj P) n S).1 ∧ KM2 (adj P) n h' km ∧ GM km h h') := by
  have hpn : 2 ^ n ≤ 2 ^ 10 := Nat.pow_le_pow_right (by omega) hn
  obtain ⟨i67, t67, d67⟩ := ty67
  obtain ⟨i3, t3, z3⟩ := ty3z
  induction m with
  | zero => intro S h h0 h1; omega
  | succ m ih =>
    intro S h h0 hm hS he hK
    have hpc := pop_cnt hn hS
    have hexL : ∃ lk, (B (adj P) n S).1 = lk := ⟨_, rfl⟩
    obtain ⟨lk, elk⟩ := hexL
    rw [elk]
    refine enter46 (by simp) ?_
    conv => whnf
    refine SeqP.go ?_
    conv => whnf
    refine SeqP.cut (α := Unit) (fun _ => [(0, int n), (1, ev), (2, int S), (3, mapAt km)]) (fun _ H => h = H ∧ 2 ≤ cnt n S) ?_ ?_
    · conv => whnf
      repeat (refine SeqP.go ?_; conv => whnf)
      refine CallP.mono (refsize_spec' S (by omega) _ rfl _) ?_
      rintro r6 H6 ⟨rfl, e6⟩
      subst e6
      conv => whnf
      refine cmpB (fun hb => ?_) (fun hb => ?_)
      · have h1 : cnt n S = 1 := by omega
        have e1 : (B (adj P) n S).1 = 0 := B_one hS h1
        rw [elk] at e1
        conv => whnf
        repeat (refine SeqP.go ?_; conv => whnf)
        exact ⟨congrArg int e1.symm, hK, GM.refl _ _⟩
      · conv => whnf
        repeat (refine SeqP.go ?_; conv => whnf)
        exact ⟨(), ⟨rfl, rfl, rfl, rfl, trivial⟩, ⟨rfl, by omega⟩, rfl⟩
    rintro _ φ0 _ ⟨rfl, h2⟩
    conv => whnf
    refine SeqP.cut (α := Unit) (fun _ => [(0, int n), (1, ev), (2, int S), (3, mapAt km)]) (fun _ H => h = H) ?_ ?_
    · obtain ⟨f, c, hM, hf⟩ := hK
      have hopt : f (S : Int) = none ∨ ∃ v, f (S : Int) = some v := by
        cases f (S : Int) with
        | none => exact .inl rfl
        | some v => exact .inr ⟨v, rfl⟩
      conv => whnf
      repeat (refine SeqP.go ?_; conv => whnf)
      rcases hopt with hs | ⟨v, hs⟩
      · refine raw_look2_none t67 d67 t3 z3 keyS (k := (S : Int)) rfl rfl hM hs ?_
        conv => whnf
        repeat (refine SeqP.go ?_; conv => whnf)
        exact ⟨(), ⟨rfl, rfl, rfl, rfl, trivial⟩, rfl, rfl⟩
      · obtain ⟨S', e1, _, e2⟩ := hf _ _ hs
        have e1' : S' = S := by omega
        subst e1'
        rw [elk] at e2
        subst e2
        refine raw_look2_some t67 d67 t3 z3 keyS (k := (S' : Int)) rfl rfl hM hs ?_
        conv => whnf
        repeat (refine SeqP.go ?_; conv => whnf)
        exact ⟨rfl, ⟨f, c, hM, hf⟩, GM.refl _ _⟩
    rintro _ φ1 _ rfl
    have hex : ∃ c, nodeC (adj P) n S = c := ⟨_, rfl⟩
    obtain ⟨c, ec⟩ := hex
    have hcb : ∀ v, 0 ≤ c v := fun v => by
      rw [← ec]
      exact (mx_bd (M := (n : Int) + 1) (by omega) fun x hx => by
        obtain ⟨p, _, rfl⟩ := List.mem_map.1 hx
        have h1 := B_bd (adj P) n (cnt n p) p (Nat.le_refl _)
        have h2 := cnt_le n p
        omega).1
    have hrb := rb_bd (n := n) (S := S) (c := c) fun v _ _ => hcb v
    have hre : rb n S c n = lk := by rw [← ec, rb_end h0, elk]
    have er0 := rb_zero n S c
    conv => whnf
    refine SeqP.go ?_
    conv => whnf
    refine SeqP.cut (α := Hp) (fun _ => [(11, int lk), (2, int S), (3, mapAt km)]) (fun H1 H2 => H1 = H2 ∧ KM2 (adj P) n H1 km ∧ GM km h H1) ?_ ?_
    rotate_left
    · rintro H1 φ2 _ ⟨rfl, hK1, hG1⟩
      obtain ⟨f9, c9, hM9, hf9⟩ := hK1
      conv => whnf
      repeat (refine SeqP.go ?_; conv => whnf)
      refine raw_update t67 d67 keyS (k := (S : Int)) (v := int lk) rfl rfl rfl hM9 ?_
      intro H10 hM10 hkp
      have hK10 : KM2 (adj P) n H10 km := ⟨_, _, hM10, fun s v hv => by
        by_cases e : s = (S : Int)
        · rw [if_pos e] at hv
          exact ⟨S, e, hS, by rw [elk]; exact (Option.some.inj hv).symm⟩
        · rw [if_neg e] at hv
          exact hf9 s v hv⟩
      conv => whnf
      repeat (refine SeqP.go ?_; conv => whnf)
      exact ⟨rfl, hK10, hG1.trans (GM.of_keeps hkp)⟩
    conv => whnf
    repeat (refine SeqP.go ?_; conv => whnf)
    refine loop_inv (α := Nat × Hp) (fun s => [(12, int s.1), (11, int (rb n S c s.1)), (0, int n), (1, ev), (2, int S), (3, mapAt km)]) (fun s => s.2) (fun s => s.1 ≤ n ∧ KM2 (adj P) n s.2 km ∧ GM km h s.2 ∧ PairsV s.2 ev P) (fun s => n - s.1) (0, h) ⟨Nat.zero_le _, hK, GM.refl _ _, he⟩ ⟨rfl, congrArg int er0.symm, rfl, rfl, rfl, rfl, trivial⟩ (Hp.Le.refl _) ?_
    rintro ⟨k, H⟩ φ3 ⟨hkn, hK3, hG3, he3⟩
    dsimp only at hkn hK3 hG3 he3 ⊢
    conv => whnf
    repeat (refine SeqP.go ?_; conv => whnf)
    refine cmpB (fun hb1 => ?_) (fun hb1 => ?_)
    rotate_left
    · have : k = n := by omega
      subst this
      conv => whnf
      repeat (refine SeqP.go ?_; conv => whnf)
      exact ⟨H, ⟨congrArg int hre, rfl, rfl, trivial⟩, ⟨rfl, hK3, hG3⟩, rfl⟩
    have hkl : k < n := by omega
    have hpk : 2 ^ k ≤ 2 ^ 10 := Nat.pow_le_pow_right (by omega) (by omega)
    have hrk := hrb k hkn
    conv => whnf
    refine SeqP.cut (α := Hp) (fun s => [(12, int k), (11, int (rb n S c (k + 1))), (0, int n), (1, ev), (2, int S), (3, mapAt km)]) (fun s H' => s = H' ∧ KM2 (adj P) n s km ∧ GM km h s ∧ PairsV s ev P) ?_ ?_
    rotate_left
    · rintro H' φ4 _ ⟨rfl, hK4, hG4, he4⟩
      conv => whnf
      refine ⟨((k + 1 : Nat) : Int), wie (by omega) (by omega), ?_⟩
      conv => whnf
      exact Rnd.mk (k + 1, H') ⟨by show k + 1 ≤ n; omega, hK4, hG4, he4⟩ (by show n - (k + 1) < n - k; omega) ⟨rfl, rfl, rfl, rfl, rfl, rfl, trivial⟩ (Hp.Le.refl _) rfl
    conv => whnf
    refine SeqP.cut (α := Unit) (fun _ => [(12, int k), (11, int (rb n S c k)), (0, int n), (1, ev), (2, int S), (3, mapAt km)]) (fun _ H' => H = H' ∧ S.testBit k = true) ?_ ?_
    · conv => whnf
      repeat (refine SeqP.go ?_; conv => whnf)
      refine ⟨by omega, ?_⟩
      have esh := shr_nat (a := S) (k := k) (by omega)
      have hm := tmod_nat (S >>> k) 2
      conv => whnf
      refine ⟨by omega, ?_⟩
      conv => whnf
      refine cmpB (fun hb2 => ?_) (fun hb2 => ?_)
      · have hb2 : ((S : Int).fdiv (2 ^ (min (k : Int).toNat 64))).tmod 2 = 0 := hb2
        rw [esh, show (2 : Int) = ((2 : Nat) : Int) from rfl, tmod_nat] at hb2
        have hbit : S.testBit k = false := by
          cases hb : S.testBit k with
          | false => rfl
          | true => have := (bit_mod S k).2 hb; omega
        conv => whnf
        repeat (refine SeqP.go ?_; conv => whnf)
        exact ⟨H, ⟨rfl, congrArg int (rb_skip hbit).symm, rfl, rfl, rfl, rfl, trivial⟩, ⟨rfl, hK3, hG3, he3⟩, rfl⟩
      · have hb2 : ¬ ((S : Int).fdiv (2 ^ (min (k : Int).toNat 64))).tmod 2 = 0 := hb2
        rw [esh, show (2 : Int) = ((2 : Nat) : Int) from rfl, tmod_nat] at hb2
        have hbit : S.testBit k = true := (bit_mod S k).1 (by omega)
        conv => whnf
        repeat (refine SeqP.go ?_; conv => whnf)
        exact ⟨(), ⟨rfl, rfl, rfl, rfl, rfl, rfl, trivial⟩, ⟨rfl, hbit⟩, rfl⟩
    rintro _ φ5 _ ⟨rfl, hbit⟩
    have er1 := rb_take (n := n) (c := c) hbit
    conv => whnf
    refine SeqP.cut (α := Value × List Nat × Hp) (fun s => [(13, s.1), (12, int k), (11, int (rb n S c k)), (0, int n), (1, ev), (2, int S), (3, mapAt km)]) (fun s H' => s.2.2 = H' ∧ IsParts (adj P) (less S (2 ^ k)) s.2.1 ∧ Built H s.2.2 3 s.1 (natI s.2.1) ∧ Grows H s.2.2) ?_ ?_
    · conv => whnf
      refine ⟨by omega, ((2 ^ k : Nat) : Int), shl_one (by omega), ?_⟩
      conv => whnf
      have ea := bits_andNot (a := S) (b := 2 ^ k) (by omega) (by omega)
      have key : ∀ w, w = int (less S (2 ^ k) : Nat) → CallP E 67 [int n, ev, w] H (fun r h' => ∃ l : List Nat, IsParts (adj P) (less S (2 ^ k)) l ∧ Built H h' 3 r (natI l) ∧ Grows H h') := by
        intro w e
        subst e
        exact refparts_spec n (by omega) P hP hPl _ (less_lt hS) ev H he3
      refine CallP.mono (key _ (congrArg int ea)) ?_
      rintro r H1 ⟨L, hL, hb, hg1⟩
      conv => whnf
      exact ⟨(r, L, H1), ⟨rfl, rfl, rfl, rfl, rfl, rfl, rfl, trivial⟩, ⟨rfl, hL, hb, hg1⟩, rfl⟩
    rintro ⟨w, L, H1⟩ φ6 _ ⟨rfl, hL, hbL, hg1⟩
    dsimp only at hL hbL hg1 ⊢
    have hpe := partsOf_eq hL
    have hLle := parts_le hL
    have hLlen : (natI L).length = L.length := by unfold natI; rw [List.length_map]
    have hlS : less S (2 ^ k) < 2 ^ n := less_lt hS
    have hLn : L.length ≤ less S (2 ^ k) := parts_len hL
    have hck : c k = mx (L.map fun p => (B (adj P) n p).1) + 1 := by rw [← ec]; exact node_one hS h2 hkl hL
    have hwk := hbL.ints
    obtain ⟨aw, cw, rfl, -⟩ := hwk
    have hK6 := hK3.ext hg1
    have hG6 := hG3.trans (GM.of hg1)
    have he6 := he3.ext hg1
    have hlt : km < H.next := by
      obtain ⟨es, c', h3⟩ := hK3.at
      exact Hp.lt_of_at h3
    conv => whnf
    refine SeqP.go ?_
    conv => whnf
    refine SeqP.cut (α := Hp) (fun _ => [(14, int (mx (L.map fun p => (B (adj P) n p).1))), (12, int k), (11, int (rb n S c k)), (0, int n), (1, ev), (2, int S), (3, mapAt km)]) (fun s H' => s = H' ∧ KM2 (adj P) n s km ∧ GM km h s ∧ PairsV s ev P) ?_ ?_
    · conv => whnf
      repeat (refine SeqP.go ?_; conv => whnf)
      refine loop_inv (α := Nat × Hp) (fun s => [(15, int s.1), (14, int (mx ((L.take s.1).map fun p => (B (adj P) n p).1))), (13, .slice aw (natI L).length cw), (12, int k), (11, int (rb n S c k)), (0, int n), (1, ev), (2, int S), (3, mapAt km)]) (fun s => s.2) (fun s => s.1 ≤ L.length ∧ KM2 (adj P) n s.2 km ∧ GM km h s.2 ∧ PairsV s.2 ev P ∧ Built H s.2 3 (.slice aw (natI L).length cw) (natI L)) (fun s => L.length - s.1) (0, H1) ⟨Nat.zero_le _, hK6, hG6, he6, hbL⟩ ⟨rfl, rfl, rfl, rfl, rfl, rfl, rfl, rfl, rfl, trivial⟩ (Hp.Le.refl _) ?_
      clear hK6 hG6 he6 hbL hg1
      rintro ⟨j, H7⟩ φ7 ⟨hj, hK7, hG7, he7, hb7⟩
      dsimp only at hj hK7 hG7 he7 hb7 ⊢
      conv => whnf
      repeat (refine SeqP.go ?_; conv => whnf)
      refine cmpB (fun hb4 => ?_) (fun hb4 => ?_)
      rotate_left
      · have : j = L.length := by omega
        subst this
        have em : mx ((L.take L.length).map fun p => (B (adj P) n p).1) = mx (L.map fun p => (B (adj P) n p).1) := by
          rw [List.take_of_length_le (Nat.le_refl _)]
        conv => whnf
        repeat (refine SeqP.go ?_; conv => whnf)
        exact ⟨H7, ⟨congrArg int em, rfl, rfl, rfl, rfl, rfl, rfl, trivial⟩, ⟨rfl, hK7, hG7, he7⟩, rfl⟩
      have hjL : j < L.length := by omega
      have hbi := hb7.ints
      obtain ⟨aw', cw', ew, hcell⟩ := hbi
      cases ew
      have hc := hcell j (by omega)
      obtain ⟨r, o, sp, ea, hsp, hci⟩ := hc
      subst ea
      have eLj : (natI L)[j]'(by omega) = (L[j] : Int) := by unfold natI; rw [List.getElem_map]
      rw [eLj] at hci
      have hxle := hLle _ (List.getElem_mem hjL)
      have hpm : L[j] ∈ partsOf (adj P) (less S (2 ^ k)) := by rw [hpe]; exact List.getElem_mem hjL
      have hpc2 := part_cnt (adj P) hkl hbit hpm
      have hp1 : 1 ≤ cnt n L[j] := by
        obtain ⟨u, hu⟩ := parts_ne hL _ (List.getElem_mem hjL)
        exact cnt_pos hu n (sub_bit (Nat.lt_of_le_of_lt hxle hlS) hu)
      have emx : mx ((L.take (j + 1)).map fun p => (B (adj P) n p).1) = max (mx ((L.take j).map fun p => (B (adj P) n p).1)) (B (adj P) n L[j]).1 := by
        rw [List.take_succ_eq_append_getElem hjL, List.map_append, List.map_singleton, mx_snoc]
      conv => whnf
      repeat (refine SeqP.go ?_; conv => whnf)
      refine ⟨hsp, ⟨by omega, by omega⟩, ?_⟩
      conv => whnf
      refine ⟨int L[j], by rw [offAt_eq, Nat.add_comm]; simpa using hci, ?_⟩
      conv => whnf
      refine CallP.mono (ih L[j] H7 hp1 (by omega) (by omega) he7 hK7) ?_
      rintro r8 H8 ⟨rfl, hK8, hG8⟩
      conv => whnf
      refine resP_val (v := int (max (mx ((L.take j).map fun p => (B (adj P) n p).1)) (B (adj P) n L[j]).1)) (h := H8) ?_ ?_
      · conv => lhs; whnf
        exact congrArg (HRes.val · _) (max_eq3 _ _)
      conv => whnf
      refine ⟨((j + 1 : Nat) : Int), wie (by omega) (by omega), ?_⟩
      conv => whnf
      have hb8 : Built H H8 3 (.slice (some ⟨r, o, sp⟩) (natI L).length cw) (natI L) := by
        obtain ⟨es, c', h3⟩ := hK7.at
        rcases hb7 with h1 | ⟨r', e', q1, x, q2⟩
        · exact .inl h1
        · exact .inr ⟨r', e', q1, x, hG8.at_ _ _ (by omega) q2⟩
      exact Rnd.mk (j + 1, H8) ⟨by show j + 1 ≤ _; omega, hK8, hG7.trans hG8, pairs_gm hK7.at hG8 he7, hb8⟩ (by show _ - (j + 1) < _ - j; omega) ⟨rfl, congrArg int emx.symm, rfl, rfl, rfl, rfl, rfl, rfl, rfl, trivial⟩ (Hp.Le.refl _) rfl
    rintro H9 φ9 _ ⟨rfl, hK9, hG9, he9⟩
    have hexm : ∃ x, mx (L.map fun p => (B (adj P) n p).1) = x := ⟨_, rfl⟩
    obtain ⟨x, ex⟩ := hexm
    rw [ex] at hck ⊢
    have hc0 := hcb k
    have hc1 : c k ≤ n + 1 := by
      rw [← ec]
      exact (mx_bd (M := (n : Int) + 1) (by omega) fun x hx => by
        obtain ⟨p, _, rfl⟩ := List.mem_map.1 hx
        have h1 := B_bd (adj P) n (cnt n p) p (Nat.le_refl _)
        have h2 := cnt_le n p
        omega).2
    conv => whnf
    refine ⟨x + 1, wie rfl (by omega), ?_⟩
    conv => whnf
    refine resP_val (v := int (min (rb n S c k) (x + 1))) (h := H9) ?_ ?_
    · conv => lhs; whnf
      exact congrArg (HRes.val · _) (min_eq3 _ _)
    conv => whnf
    exact ⟨H9, ⟨rfl, congrArg int (by rw [er1, hck]), rfl, rfl, rfl, rfl, trivial⟩, ⟨rfl, hK9, hG9, he9⟩, rfl⟩
end
end Go.Proofs.Yticmdpcahpimhaa
namespace Go.Proofs.Yticmdpcahpimhaa
open Go.Rx Go.RowKit
attribute [local irreducible] E idxN cellAt cellsAt storeAt callable helems hmoved lookIn findKey keyOk hentries Hp.at Hp.set Hp.lay arBits hupdated setAt CallP YieldP BoolOf IsWrap Rnd LoopP AppP CutP Int.tmod Int.tdiv Int.fdiv
section
variable [Unknowns]
attribute [local irreducible] ResP
theorem refworst_spec (l : List Int) (M : Int) (v : Value) (h : Hp) (hv : Ints h v l) (hl : l.length ≤ 1000) (h0 : ∀ x ∈ l, 0 ≤ x ∧ x ≤ M) (hM : M ∈ l) : CallP E 35 [v] h (fun r h' => r = int M ∧ h' = h) := by
  obtain ⟨av, cp, rfl, hcell⟩ := id hv
  have hM0 := (h0 M hM).1
  refine enter35 (by simp) ?_
  conv => whnf
  repeat (refine SeqP.go ?_; conv => whnf)
  refine loop_inv (α := Nat × Int) (fun s => [(4, int s.1), (3, int s.2), (0, .slice av l.length cp)]) (fun _ => h) (fun s => s.1 ≤ l.length ∧ 0 ≤ s.2 ∧ s.2 ≤ M ∧ ∀ x ∈ l.take s.1, x ≤ s.2) (fun s => l.length - s.1) (0, 0) ⟨Nat.zero_le _, Int.le_refl _, hM0, by simp⟩ ⟨rfl, rfl, rfl, trivial⟩ (Hp.Le.refl _) ?_
  rintro ⟨i, cur⟩ φ ⟨hi, hc0, hcM, hall⟩
  dsimp only at hi hc0 hcM hall ⊢
  conv => whnf
  repeat (refine SeqP.go ?_; conv => whnf)
  refine cmpB (fun hb => ?_) (fun hb => ?_)
  · have hi' : i < l.length := by omega
    have hx := h0 _ (List.getElem_mem hi')
    have hc := hcell i hi'
    obtain ⟨r, o, sp, ea, hsp, hvl⟩ := hc
    subst ea
    conv => whnf
    repeat (refine SeqP.go ?_; conv => whnf)
    refine ⟨hsp, ⟨by omega, by omega⟩, ?_⟩
    conv => whnf
    refine ⟨int l[i], by rw [offAt_eq, Nat.add_comm]; simpa using hvl, ?_⟩
    conv => whnf
    refine resP_val (v := int (max cur l[i])) (h := h) ?_ ?_
    · conv => lhs; whnf
      exact congrArg (HRes.val · _) (max_eq3 cur l[i])
    conv => whnf
    refine ⟨((i + 1 : Nat) : Int), wie (by omega) (by have := hv; omega), ?_⟩
    conv => whnf
    refine Rnd.mk (i + 1, max cur l[i]) ⟨by show i + 1 ≤ _; omega, by show 0 ≤ max cur l[i]; omega, by show max cur l[i] ≤ M; omega, ?_⟩ (by show _ - (i + 1) < _ - i; omega) ⟨rfl, rfl, rfl, trivial⟩ (Hp.Le.refl _) rfl
    intro x hx2
    show x ≤ max cur l[i]
    rw [List.take_succ_eq_append_getElem hi'] at hx2
    rcases List.mem_append.1 hx2 with h1 | h1
    · have := hall x h1; omega
    · have := List.mem_singleton.1 h1; omega
  · have hil : i = l.length := by omega
    rw [hil, List.take_of_length_le (Nat.le_refl _)] at hall
    have hcur : cur = M := by have := hall M hM; omega
    subst hcur
    conv => whnf
    repeat (refine SeqP.go ?_; conv => whnf)
    exact ⟨rfl, rfl⟩
end
end Go.Proofs.Yticmdpcahpimhaa
