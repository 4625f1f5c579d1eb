/- Contracts of the functions that SJorZ comes to. -/
import Derived.Test.YticmdpcahpimhaaSKb2
set_option maxRecDepth 100000
set_option maxHeartbeats 1000000
set_option linter.unusedVariables false
set_option linter.unusedSectionVars false
set_option linter.unusedSimpArgs false
namespace Go.Proofs.Yticmdpcahpimhaa
open Go.Rx Go.RowKit Go.Comp
theorem built_gm {h0 h h' : Hp} {km : Nat} {e : TypeId} {v : Value} {l : List Int} {A : Comp.Rel} {n : Nat} (k : Built h0 h e v l) (hk : KM A n h km) (g : GM km h h') : Built h0 h' e v l := by
  rcases k with h1 | ⟨r, rfl, h2, x, hr⟩
  · exact .inl h1
  · refine .inr ⟨r, rfl, h2, x, g.at_ _ _ (fun er => ?_) hr⟩
    obtain ⟨f, c, ⟨es, c', h3, _⟩, _⟩ := hk
    rw [← er, hr] at h3
    cases h3
theorem at_nx2 {h : Hp} {r r' : Nat} {o : Rx.Obj} (e : r = r') (k : h.at r = some o) : h.at r' = some o := e ▸ k
theorem scan_succ (S : Nat) (c : Nat → Int) (k : Nat) : scan S c (k + 1) = if S.testBit k = true then betterOf (if (scan S c k).2 < 0 then (c k, (k : Int)) else scan S c k) (c k, (k : Int)) else scan S c k := rfl
theorem max_eq3 (x y : Int) : Value.int IntKind.i64 (if y > x then y else x) = int (max x y) := congrArg (Value.int .i64) (by split <;> omega)
theorem sameV_ptr3 (a b : Nat) : sameV 4 (ptr a b) (ptr a b) = true := by simp [sameV, ptr]
theorem built_set_lt {h0 h : Hp} {e : TypeId} {v : Value} {l : List Int} {r : Nat} {o : Rx.Obj} (k : Built h0 h e v l) (hr : r < h0.next) : Built h0 (h.set r o) e v l := by
  rcases k with h1 | ⟨r', rfl, h2, x, hr'⟩
  · exact .inl h1
  · exact .inr ⟨r', rfl, h2, x, by rw [Hp.at_set_ne _ (by omega)]; exact hr'⟩
theorem two_cells2 {H : Hp} {r e : Nat} {x : Bool} {p q : Int} (hr : H.at r = some (.row e x [int p, int q])) : cellsAt H r 0 2 = some [int p, int q] := by
  rw [cellsAt_row hr (by simp)]; rfl
/-- Memory while the best choice is looked for. -/
structure KS (A : Comp.Rel) (n : Nat) (near : Nat → Nat) (h : Hp) (km : Nat) (x : Int × Int) (H : Hp) : Prop where
  gm : GM km h H
  at4 : H.at h.next = some (.row 102 true (tv n near))
  at6 : H.at (h.next + 1) = some (.row 85 true [int 0, int 0])
  at9 : H.at (h.next + 3) = some (.row 85 true [int x.1, int x.2])
  known : KM A n H km
  lt : km < h.next
theorem KS.ext {A : Comp.Rel} {n : Nat} {near : Nat → Nat} {h H H' : Hp} {km : Nat} {x : Int × Int} (k : KS A n near h km x H) (g : GM km H H') (hk : KM A n H' km) : KS A n near h km x H' := by
  have := k.lt
  exact ⟨k.gm.trans g, g.at_ _ _ (by omega) k.at4, g.at_ _ _ (by omega) k.at6, g.at_ _ _ (by omega) k.at9, hk, k.lt⟩
theorem KS.upd {A : Comp.Rel} {n : Nat} {near : Nat → Nat} {h H : Hp} {km : Nat} {x : Int × Int} (k : KS A n near h km x H) (y : Int × Int) {r : Nat} (hr : r = h.next + 3) : KS A n near h km y (H.set r (.row 85 true [int y.1, int y.2])) := by
  subst hr
  have := k.lt
  exact ⟨k.gm.then_set _ (by omega), by rw [Hp.at_set_ne _ (by omega)]; exact k.at4, by rw [Hp.at_set_ne _ (by omega)]; exact k.at6, Hp.at_set_self _ (Hp.lt_of_at k.at9), k.known.set _ (by omega), k.lt⟩
theorem KS.set {A : Comp.Rel} {n : Nat} {near : Nat → Nat} {h H : Hp} {km : Nat} {x : Int × Int} (k : KS A n near h km x H) {r : Nat} (o : Rx.Obj) (hr : h.next + 4 ≤ r) : KS A n near h km x (H.set r o) := by
  have := k.lt
  exact ⟨k.gm.then_set _ (by omega), by rw [Hp.at_set_ne _ (by omega)]; exact k.at4, by rw [Hp.at_set_ne _ (by omega)]; exact k.at6, by rw [Hp.at_set_ne _ (by omega)]; exact k.at9, k.known.set _ (by omega), k.lt⟩
attribute [local irreducible] E idxN cellAt cellsAt storeAt callable helems hmoved lookIn findKey keyOk hentries Hp.at Hp.set Hp.lay arBits hupdated setAt CallP YieldP BoolOf IsWrap Rnd LoopP AppP CutP Int.tmod Int.tdiv Int.fdiv
section
variable [Unknowns]
attribute [local irreducible] ResP sameAt natI tv finP
theorem best_spec {n : Nat} {P : List (Int × Int)} {near : Nat → Nat} (hT : TreeOk n P near) (km : Nat) (m : Nat) : ∀ (S : Nat) (h : Hp), cnt n S < m → S < 2 ^ n → KM (adj P) n h km → CallP E 69 [mapAt km, .agg ⟨tv n near⟩, int S] h (fun r h' => r = pairV (B (adj P) n S) ∧ KM (adj P) n h' km ∧ GM km h h') := by
  have hn := hT.n1
  have hpn : 2 ^ n ≤ 2 ^ 10 := Nat.pow_le_pow_right (by omega) hn
  obtain ⟨i106, t106, d106⟩ := ty106
  obtain ⟨i85, t85, -, -, z85⟩ := ty85z
  induction m with
  | zero => intro S h h0; omega
  | succ m ih =>
    intro S h hm hS hK
    have hlt : km < h.next := by
      obtain ⟨f, c, ⟨es, c', h3, _⟩, _⟩ := hK
      exact Hp.lt_of_at h3
    have g0 : Grows h ((h.lay (.row 102 true (tv n near))).lay (.row 85 true [int 0, int 0])) := (Grows.lay _ _).then_lay _
    have hK0 := hK.ext g0
    obtain ⟨f, c, hM, hf⟩ := hK0
    refine enter69 (by simp) ?_
    conv => whnf
    refine SeqP.go ?_
    conv => whnf
    have hopt : f (S : Int) = none ∨ ∃ v, f (S : Int) = some v := by
      cases f (S : Int) with
      | none => exact .inl rfl
      | some v => exact .inr ⟨v, rfl⟩
    rcases hopt with hs | ⟨v, hs⟩
    rotate_left
    · obtain ⟨S', e1, _, e2⟩ := hf _ _ hs
      have e1' : S' = S := by omega
      subst e1'
      subst e2
      repeat (refine SeqP.go ?_; conv => whnf)
      refine raw_look2_some t106 d106 t85 z85 keyS (k := (S' : Int)) rfl rfl hM hs ?_
      conv => whnf
      refine ⟨rfl, _, storeAt_all (vs := [int (B (adj P) n S').1, int (B (adj P) n S').2]) rfl rfl rfl, ?_⟩
      conv => whnf
      repeat (refine SeqP.go ?_; conv => whnf)
      refine ⟨_, two_cells2 (Hp.at_lay_self _ _), ?_⟩
      conv => whnf
      refine ⟨rfl, _, storeAt_full (vs := [int (B (adj P) n S').1, int (B (adj P) n S').2]) (Hp.at_lay_old _ (Hp.at_lay_self _ _)) rfl rfl rfl, ?_⟩
      conv => whnf
      repeat (refine SeqP.go ?_; conv => whnf)
      have hne : (h.lay (.row 102 true (tv n near))).next ≠ km := by simp only [Hp.next_lay]; omega
      refine fin_pair (p := B (adj P) n S') rfl (Hp.at_set_self _ (by simp only [Hp.next_lay]; omega)) ⟨rfl, (KM.ext (Grows.lay _ _) ⟨f, c, hM, hf⟩).set _ hne, (GM.of (g0.then_lay _)).then_set _ (by simp only [Hp.next_lay]; omega)⟩
    repeat (refine SeqP.go ?_; conv => whnf)
    refine raw_look2_none t106 d106 t85 z85 keyS (k := (S : Int)) rfl rfl hM hs ?_
    conv => whnf
    refine ⟨rfl, _, storeAt_all (vs := [int 0, int 0]) rfl rfl rfl, ?_⟩
    conv => whnf
    repeat (refine SeqP.go ?_; conv => whnf)
    refine ⟨rfl, _, storeAt_all (vs := [int 0, int (-1)]) rfl rfl rfl, ?_⟩
    conv => whnf
    have n1 : ptr (h.lay (.row 102 true (tv n near))).next 0 = ptr (h.next + 1) 0 := congrArg (fun k => ptr k 0) (Hp.next_lay _ _)
    have n3 : ptr (((h.lay (.row 102 true (tv n near))).lay (.row 85 true [int 0, int 0])).lay (.row 85 true [int 0, int 0])).next 0 = ptr (h.next + 3) 0 := congrArg (fun k => ptr k 0) (by simp only [Hp.next_lay])
    have k0 : KS (adj P) n near h km (0, -1) ((((h.lay (.row 102 true (tv n near))).lay (.row 85 true [int 0, int 0])).lay (.row 85 true [int 0, int 0])).lay (.row 85 true [int 0, int (-1)])) :=
      ⟨GM.of ((g0.then_lay _).then_lay _), Hp.at_lay_old _ (Hp.at_lay_old _ (Hp.at_lay_old _ (Hp.at_lay_self _ _))), Hp.at_lay_old _ (Hp.at_lay_old _ (at_nx2 (Hp.next_lay _ _) (Hp.at_lay_self _ _))), at_nx2 (by simp only [Hp.next_lay]) (Hp.at_lay_self _ _), hK.ext ((g0.then_lay _).then_lay _), hlt⟩
    have ht0 : (tv n near)[0]? = some (int n) := by unfold tv; rfl
    refine SeqP.cut (α := Unit) (fun _ => [(9, ptr (h.next + 3) 0), (6, ptr (h.next + 1) 0), (4, ptr h.next 0), (0, mapAt km), (2, int S)]) (fun _ H => KS (adj P) n near h km (B (adj P) n S) H) ?_ ?_
    rotate_left
    · rintro _ φ9 H9 hk
      obtain ⟨f9, c9, hM9, hf9⟩ := hk.known
      conv => whnf
      refine SeqP.go ?_
      conv => whnf
      refine ⟨_, two_cells2 hk.at9, ?_⟩
      conv => whnf
      refine raw_update t106 d106 keyS (k := (S : Int)) (v := pairV (B (adj P) n S)) rfl rfl rfl hM9 ?_
      intro H10 hM10 hkp
      have hK10 : KM (adj P) n H10 km := ⟨_, _, hM10, fun s v hv => by
        by_cases e : s = (S : Int)
        · rw [if_pos e] at hv
          exact ⟨S, e, hS, (Option.some.inj hv).symm⟩
        · rw [if_neg e] at hv
          exact hf9 s v hv⟩
      have hk10 := hk.ext (GM.of_keeps hkp) hK10
      conv => whnf
      repeat (refine SeqP.go ?_; conv => whnf)
      refine ⟨_, two_cells2 hk10.at9, ?_⟩
      conv => whnf
      refine ⟨rfl, _, storeAt_full (vs := [int (B (adj P) n S).1, int (B (adj P) n S).2]) hk10.at6 rfl rfl rfl, ?_⟩
      conv => whnf
      repeat (refine SeqP.go ?_; conv => whnf)
      exact fin_pair (p := B (adj P) n S) rfl (Hp.at_set_self _ (Hp.lt_of_at hk10.at6)) ⟨rfl, hK10.set _ (by omega), hk10.gm.then_set _ (by omega)⟩
    conv => whnf
    repeat (refine SeqP.go ?_; conv => whnf)
    refine ⟨int n, cellAt_row k0.at4 ht0, ?_⟩
    conv => whnf
    refine loop_inv (α := Nat × Hp) (fun s => [(25, int s.1), (24, int n), (9, ptr (h.next + 3) 0), (6, ptr (h.next + 1) 0), (4, ptr h.next 0), (0, mapAt km), (2, int S)]) (fun s => s.2) (fun s => s.1 ≤ n ∧ KS (adj P) n near h km (scan S (nodeC (adj P) n S) s.1) s.2) (fun s => n - s.1) (0, _) ⟨Nat.zero_le _, k0⟩ ⟨rfl, rfl, n3, n1, rfl, rfl, rfl, trivial⟩ (Hp.Le.refl _) ?_
    clear k0 hM n1 n3 g0
    rintro ⟨k, H⟩ φ ⟨hkn, hk⟩
    dsimp only at hkn hk ⊢
    conv => whnf
    repeat (refine SeqP.go ?_; conv => whnf)
    refine cmpB (fun hb1 => ?_) (fun hb1 => ?_)
    rotate_left
    · have : k = n := by omega
      subst this
      rw [← B_step] at hk
      conv => whnf
      repeat (refine SeqP.go ?_; conv => whnf)
      exact ⟨(), ⟨rfl, rfl, rfl, rfl, rfl, trivial⟩, hk, rfl⟩
    have hkl : k < n := by omega
    have e0 := scan_succ S (nodeC (adj P) n S) k
    conv => whnf
    refine SeqP.go ?_
    conv => whnf
    refine SeqP.cut (α := Hp) (fun _ => [(25, int k), (24, int n), (9, ptr (h.next + 3) 0), (6, ptr (h.next + 1) 0), (4, ptr h.next 0), (0, mapAt km), (2, int S)]) (fun H1 H2 => H1 = H2 ∧ KS (adj P) n near h km (scan S (nodeC (adj P) n S) (k + 1)) H1) ?_ ?_
    rotate_left
    · rintro H1 φ1 _ ⟨rfl, hk1⟩
      conv => whnf
      refine ⟨((k + 1 : Nat) : Int), wie (by omega) (by omega), ?_⟩
      conv => whnf
      exact Rnd.mk (k + 1, _) ⟨by show k + 1 ≤ n; omega, hk1⟩ (by show n - (k + 1) < n - k; omega) ⟨rfl, rfl, rfl, rfl, rfl, rfl, rfl, trivial⟩ (Hp.Le.refl _) rfl
    conv => whnf
    refine SeqP.go ?_
    conv => whnf
    refine SeqP.cut (α := Unit) (fun _ => [(10, int k), (25, int k), (24, int n), (9, ptr (h.next + 3) 0), (6, ptr (h.next + 1) 0), (4, ptr h.next 0), (0, mapAt km), (2, int S)]) (fun _ H' => H = H' ∧ S.testBit k = true) ?_ ?_
    · conv => whnf
      repeat (refine SeqP.go ?_; conv => whnf)
      refine CallP.mono (has_spec S k (by omega) (by omega) H) ?_
      rintro r _ ⟨rfl, rfl⟩
      cases hbit : S.testBit k with
      | false =>
        conv => whnf
        repeat (refine SeqP.go ?_; conv => whnf)
        exact ⟨_, ⟨rfl, rfl, rfl, rfl, rfl, rfl, rfl, trivial⟩, ⟨rfl, by rw [e0, hbit, if_neg (by simp)]; exact hk⟩, rfl⟩
      | true =>
        conv => whnf
        repeat (refine SeqP.go ?_; conv => whnf)
        exact ⟨(), ⟨rfl, rfl, rfl, rfl, rfl, rfl, rfl, rfl, trivial⟩, ⟨rfl, rfl⟩, rfl⟩
    rintro _ φ2 _ ⟨rfl, hbit⟩
    rw [hbit, if_pos rfl] at e0
    conv => whnf
    refine SeqP.go ?_
    conv => whnf
    refine ⟨rfl, _, storeAt_all (vs := [int 0, int k]) rfl rfl rfl, ?_⟩
    have hnH := hk.gm.next
    have hgc : Grows H (H.lay (.row 85 true [int 0, int k])) := Grows.lay _ _
    have hkc := hk.ext (GM.of hgc) (hk.known.ext hgc)
    have hlt9 := Hp.lt_of_at hk.at9
    have hc0 : (H.lay (.row 85 true [int 0, int k])).at H.next = some (.row 85 true [int 0, int k]) := Hp.at_lay_self _ _
    conv => whnf
    refine SeqP.cut (α := Hp) (fun _ => [(11, ptr H.next 0), (25, int k), (24, int n), (9, ptr (h.next + 3) 0), (6, ptr (h.next + 1) 0), (4, ptr h.next 0), (0, mapAt km), (2, int S)]) (fun H1 H2 => H1 = H2 ∧ KS (adj P) n near h km (scan S (nodeC (adj P) n S) k) H1 ∧ H1.at H.next = some (.row 85 true [int (nodeC (adj P) n S k), int k])) ?_ ?_
    · conv => whnf
      repeat (refine SeqP.go ?_; conv => whnf)
      refine ⟨tv n near, by rw [cellsAt_row hkc.at4 (by rw [tv_length]; omega), List.drop_zero, List.take_of_length_le (by rw [tv_length]; omega)], ?_⟩
      conv => whnf
      refine CallP.mono (without_spec hT S k hS (by omega) _) ?_
      rintro r H1 ⟨L, hL, hbL, hgL⟩
      have hgL' : Grows (H.lay (.row 85 true [int 0, int k])) H1 := hgL
      have hpe := partsOf_eq hL
      have hLle := parts_le hL
      have hLlen : (natI L).length = L.length := by unfold natI; rw [List.length_map]
      have hlS : less S (2 ^ k) < 2 ^ n := less_lt hS
      have hLn : L.length ≤ less S (2 ^ k) := parts_len hL
      have hwk := hbL.ints
      obtain ⟨aw, cw, rfl, -⟩ := hwk
      have hk1 := hkc.ext (GM.of hgL') (hkc.known.ext hgL')
      have hc1 := hgL'.at_ _ _ hc0
      conv => whnf
      refine loop_inv (α := Nat × Hp) (fun s => [(39, int s.1), (38, int (natI L).length), (37, .slice aw (natI L).length cw), (11, ptr H.next 0), (25, int k), (24, int n), (9, ptr (h.next + 3) 0), (6, ptr (h.next + 1) 0), (4, ptr h.next 0), (0, mapAt km), (2, int S)]) (fun s => s.2) (fun s => s.1 ≤ L.length ∧ KS (adj P) n near h km (scan S (nodeC (adj P) n S) k) s.2 ∧ s.2.at H.next = some (.row 85 true [int (mx ((L.take s.1).map fun p => 1 + (B (adj P) n p).1)), int k]) ∧ Built (H.lay (.row 85 true [int 0, int k])) s.2 3 (.slice aw (natI L).length cw) (natI L)) (fun s => L.length - s.1) (0, H1) ⟨Nat.zero_le _, hk1, hc1, hbL⟩ ⟨rfl, rfl, rfl, rfl, rfl, rfl, rfl, rfl, rfl, rfl, rfl, trivial⟩ (Hp.Le.refl _) ?_
      clear hk1 hc1 hbL hgL hgL'
      rintro ⟨j, H2⟩ φ3 ⟨hj, hk2, hc2, hb2⟩
      dsimp only at hj hk2 hc2 hb2 ⊢
      conv => whnf
      repeat (refine SeqP.go ?_; conv => whnf)
      refine cmpB (fun hb3 => ?_) (fun hb3 => ?_)
      rotate_left
      · have : j = L.length := by omega
        subst this
        rw [List.take_of_length_le (Nat.le_refl _)] at hc2
        conv => whnf
        repeat (refine SeqP.go ?_; conv => whnf)
        exact ⟨H2, ⟨rfl, rfl, rfl, rfl, rfl, rfl, rfl, rfl, trivial⟩, ⟨rfl, hk2, by rw [hc2]; unfold nodeC; rw [hpe]⟩, rfl⟩
      have hjL : j < L.length := by omega
      have hbi := hb2.ints
      obtain ⟨aw', cw', ew, hcell⟩ := hbi
      cases ew
      have hc := hcell j (by omega)
      obtain ⟨r, o, sp, ea, hsp, hci⟩ := hc
      subst ea
      have eLj : (natI L)[j]'(by omega) = (L[j] : Int) := by unfold natI; rw [List.getElem_map]
      rw [eLj] at hci
      have hxle := hLle _ (List.getElem_mem hjL)
      have hpm : L[j] ∈ partsOf (adj P) (less S (2 ^ k)) := by rw [hpe]; exact List.getElem_mem hjL
      have hpc := part_cnt (adj P) hkl hbit hpm
      have hpb := B_bd (adj P) n (cnt n L[j]) L[j] (Nat.le_refl _)
      have hcn := cnt_le n S
      have hmb : ∀ j, 0 ≤ mx ((L.take j).map fun p => 1 + (B (adj P) n p).1) ∧ mx ((L.take j).map fun p => 1 + (B (adj P) n p).1) ≤ 1000 := fun j => mx_bd (by omega) fun x hx => by
        obtain ⟨p, _, rfl⟩ := List.mem_map.1 hx
        have h1 := B_bd (adj P) n (cnt n p) p (Nat.le_refl _)
        have h2 := cnt_le n p
        omega
      have hmj := hmb j
      have emx : mx ((L.take (j + 1)).map fun p => 1 + (B (adj P) n p).1) = max (mx ((L.take j).map fun p => 1 + (B (adj P) n p).1)) (1 + (B (adj P) n L[j]).1) := by
        rw [List.take_succ_eq_append_getElem hjL, List.map_append, List.map_singleton, mx_snoc]
      conv => whnf
      refine SeqP.go ?_
      conv => whnf
      refine SeqP.cut (α := Hp) (fun _ => [(39, int j), (38, int (natI L).length), (37, .slice (some ⟨r, o, sp⟩) (natI L).length cw), (11, ptr H.next 0), (25, int k), (24, int n), (9, ptr (h.next + 3) 0), (6, ptr (h.next + 1) 0), (4, ptr h.next 0), (0, mapAt km), (2, int S)]) (fun H3 H4 => H3 = H4 ∧ KS (adj P) n near h km (scan S (nodeC (adj P) n S) k) H3 ∧ H3.at H.next = some (.row 85 true [int (mx ((L.take (j + 1)).map fun p => 1 + (B (adj P) n p).1)), int k]) ∧ Built (H.lay (.row 85 true [int 0, int k])) H3 3 (.slice (some ⟨r, o, sp⟩) (natI L).length cw) (natI L)) ?_ ?_
      rotate_left
      · rintro H3 φ4 _ ⟨rfl, hk3, hc3, hb3⟩
        conv => whnf
        refine ⟨((j + 1 : Nat) : Int), wie (by omega) (by omega), ?_⟩
        conv => whnf
        exact Rnd.mk (j + 1, _) ⟨by show j + 1 ≤ _; omega, hk3, hc3, hb3⟩ (by show _ - (j + 1) < _ - j; omega) ⟨rfl, rfl, rfl, rfl, rfl, rfl, rfl, rfl, rfl, rfl, rfl, trivial⟩ (Hp.Le.refl _) rfl
      conv => whnf
      refine SeqP.go ?_
      conv => whnf
      refine ⟨hsp, ⟨by omega, by omega⟩, ?_⟩
      conv => whnf
      refine ⟨int L[j], by rw [offAt_eq, Nat.add_comm]; simpa using hci, ?_⟩
      conv => whnf
      refine ⟨_, cellAt_row hc2 rfl, ?_⟩
      conv => whnf
      refine ⟨tv n near, by rw [cellsAt_row hk2.at4 (by rw [tv_length]; omega), List.drop_zero, List.take_of_length_le (by rw [tv_length]; omega)], ?_⟩
      conv => whnf
      refine CallP.mono (ih L[j] H2 (by omega) (by omega) hk2.known) ?_
      rintro r5 H5 ⟨rfl, hK5, hg5⟩
      have hneq : H.next ≠ km := by omega
      have hk5 := hk2.ext hg5 hK5
      have hc5 := hg5.at_ _ _ hneq hc2
      have hb5 := built_gm hb2 hk2.known hg5
      conv => whnf
      refine ⟨1 + (B (adj P) n L[j]).1, wie rfl (by omega), ?_⟩
      conv => whnf
      refine ⟨rfl, _, storeAt_row hc5 (by simp) rfl, ?_⟩
      conv => whnf
      refine ⟨?_, ?_⟩
      · repeat' (first | exact True.intro | (refine And.intro ?_ ?_ <;> (conv => whnf)))
        all_goals first
          | exact sameAt_val (h2 := _) rfl (sameV_ptr3 _ _)
          | exact sameAt_val (h2 := _) rfl (sameV_int _)
          | exact sameAt_val (h2 := _) (congrArg (hval _) (cellAt_row hc2 rfl)) (sameV_int _)
          | exact sameAt_val (h2 := _) (congrArg (hval _) (cellAt_row hc5 rfl)) (sameV_int _)
          | skip
      conv => whnf
      refine ⟨_, ⟨rfl, rfl, rfl, rfl, rfl, rfl, rfl, rfl, rfl, rfl, rfl, trivial⟩, ⟨rfl, hk5.set _ (by omega), ?_, built_set_lt hb5 (by simp only [Hp.next_lay]; omega)⟩, rfl⟩
      rw [Hp.at_set_self _ (Hp.lt_of_at hc5), emx]
      exact congrArg (fun z => some (Rx.Obj.row 85 true [z, int k])) (max_eq3 _ _)
    rintro H3 φ7 _ ⟨rfl, hk3, hc3⟩
    have hexx : ∃ x, scan S (nodeC (adj P) n S) k = x := ⟨_, rfl⟩
    obtain ⟨x, ex⟩ := hexx
    have hexy : ∃ y, nodeC (adj P) n S k = y := ⟨_, rfl⟩
    obtain ⟨y, ey⟩ := hexy
    rw [ex, ey] at e0
    rw [ex] at hk3
    rw [ey] at hc3
    conv => whnf
    refine SeqP.cut (α := Int × Int) (fun _ => [(11, ptr H.next 0), (25, int k), (24, int n), (9, ptr (h.next + 3) 0), (6, ptr (h.next + 1) 0), (4, ptr h.next 0), (0, mapAt km), (2, int S)]) (fun z H' => z = (if x.2 < 0 then (y, (k : Int)) else x) ∧ KS (adj P) n near h km z H' ∧ H'.at H.next = some (.row 85 true [int y, int k])) ?_ ?_
    · conv => whnf
      repeat (refine SeqP.go ?_; conv => whnf)
      refine ⟨int x.2, cellAt_row hk3.at9 rfl, ?_⟩
      conv => whnf
      refine cmpB (fun c1 => ?_) (fun c1 => ?_)
      · conv => whnf
        repeat (refine SeqP.go ?_; conv => whnf)
        refine ⟨_, two_cells2 hc3, ?_⟩
        conv => whnf
        refine ⟨rfl, _, storeAt_full (vs := [int y, int k]) hk3.at9 rfl rfl rfl, ?_⟩
        conv => whnf
        exact ⟨(y, (k : Int)), ⟨rfl, rfl, rfl, rfl, rfl, rfl, rfl, rfl, trivial⟩, ⟨(if_pos c1).symm, hk3.upd (y, (k : Int)) rfl, by rw [Hp.at_set_ne _ (by omega)]; exact hc3⟩, rfl⟩
      · conv => whnf
        repeat (refine SeqP.go ?_; conv => whnf)
        exact ⟨x, ⟨rfl, rfl, rfl, rfl, rfl, rfl, rfl, rfl, trivial⟩, ⟨(if_neg c1).symm, hk3, hc3⟩, rfl⟩
    rintro z φ8 H6 ⟨ez, hk6, hc6⟩
    rw [← ez] at e0
    conv => whnf
    refine ⟨_, two_cells2 hk6.at9, ?_⟩
    conv => whnf
    refine ⟨_, two_cells2 hc6, ?_⟩
    conv => whnf
    refine CallP.mono (better_spec z (y, (k : Int)) _) ?_
    rintro r h7 ⟨rfl, g7⟩
    have hk7 := hk6.ext (GM.of g7) (hk6.known.ext g7)
    conv => whnf
    refine ⟨rfl, _, storeAt_full (vs := [int (betterOf z (y, (k : Int))).1, int (betterOf z (y, (k : Int))).2]) hk7.at9 rfl rfl rfl, ?_⟩
    conv => whnf
    exact ⟨_, ⟨rfl, rfl, rfl, rfl, rfl, rfl, rfl, trivial⟩, ⟨rfl, by rw [e0]; exact hk7.upd (betterOf z (y, (k : Int))) rfl⟩, rfl⟩
end
end Go.Proofs.Yticmdpcahpimhaa
