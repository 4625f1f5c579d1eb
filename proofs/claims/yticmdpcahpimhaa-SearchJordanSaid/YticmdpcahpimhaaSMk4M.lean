/- Contracts of the functions that SJorZ comes to. -/
import Derived.Test.YticmdpcahpimhaaSKb3
set_option maxRecDepth 100000
set_option maxHeartbeats 1000000
set_option linter.unusedVariables false
set_option linter.unusedSectionVars false
set_option linter.unusedSimpArgs false
namespace Go.Proofs.Yticmdpcahpimhaa
open Go.Rx Go.RowKit Go.Comp
theorem finP_none {φ : Rx.Frame} {H : Hp} {Q : Value → Hp → Prop} (q : Q (.tuple ⟨[]⟩) H) : finP E [] ⟨φ, H, []⟩ Q := q
/-- The marks of a set, laid over a list. -/
noncomputable def mkL (A : Comp.Rel) (n : Nat) : Nat → Nat → List Int → List Int
  | 0, _, l => l
  | m + 1, S, l => (partsOf A (less S (2 ^ (B A n S).2.toNat))).foldl (fun l p => mkL A n m p l) (l.set (B A n S).2.toNat (B A n S).1)
theorem mkL_len (A : Comp.Rel) (n : Nat) : ∀ (m S : Nat) (l : List Int), (mkL A n m S l).length = l.length
  | 0, _, _ => rfl
  | m + 1, S, l => by
    have key : ∀ (ps : List Nat) (l : List Int), (ps.foldl (fun l p => mkL A n m p l) l).length = l.length := by
      intro ps
      induction ps with
      | nil => intro l; rfl
      | cons p ps ih => intro l; exact (ih _).trans (mkL_len A n m p l)
    exact (key _ _).trans (List.length_set ..)
/-- What marking keeps. -/
structure GK (N : Nat) (h h' : Hp) : Prop where
  next : h.next ≤ h'.next
  at_ : ∀ r o, r ≠ N + 1 → r ≠ N + 3 → h.at r = some o → h'.at r = some o
theorem GK.refl (N : Nat) (h : Hp) : GK N h h := ⟨Nat.le_refl _, fun _ _ _ _ e => e⟩
theorem GK.trans {N : Nat} {a b c : Hp} (x : GK N a b) (y : GK N b c) : GK N a c := ⟨Nat.le_trans x.next y.next, fun r o h1 h2 e => y.at_ r o h1 h2 (x.at_ r o h1 h2 e)⟩
theorem GK.of {N : Nat} {h h' : Hp} (g : Grows h h') : GK N h h' := ⟨g.next, fun r o _ _ e => g.at_ r o e⟩
theorem GK.gm {N : Nat} {h h' : Hp} (g : GM (N + 3) h h') : GK N h h' := ⟨g.next, fun r o _ h2 e => g.at_ r o h2 e⟩
theorem built_gk {N : Nat} {h0 h h' : Hp} {e : TypeId} {v : Value} {l : List Int} (k : Built h0 h e v l) (hN : N + 6 ≤ h0.next) (g : GK N h h') : Built h0 h' e v l := by
  rcases k with h1 | ⟨r, rfl, h2, x, hr⟩
  · exact .inl h1
  · exact .inr ⟨r, rfl, h2, x, g.at_ _ _ (by omega) (by omega) hr⟩
def mkV (N : Nat) : Value := .func (.func 89) ⟨[]⟩ ⟨[ptr (N + 4) 0, ptr N 0, ptr (N + 2) 0, ptr (N + 5) 0]⟩
/-- Memory while marks are laid. -/
structure MM (A : Comp.Rel) (n : Nat) (near : Nat → Nat) (N : Nat) (l : List Int) (H : Hp) : Prop where
  t : H.at N = some (.row 102 true (tv n near))
  o : H.at (N + 2) = some (.row 22 true [slc (N + 1) 0 n n])
  row : H.at (N + 1) = some (.row 3 true (l.map int))
  kc : H.at (N + 4) = some (.row 106 true [mapAt (N + 3)])
  km : KM A n H (N + 3)
  fn : H.at (N + 5) = some (.row 127 true [mkV N])
  nx : N + 6 ≤ H.next
  len : l.length = n
theorem MM.ext {A : Comp.Rel} {n : Nat} {near : Nat → Nat} {N : Nat} {l : List Int} {H H' : Hp} (k : MM A n near N l H) (g : GM (N + 3) H H') (hk : KM A n H' (N + 3)) : MM A n near N l H' :=
  ⟨g.at_ _ _ (by omega) k.t, g.at_ _ _ (by omega) k.o, g.at_ _ _ (by omega) k.row, g.at_ _ _ (by omega) k.kc, hk, g.at_ _ _ (by omega) k.fn, Nat.le_trans k.nx g.next, k.len⟩
theorem MM.grow {A : Comp.Rel} {n : Nat} {near : Nat → Nat} {N : Nat} {l : List Int} {H H' : Hp} (k : MM A n near N l H) (g : Grows H H') : MM A n near N l H' := k.ext (GM.of g) (k.km.ext g)
theorem MM.put {A : Comp.Rel} {n : Nat} {near : Nat → Nat} {N : Nat} {l : List Int} {H : Hp} (k : MM A n near N l H) (v : Nat) (x : Int) : MM A n near N (l.set v x) (H.set (N + 1) (.row 3 true ((l.set v x).map int))) :=
  ⟨by rw [Hp.at_set_ne _ (by omega)]; exact k.t, by rw [Hp.at_set_ne _ (by omega)]; exact k.o, Hp.at_set_self _ (Hp.lt_of_at k.row), by rw [Hp.at_set_ne _ (by omega)]; exact k.kc, k.km.set _ (by omega), by rw [Hp.at_set_ne _ (by omega)]; exact k.fn, k.nx, by rw [List.length_set]; exact k.len⟩
theorem gk_put {N : Nat} {H : Hp} (o : Rx.Obj) : GK N H (H.set (N + 1) o) := ⟨Nat.le_refl _, fun r o' h1 _ e => by rw [Hp.at_set_ne _ h1]; exact e⟩
theorem map_set_int (l : List Int) (v : Nat) (x : Int) : (l.map int).set v (int x) = (l.set v x).map int := by rw [List.map_set]
theorem parts_ne {A : Comp.Rel} {s : Nat} {l : List Nat} (h : IsParts A s l) : ∀ p ∈ l, ∃ u, p.testBit u = true := by
  induction h with
  | nil => intro p hp; simp at hp
  | @cons s v p l hv hm hp hl ih =>
    intro q hq
    rcases List.mem_cons.1 hq with rfl | hq
    · exact ⟨v, (hp v).2 (.refl hv)⟩
    · exact ih q hq
theorem sub_bit {s n u : Nat} (hs : s < 2 ^ n) (hu : s.testBit u = true) : u < n := by
  rcases Nat.lt_or_ge u n with h | h
  · exact h
  · rw [Nat.testBit_lt_two_pow (Nat.lt_of_lt_of_le hs (Nat.pow_le_pow_right (by omega) h))] at hu; cases hu
theorem B_in (A : Comp.Rel) {n S : Nat} (h : 1 ≤ cnt n S) : ∃ v : Nat, v < n ∧ S.testBit v = true ∧ B A n S = (nodeC A n S v, (v : Int)) := by
  rw [B_step]
  rcases scan_bd (S := S) (c := nodeC A n S) (M := (n : Int) + 1) (k := n) (fun v hv hb => by
    refine mx_bd (by omega) fun x hx => ?_
    obtain ⟨p, _, rfl⟩ := List.mem_map.1 hx
    have h1 := B_bd A n (cnt n p) p (Nat.le_refl _)
    have h2 := cnt_le n p
    omega) with ⟨h1, h2⟩ | ⟨v, h1, h2, h3⟩
  · exfalso
    have : ∀ n, (∀ v, v < n → S.testBit v = false) → cnt n S = 0 := by
      intro n
      induction n with
      | zero => intro _; rfl
      | succ n ih =>
        intro hh
        unfold cnt
        rw [ih fun v hv => hh v (by omega), hh n (by omega)]
        rfl
    have := this n h2
    omega
  · exact ⟨v, h1, h2, h3⟩
attribute [local irreducible] E idxN cellAt cellsAt storeAt callable helems hmoved lookIn findKey keyOk hentries Hp.at Hp.set Hp.lay arBits hupdated setAt CallP YieldP BoolOf IsWrap Rnd LoopP AppP CutP Int.tmod Int.tdiv Int.fdiv
section
variable [Unknowns]
attribute [local irreducible] ResP sameAt natI tv finP mkV
theorem mark_spec {n : Nat} {P : List (Int × Int)} {near : Nat → Nat} (hT : TreeOk n P near) (N : Nat) (m : Nat) : ∀ (S : Nat) (l : List Int) (H : Hp), 1 ≤ cnt n S → cnt n S ≤ m → S < 2 ^ n → MM (adj P) n near N l H → CallP E 89 [int S, ptr (N + 4) 0, ptr N 0, ptr (N + 2) 0, ptr (N + 5) 0] H (fun r H' => MM (adj P) n near N (mkL (adj P) n m S l) H' ∧ GK N H H') := by
  have hn := hT.n1
  have hpn : 2 ^ n ≤ 2 ^ 10 := Nat.pow_le_pow_right (by omega) hn
  induction m with
  | zero => intro S l H h0 h1; omega
  | succ m ih =>
    intro S l H h0 hm hS hM
    have hB := B_in (adj P) h0
    obtain ⟨v, hv, hbit, eB⟩ := hB
    have hmk : mkL (adj P) n (m + 1) S l = (partsOf (adj P) (less S (2 ^ v))).foldl (fun l p => mkL (adj P) n m p l) (l.set v (nodeC (adj P) n S v)) := by
      show (partsOf (adj P) (less S (2 ^ (B (adj P) n S).2.toNat))).foldl _ (l.set (B (adj P) n S).2.toNat (B (adj P) n S).1) = _
      rw [eB]
      rfl
    rw [hmk]
    clear hmk
    have hexc : ∃ c, nodeC (adj P) n S v = c := ⟨_, rfl⟩
    obtain ⟨c, ec⟩ := hexc
    rw [ec] at eB ⊢
    refine enter89 (by simp) ?_
    conv => whnf
    repeat (refine SeqP.go ?_; conv => whnf)
    refine ⟨_, cellAt_row hM.kc rfl, ?_⟩
    conv => whnf
    refine ⟨tv n near, by rw [cellsAt_row hM.t (by rw [tv_length]; omega), List.drop_zero, List.take_of_length_le (by rw [tv_length]; omega)], ?_⟩
    conv => whnf
    refine CallP.mono (best_spec hT (N + 3) (n + 1) S H (by have := cnt_le n S; omega) hS hM.km) ?_
    rintro r H1 ⟨er, hK1, hG1⟩
    rw [eB] at er
    subst er
    have hM1 := (hM.ext hG1 hK1).grow (Grows.lay H1 (.row 85 true [int c, int v]))
    have hG1' : GK N H (H1.lay (.row 85 true [int c, int v])) := (GK.gm hG1).trans (GK.of (Grows.lay _ _))
    have hbx : (H1.lay (.row 85 true [int c, int v])).at H1.next = some (.row 85 true [int c, int v]) := Hp.at_lay_self _ _
    have hnx1 : N + 6 ≤ H1.next := Nat.le_trans hM.nx hG1.next
    conv => whnf
    refine ⟨rfl, _, storeAt_all (vs := [int c, int v]) rfl rfl rfl, ?_⟩
    conv => whnf
    repeat (refine SeqP.go ?_; conv => whnf)
    refine ⟨_, cellAt_row hM1.o rfl, ?_⟩
    conv => whnf
    refine ⟨_, cellAt_row hbx rfl, ?_⟩
    conv => whnf
    refine ⟨_, cellAt_row hbx rfl, ?_⟩
    conv => whnf
    refine ⟨rfl, ⟨by omega, by omega⟩, ?_⟩
    conv => whnf
    have hlen := hM.len
    have e9 : storeAt (H1.lay (.row 85 true [int c, int v])) (N + 1) (offAt 0 ((v : Int)).toNat 1) [int c] = some ((H1.lay (.row 85 true [int c, int v])).set (N + 1) (.row 3 true ((l.set v c).map int))) := by
      have := storeAt_row hM1.row (o := v) (v := int c) (by rw [List.length_map]; omega) rfl
      rw [map_set_int] at this
      rw [offAt_eq]
      simpa using this
    refine ⟨rfl, _, e9, ?_⟩
    have hM2 := hM1.put v c
    have hG2 := hG1'.trans (gk_put (.row 3 true ((l.set v c).map int)))
    have hbx2 : ((H1.lay (.row 85 true [int c, int v])).set (N + 1) (.row 3 true ((l.set v c).map int))).at H1.next = some (.row 85 true [int c, int v]) := by rw [Hp.at_set_ne _ (by omega)]; exact hbx
    conv => whnf
    repeat (refine SeqP.go ?_; conv => whnf)
    refine ⟨tv n near, by rw [cellsAt_row hM2.t (by rw [tv_length]; omega), List.drop_zero, List.take_of_length_le (by rw [tv_length]; omega)], ?_⟩
    conv => whnf
    refine ⟨_, cellAt_row hbx2 rfl, ?_⟩
    conv => whnf
    refine CallP.mono (without_spec hT S v hS (by omega) _) ?_
    rintro r H3 ⟨L, hL, hbL, hgL⟩
    have hM3 := hM2.grow hgL
    have hG3 := hG2.trans (GK.of hgL)
    have hpe := partsOf_eq hL
    have hLle := parts_le hL
    have hLlen : (natI L).length = L.length := by unfold natI; rw [List.length_map]
    have hlS : less S (2 ^ v) < 2 ^ n := less_lt hS
    have hLn : L.length ≤ less S (2 ^ v) := parts_len hL
    rw [hpe]
    have hwk := hbL.ints
    obtain ⟨aw, cw, rfl, -⟩ := hwk
    conv => whnf
    refine loop_inv (α := Nat × Hp) (fun s => [(25, int s.1), (24, int (natI L).length), (23, .slice aw (natI L).length cw), (4, ptr (N + 5) 0)]) (fun s => s.2) (fun s => s.1 ≤ L.length ∧ MM (adj P) n near N ((L.take s.1).foldl (fun l p => mkL (adj P) n m p l) (l.set v c)) s.2 ∧ GK N H s.2 ∧ Built ((H1.lay (.row 85 true [int c, int v])).set (N + 1) (.row 3 true ((l.set v c).map int))) s.2 3 (.slice aw (natI L).length cw) (natI L)) (fun s => L.length - s.1) (0, H3) ⟨Nat.zero_le _, hM3, hG3, hbL⟩ ⟨rfl, rfl, rfl, rfl, trivial⟩ (Hp.Le.refl _) ?_
    clear hM3 hG3 hbL hgL
    rintro ⟨j, H4⟩ φ3 ⟨hj, hM4, hG4, hb4⟩
    dsimp only at hj hM4 hG4 hb4 ⊢
    conv => whnf
    repeat (refine SeqP.go ?_; conv => whnf)
    refine cmpB (fun hb3 => ?_) (fun hb3 => ?_)
    rotate_left
    · have : j = L.length := by omega
      subst this
      rw [List.take_of_length_le (Nat.le_refl _)] at hM4
      conv => whnf
      repeat (refine SeqP.go ?_; conv => whnf)
      exact finP_none ⟨hM4, hG4⟩
    have hjL : j < L.length := by omega
    have hbi := hb4.ints
    obtain ⟨aw', cw', ew, hcell⟩ := hbi
    cases ew
    have hc := hcell j (by omega)
    obtain ⟨r, o, sp, ea, hsp, hci⟩ := hc
    subst ea
    have eLj : (natI L)[j]'(by omega) = (L[j] : Int) := by unfold natI; rw [List.getElem_map]
    rw [eLj] at hci
    have hxle := hLle _ (List.getElem_mem hjL)
    have hpm : L[j] ∈ partsOf (adj P) (less S (2 ^ v)) := by rw [hpe]; exact List.getElem_mem hjL
    have hpc := part_cnt (adj P) hv hbit hpm
    have hp1 : 1 ≤ cnt n L[j] := by
      obtain ⟨u, hu⟩ := parts_ne hL _ (List.getElem_mem hjL)
      have hu2 := sub_bit (Nat.lt_of_le_of_lt hxle hlS) hu
      exact cnt_pos hu n hu2
    have emx : (L.take (j + 1)).foldl (fun l p => mkL (adj P) n m p l) (l.set v c) = mkL (adj P) n m L[j] ((L.take j).foldl (fun l p => mkL (adj P) n m p l) (l.set v c)) := by
      rw [List.take_succ_eq_append_getElem hjL, List.foldl_append]
      rfl
    conv => whnf
    repeat (refine SeqP.go ?_; conv => whnf)
    refine ⟨hsp, ⟨by omega, by omega⟩, ?_⟩
    conv => whnf
    refine ⟨int L[j], by rw [offAt_eq, Nat.add_comm]; simpa using hci, ?_⟩
    conv => whnf
    repeat (refine SeqP.go ?_; conv => whnf)
    refine ⟨_, cellAt_row hM4.fn rfl, ?_⟩
    have emk : mkV N = .func (.func 89) ⟨[]⟩ ⟨[ptr (N + 4) 0, ptr N 0, ptr (N + 2) 0, ptr (N + 5) 0]⟩ := by unfold mkV; rfl
    rw [emk]
    conv => whnf
    refine ⟨can89, ?_⟩
    refine CallP.mono (ih L[j] _ H4 hp1 (by omega) (by omega) hM4) ?_
    rintro r5 H5 ⟨hM5, hG5⟩
    conv => whnf
    refine ⟨((j + 1 : Nat) : Int), wie (by omega) (by omega), ?_⟩
    conv => whnf
    exact Rnd.mk (j + 1, _) ⟨by show j + 1 ≤ _; omega, by rw [emx]; exact hM5, hG4.trans hG5, built_gk hb4 (by rw [Hp.next_set, Hp.next_lay]; omega) hG5⟩ (by show _ - (j + 1) < _ - j; omega) ⟨rfl, rfl, rfl, rfl, trivial⟩ (Hp.Le.refl _) rfl
end
end Go.Proofs.Yticmdpcahpimhaa
namespace Go.Proofs.Yticmdpcahpimhaa
open Go.Rx Go.RowKit Go.Comp
theorem all_bit {n v : Nat} : (2 ^ n - 1).testBit v = decide (v < n) := Nat.testBit_two_pow_sub_one n v
noncomputable def bestM (P : List (Int × Int)) (n : Nat) : List Int := mkL (adj P) n n (2 ^ n - 1) (List.replicate n 0)
theorem bestM_len (P : List (Int × Int)) (n : Nat) : (bestM P n).length = n := by unfold bestM; rw [mkL_len, List.length_replicate]
theorem wf_mk (N : Nat) : sameV 4 (mkV N) (mkV N) = true := by unfold mkV; simp [sameV, sameL, ptr]
theorem rep_int (n : Nat) : times [int 0] n = (List.replicate n (0 : Int)).map int := by
  induction n with
  | zero => rfl
  | succ n ih => show int 0 :: times [int 0] n = _; rw [ih, List.replicate_succ]; rfl
attribute [local irreducible] E idxN cellAt cellsAt storeAt callable helems hmoved lookIn findKey keyOk hentries Hp.at Hp.set Hp.lay arBits hupdated setAt CallP YieldP BoolOf IsWrap Rnd LoopP AppP CutP Int.tmod Int.tdiv Int.fdiv
section
variable [Unknowns]
attribute [local irreducible] ResP sameAt natI tv mkV
theorem tmarks_spec {n : Nat} {P : List (Int × Int)} {near : Nat → Nat} (hn1 : 1 ≤ n) (hT : TreeOk n P near) (h : Hp) : CallP E 71 [.agg ⟨tv n near⟩] h (fun r h' => Built h h' 3 r (bestM P n) ∧ Grows h h') := by
  have hn := hT.n1
  have hpn : 2 ^ n ≤ 2 ^ 10 := Nat.pow_le_pow_right (by omega) hn
  have ht0 : (tv n near)[0]? = some (int n) := by unfold tv; rfl
  refine enter71 (by simp) ?_
  conv => whnf
  repeat (refine SeqP.go ?_; conv => whnf)
  refine ⟨int n, cellAt_row (Hp.at_lay_self _ _) ht0, ?_⟩
  conv => whnf
  refine ⟨⟨by omega, by omega, by omega, by omega⟩, ?_⟩
  conv => whnf
  refine ⟨rfl, _, storeAt_all (vs := [slc _ 0 _ _]) rfl rfl rfl, ?_⟩
  conv => whnf
  repeat (refine SeqP.go ?_; conv => whnf)
  refine ⟨rfl, _, storeAt_all (vs := [mapAt _]) rfl rfl rfl, ?_⟩
  conv => whnf
  refine SeqP.go ?_
  conv => whnf
  refine SeqP.cut (α := Unit) (fun _ => [(5, ptr (h.next + 5) 0), (3, ptr (h.next + 2) 0), (1, ptr h.next 0)]) (fun _ H => MM (adj P) n near h.next (List.replicate n 0) H ∧ Grows h H) ?_ ?_
  · conv => whnf
    refine ⟨rfl, _, storeAt_all (vs := [.func (.func 89) ⟨[]⟩ ⟨[ptr _ 0, ptr _ 0, ptr _ 0, ptr _ 0]⟩]) rfl rfl rfl, ?_⟩
    conv => whnf
    refine ⟨(), ⟨congrArg (fun k => ptr k 0) (by simp only [Hp.next_lay]), congrArg (fun k => ptr k 0) (by simp only [Hp.next_lay]), rfl, trivial⟩, ⟨⟨?_, ?_, ?_, ?_, ?_, ?_, ?_, List.length_replicate⟩, ?_⟩, rfl⟩
    · exact Hp.at_lay_old _ (Hp.at_lay_old _ (Hp.at_lay_old _ (Hp.at_lay_old _ (Hp.at_lay_old _ (Hp.at_lay_self _ _)))))
    · refine Hp.at_lay_old _ (Hp.at_lay_old _ (Hp.at_lay_old _ ?_))
      exact at_nx2 (by simp only [Hp.next_lay]) ((Hp.at_lay_self _ _).trans (by simp only [Hp.next_lay, Int.toNat_natCast]))
    · refine Hp.at_lay_old _ (Hp.at_lay_old _ (Hp.at_lay_old _ (Hp.at_lay_old _ ?_)))
      exact at_nx2 (Hp.next_lay _ _) ((Hp.at_lay_self _ _).trans (by rw [Int.toNat_natCast, rep_int]))
    · refine Hp.at_lay_old _ ?_
      exact at_nx2 (by simp only [Hp.next_lay]) ((Hp.at_lay_self _ _).trans (by simp only [Hp.next_lay]))
    · have hk : KM (adj P) n ((((h.lay (.row 102 true (tv n near))).lay (.row 3 true (times [int 0] ((n : Int)).toNat))).lay (.row 22 true [slc (h.lay (.row 102 true (tv n near))).next 0 ((n : Int)).toNat ((n : Int)).toNat])).lay (.map [] 0)) (((h.lay (.row 102 true (tv n near))).lay (.row 3 true (times [int 0] ((n : Int)).toNat))).lay (.row 22 true [slc (h.lay (.row 102 true (tv n near))).next 0 ((n : Int)).toNat ((n : Int)).toNat])).next := ⟨fun _ => none, 0, MapAt.new _, fun s v e => by cases e⟩
      have e3 : (((h.lay (.row 102 true (tv n near))).lay (.row 3 true (times [int 0] ((n : Int)).toNat))).lay (.row 22 true [slc (h.lay (.row 102 true (tv n near))).next 0 ((n : Int)).toNat ((n : Int)).toNat])).next = h.next + 3 := by simp only [Hp.next_lay]
      rw [e3] at hk
      exact hk.ext ((Grows.lay _ _).then_lay _)
    · exact at_nx2 (by simp only [Hp.next_lay]) ((Hp.at_lay_self _ _).trans (by unfold mkV; simp only [Hp.next_lay]))
    · simp only [Hp.next_lay]; omega
    · exact (((((Grows.lay _ _).then_lay _).then_lay _).then_lay _).then_lay _).then_lay _
  rintro _ φ H ⟨hM, hG⟩
  have hc1 : 1 ≤ cnt n (2 ^ n - 1) := cnt_pos (v := 0) (by rw [all_bit, decide_eq_true (by omega)]) n hn1
  have hS : 2 ^ n - 1 < 2 ^ n := by have := Nat.two_pow_pos n; omega
  conv => whnf
  refine SeqP.go ?_
  conv => whnf
  refine ⟨.func (.func 89) ⟨[]⟩ ⟨[ptr (h.next + 4) 0, ptr h.next 0, ptr (h.next + 2) 0, ptr (h.next + 5) 0]⟩, (cellAt_row hM.fn rfl).trans (by unfold mkV; rfl), ?_⟩
  conv => whnf
  refine ⟨tv n near, by rw [cellsAt_row hM.t (by rw [tv_length]; omega), List.drop_zero, List.take_of_length_le (by rw [tv_length]; omega)], ?_⟩
  conv => whnf
  refine CallP.mono (all_spec n hn near H) ?_
  rintro r H1 ⟨rfl, g1⟩
  have hM1 := hM.grow g1
  conv => whnf
  refine ⟨can89, ?_⟩
  refine CallP.mono (mark_spec hT h.next n (2 ^ n - 1) _ H1 hc1 (cnt_le n _) hS hM1) ?_
  rintro r2 H2 ⟨hM2, hG2⟩
  have wf : ∀ H : Hp, ∀ l, MM (adj P) n near h.next l H → hval H (cellAt H (h.next + 5) 0) = .val (.func (.func 89) ⟨[]⟩ ⟨[ptr (h.next + 4) 0, ptr h.next 0, ptr (h.next + 2) 0, ptr (h.next + 5) 0]⟩) H := fun H l k => by
    have e := cellAt_row k.fn (o := 0) rfl
    unfold mkV at e
    rw [e]
    rfl
  have wf2 : sameV 4 (.func (.func 89) ⟨[]⟩ ⟨[ptr (h.next + 4) 0, ptr h.next 0, ptr (h.next + 2) 0, ptr (h.next + 5) 0]⟩) (.func (.func 89) ⟨[]⟩ ⟨[ptr (h.next + 4) 0, ptr h.next 0, ptr (h.next + 2) 0, ptr (h.next + 5) 0]⟩) = true := by simp [sameV, sameL, ptr]
  conv => whnf
  refine ⟨?_, ?_⟩
  · repeat' (first | exact True.intro | (refine And.intro ?_ ?_ <;> (conv => whnf)))
    all_goals first
      | exact sameAt_val (h2 := _) (wf _ _ hM) wf2
      | exact sameAt_val (h2 := _) (wf _ _ hM1) wf2
      | exact sameAt_val (h2 := _) (wf _ _ hM2) wf2
  conv => whnf
  repeat (refine SeqP.go ?_; conv => whnf)
  refine ⟨_, cellAt_row hM2.o rfl, ?_⟩
  conv => whnf
  repeat (refine SeqP.go ?_; conv => whnf)
  have hl := bestM_len P n
  refine ⟨.inr ⟨h.next + 1, ?_, by omega, true, hM2.row⟩, ?_⟩
  · show _ = slc (h.next + 1) 0 (bestM P n).length (bestM P n).length
    rw [hl]
    rfl
  · refine ⟨Nat.le_trans (Nat.le_trans hG.next g1.next) hG2.next, fun r o e => ?_⟩
    have hlt := Hp.lt_of_at e
    exact hG2.at_ _ _ (by omega) (by omega) (g1.at_ _ _ (hG.at_ _ _ e))
end
end Go.Proofs.Yticmdpcahpimhaa
namespace Go.Proofs.Yticmdpcahpimhaa
open Go.Rx Go.RowKit Go.Comp
theorem mkL_bd (A : Comp.Rel) (n : Nat) : ∀ (m S : Nat) (l : List Int), (∀ x ∈ l, 0 ≤ x ∧ x ≤ (n : Int)) → ∀ x ∈ mkL A n m S l, 0 ≤ x ∧ x ≤ (n : Int)
  | 0, _, l, h => h
  | m + 1, S, l, h => by
    have key : ∀ (ps : List Nat) (l : List Int), (∀ x ∈ l, 0 ≤ x ∧ x ≤ (n : Int)) → ∀ x ∈ ps.foldl (fun l p => mkL A n m p l) l, 0 ≤ x ∧ x ≤ (n : Int) := by
      intro ps
      induction ps with
      | nil => intro l h; exact h
      | cons p ps ih => intro l h; exact ih _ (mkL_bd A n m p l h)
    refine key _ _ fun x hx => ?_
    rcases List.mem_or_eq_of_mem_set hx with hx | rfl
    · exact h x hx
    · have h1 := B_bd A n (cnt n S) S (Nat.le_refl _)
      have h2 := cnt_le n S
      omega
theorem bestM_bd (P : List (Int × Int)) (n : Nat) : ∀ x ∈ bestM P n, 0 ≤ x ∧ x ≤ (n : Int) := mkL_bd _ _ _ _ _ fun x hx => by
  rw [(List.mem_replicate.1 hx).2]; omega
attribute [local irreducible] E idxN cellAt cellsAt storeAt callable helems hmoved lookIn findKey keyOk hentries Hp.at Hp.set Hp.lay arBits hupdated setAt CallP YieldP BoolOf IsWrap Rnd LoopP AppP CutP Int.tmod Int.tdiv Int.fdiv
section
variable [Unknowns]
attribute [local irreducible] ResP sameAt natI tv Z bestM
theorem Marks_spec (n : Nat) (P : List (Int × Int)) (hPl : P.length ≤ 1000) (hT : TreeP n P) (ev : Value) (h : Hp) (he : PairsV h ev P) : CallP E 42 [int n, ev] h (fun r h' => (∃ w, r = .tuple ⟨[w, int 0]⟩ ∧ Built h h' 3 w (bestM P n)) ∧ Grows h h') := by
  have hn1 := hT.n1
  refine enter42 (by simp) ?_
  conv => whnf
  repeat (refine SeqP.go ?_; conv => whnf)
  refine CallP.mono (checked_spec n P hPl ev h he) ?_
  rintro r h1 ⟨⟨cs, e, rfl, hcl, hco, hch, hnear⟩, hg1⟩
  have e0 := hch.2.2 hT
  subst e0
  have hnr := hnear hT
  obtain ⟨near, rfl, hok⟩ := hnr
  rw [Int.toNat_natCast] at hok hcl hco
  conv => whnf
  refine ⟨hcl, _, storeAt_all hcl hco (over_all rfl hcl), ?_⟩
  conv => whnf
  repeat (refine SeqP.go ?_; conv => whnf)
  refine cmpF (by omega) ?_
  conv => whnf
  repeat (refine SeqP.go ?_; conv => whnf)
  refine ⟨tv n near, by rw [cellsAt_row (Hp.at_lay_self _ _) (by rw [Int.toNat_natCast, tv_length]; omega), List.drop_zero, List.take_of_length_le (by rw [Int.toNat_natCast, tv_length]; omega), Int.toNat_natCast], ?_⟩
  conv => whnf
  refine CallP.mono (tmarks_spec (by omega) hok _) ?_
  rintro r h2 ⟨hb, hg2⟩
  have hg2' : Grows (h1.lay (.row 102 true (tv (n : Int).toNat near))) h2 := hg2
  have hb' : Built h h2 3 r (bestM P n) := hb.back (by have := hg1.next; rw [Hp.next_lay]; omega)
  rcases hb' with ⟨rfl, e⟩ | ⟨rr, rfl, q1, q2⟩
  · conv => whnf
    repeat (refine SeqP.go ?_; conv => whnf)
    exact ⟨⟨_, rfl, .inl ⟨rfl, e⟩⟩, (hg1.then_lay _).trans hg2'⟩
  · conv => whnf
    repeat (refine SeqP.go ?_; conv => whnf)
    exact ⟨⟨_, rfl, .inr ⟨rr, rfl, q1, q2⟩⟩, (hg1.then_lay _).trans hg2'⟩
end
end Go.Proofs.Yticmdpcahpimhaa
namespace Go.Proofs.Yticmdpcahpimhaa
open Go.Rx Go.RowKit Go.Comp
/-- Parts: within the set, all of it, apart from each other, closed. -/
theorem parts_sub {A : Comp.Rel} {s : Nat} {l : List Nat} (h : IsParts A s l) : ∀ p ∈ l, ∀ i, p.testBit i = true → s.testBit i = true := by
  induction h with
  | nil => intro p hp; simp at hp
  | @cons s v q l hv hm hq hl ih =>
    intro p hp i hi
    rcases List.mem_cons.1 hp with rfl | hp
    · exact ((hq i).1 hi).inSet
    · have := ih p hp i hi
      rw [less_bit] at this
      exact (Bool.and_eq_true _ _ ▸ this).1
theorem parts_cover {A : Comp.Rel} {s : Nat} {l : List Nat} (h : IsParts A s l) : ∀ i, s.testBit i = true → ∃ p ∈ l, p.testBit i = true := by
  induction h with
  | nil => intro i hi; simp at hi
  | @cons s v q l hv hm hq hl ih =>
    intro i hi
    cases hb : q.testBit i with
    | true => exact ⟨q, List.mem_cons_self, hb⟩
    | false =>
      obtain ⟨p, hp, hpi⟩ := ih i (by rw [less_bit, hi, hb]; rfl)
      exact ⟨p, List.mem_cons_of_mem _ hp, hpi⟩
def Apart (p q : Nat) : Prop := ∀ i, ¬ (p.testBit i = true ∧ q.testBit i = true)
theorem parts_apart {A : Comp.Rel} {s : Nat} {l : List Nat} (h : IsParts A s l) : l.Pairwise Apart := by
  induction h with
  | nil => exact List.Pairwise.nil
  | @cons s v q l hv hm hq hl ih =>
    refine List.Pairwise.cons (fun p hp i hi => ?_) ih
    have := parts_sub hl p hp i hi.2
    rw [less_bit, hi.1] at this
    simp at this
theorem parts_closed {A : Comp.Rel} (hA : ∀ u w, A u w → A w u) {s : Nat} {l : List Nat} (h : IsParts A s l) : ∀ p ∈ l, ∀ u w, p.testBit u = true → A u w → s.testBit w = true → p.testBit w = true := by
  induction h with
  | nil => intro p hp; simp at hp
  | @cons s v q l hv hm hq hl ih =>
    intro p hp u w hu e hw
    rcases List.mem_cons.1 hp with rfl | hp
    · exact (hq w).2 (.step ((hq u).1 hu) e hw)
    · have hu' := parts_sub hl p hp u hu
      rw [less_bit] at hu'
      have hu'' := Bool.and_eq_true _ _ ▸ hu'
      refine ih p hp u w hu e ?_
      rw [less_bit, hw]
      cases hb : q.testBit w with
      | false => rfl
      | true =>
        have := (hq u).2 (.step ((hq w).1 hb) (hA _ _ e) hu''.1)
        rw [this] at hu''
        simp at hu''
abbrev gl (l : List Int) (i : Nat) : Int := l.getD i 0
theorem gl_set {l : List Int} {v : Nat} {x : Int} (h : v < l.length) (i : Nat) : gl (l.set v x) i = if i = v then x else gl l i := by
  unfold gl
  rw [List.getD_eq_getElem?_getD, List.getElem?_set, List.getD_eq_getElem?_getD]
  by_cases e : v = i
  · subst e; rw [if_pos rfl, if_pos h, if_pos rfl]; rfl
  · rw [if_neg e, if_neg (fun x => e x.symm)]
/-- Marks of a set are as they should be. -/
structure Good (A : Comp.Rel) (n p : Nat) (l : List Int) : Prop where
  top : ∃ a, p.testBit a = true ∧ gl l a = (B A n p).1 ∧ ∀ i, p.testBit i = true → i ≠ a → gl l i < (B A n p).1
  sep : ∀ (U u w : Nat) (x : Int), (∀ i, U.testBit i = true → p.testBit i = true) → (∀ i, U.testBit i = true → gl l i ≤ x) → u ≠ w → gl l u = x → gl l w = x → ¬ Comp.Reach A U u w
theorem Good.congr {A : Comp.Rel} {n p : Nat} {l k : List Int} (h : Good A n p l) (e : ∀ i, p.testBit i = true → gl k i = gl l i) : Good A n p k := by
  obtain ⟨a, h1, h2, h3⟩ := h.top
  refine ⟨⟨a, h1, by rw [e a h1]; exact h2, fun i hi hne => by rw [e i hi]; exact h3 i hi hne⟩, fun U u w x hU hx hne hu hw hr => ?_⟩
  have reach : ∀ w, Comp.Reach A U u w → U.testBit u = true := by
    intro w hr
    induction hr with
    | refl h => exact h
    | step _ _ _ ih => exact ih
  have hu' := hU _ (reach w hr)
  have hw' := hU _ hr.inSet
  exact h.sep U u w x hU (fun i hi => by rw [← e i (hU i hi)]; exact hx i hi) hne (by rw [← e u hu']; exact hu) (by rw [← e w hw']; exact hw) hr
theorem reach_start {A : Comp.Rel} {U u w : Nat} (hr : Comp.Reach A U u w) : U.testBit u = true := by
  induction hr with
  | refl h => exact h
  | step _ _ _ ih => exact ih
theorem reach_part {A : Comp.Rel} {U p u w s : Nat} (hc : ∀ u w, p.testBit u = true → A u w → s.testBit w = true → p.testBit w = true) (hU : ∀ i, U.testBit i = true → s.testBit i = true) (hu : p.testBit u = true) (hr : Comp.Reach A U u w) : p.testBit w = true ∧ Comp.Reach A (U &&& p) u w := by
  induction hr with
  | refl h => exact ⟨hu, .refl (by rw [Nat.testBit_and, h, hu]; rfl)⟩
  | step h e hw ih =>
    have h1 := hc _ _ ih.1 e (hU _ hw)
    exact ⟨h1, .step ih.2 e (by rw [Nat.testBit_and, hw, h1]; rfl)⟩
theorem mx_ge {l : List Int} {x : Int} (h : x ∈ l) : x ≤ mx l := by
  have key : ∀ (l : List Int) (a x : Int), (x ≤ a ∨ x ∈ l) → x ≤ l.foldl max a := by
    intro l
    induction l with
    | nil =>
      intro a x h
      rcases h with h | h
      · exact h
      · simp at h
    | cons y l ih =>
      intro a x h
      refine ih _ _ ?_
      rcases h with h | h
      · exact .inl (by omega)
      · rcases List.mem_cons.1 h with rfl | h
        · exact .inl (by omega)
        · exact .inr h
  exact key l 0 x (.inr h)
theorem mkL_good {A : Comp.Rel} (hA : ∀ u w, A u w → A w u) {n : Nat} (hP : ∀ S, S < 2 ^ n → ∃ L, IsParts A S L) : ∀ (m S : Nat) (l : List Int), S < 2 ^ n → 1 ≤ cnt n S → cnt n S ≤ m → l.length = n → Good A n S (mkL A n m S l) ∧ ∀ i, S.testBit i = false → gl (mkL A n m S l) i = gl l i := by
  intro m
  induction m with
  | zero => intro S l hS h1 h2; omega
  | succ m ih =>
    have fold : ∀ (ls : List Nat) (l : List Int), l.length = n → ls.Pairwise Apart → (∀ p ∈ ls, p < 2 ^ n ∧ 1 ≤ cnt n p ∧ cnt n p ≤ m) →
        (∀ p ∈ ls, Good A n p (ls.foldl (fun l p => mkL A n m p l) l)) ∧ ∀ i, (∀ p ∈ ls, p.testBit i = false) → gl (ls.foldl (fun l p => mkL A n m p l) l) i = gl l i := by
      intro ls
      induction ls with
      | nil => intro l _ _ _; exact ⟨fun p hp => by simp at hp, fun i _ => rfl⟩
      | cons q ls ihl =>
        intro l hl hap hc
        have hq := hc q List.mem_cons_self
        have h1 := ih q l hq.1 hq.2.1 hq.2.2 hl
        have h2 := ihl (mkL A n m q l) (by rw [mkL_len]; exact hl) (List.pairwise_cons.1 hap).2 fun p hp => hc p (List.mem_cons_of_mem _ hp)
        refine ⟨fun p hp => ?_, fun i hi => ?_⟩
        · rcases List.mem_cons.1 hp with rfl | hp
          · refine h1.1.congr fun i hi => ?_
            refine h2.2 i fun r hr => ?_
            cases hb : r.testBit i with
            | false => rfl
            | true => exact absurd ⟨hi, hb⟩ ((List.pairwise_cons.1 hap).1 r hr i)
          · exact h2.1 p hp
        · exact (h2.2 i fun r hr => hi r (List.mem_cons_of_mem _ hr)).trans (h1.2 i (hi q List.mem_cons_self))
    intro S l hS h1 h2 hl
    obtain ⟨v, hv, hbit, eB⟩ := B_in A h1
    have hlS : less S (2 ^ v) < 2 ^ n := less_lt hS
    obtain ⟨L, hL⟩ := hP _ hlS
    have hpe := partsOf_eq hL
    have hmk : mkL A n (m + 1) S l = L.foldl (fun l p => mkL A n m p l) (l.set v (nodeC A n S v)) := by
      show (partsOf A (less S (2 ^ (B A n S).2.toNat))).foldl _ (l.set (B A n S).2.toNat (B A n S).1) = _
      rw [eB]
      show (partsOf A (less S (2 ^ v))).foldl _ _ = _
      rw [hpe]
      rfl
    have hsub := parts_sub hL
    have hlb : ∀ i, (less S (2 ^ v)).testBit i = true ↔ S.testBit i = true ∧ i ≠ v := fun i => by
      rw [less_bit, Nat.testBit_two_pow]
      by_cases e : v = i
      · subst e; simp
      · simp [e]; exact fun _ x => e x.symm
    have hF := fold L (l.set v (nodeC A n S v)) (by rw [List.length_set]; exact hl) (parts_apart hL) fun p hp => by
      obtain ⟨u, hu⟩ := parts_ne hL p hp
      have hp2 := Nat.lt_of_le_of_lt (parts_le hL p hp) hlS
      have := part_cnt A hv hbit (p := p) (by rw [hpe]; exact hp)
      exact ⟨hp2, cnt_pos hu n (sub_bit hp2 hu), by omega⟩
    rw [hmk]
    generalize L.foldl (fun l p => mkL A n m p l) (l.set v (nodeC A n S v)) = l' at hF ⊢
    have hset : ∀ i, gl (l.set v (nodeC A n S v)) i = if i = v then nodeC A n S v else gl l i := gl_set (by omega)
    have hvp : ∀ p ∈ L, p.testBit v = false := fun p hp => by
      cases hb : p.testBit v with
      | false => rfl
      | true => exact absurd rfl ((hlb v).1 (hsub p hp v hb)).2
    have hv' : gl l' v = nodeC A n S v := by rw [hF.2 v hvp, hset, if_pos rfl]
    have hlow : ∀ i, S.testBit i = true → i ≠ v → gl l' i < nodeC A n S v := fun i hi hne => by
      obtain ⟨p, hp, hpi⟩ := parts_cover hL i ((hlb i).2 ⟨hi, hne⟩)
      obtain ⟨a, a1, a2, a3⟩ := (hF.1 p hp).top
      have hle : gl l' i ≤ (B A n p).1 := by
        by_cases e : i = a
        · subst e; omega
        · have := a3 i hpi e; omega
      have : 1 + (B A n p).1 ≤ nodeC A n S v := by
        unfold nodeC
        rw [hpe]
        exact mx_ge (List.mem_map.2 ⟨p, hp, rfl⟩)
      omega
    refine ⟨⟨⟨v, hbit, by rw [hv', eB], fun i hi hne => by rw [eB]; exact hlow i hi hne⟩, fun U u w x hU hx hne hu hw hr => ?_⟩, fun i hi => ?_⟩
    · have huS := hU _ (reach_start hr)
      have hwS := hU _ hr.inSet
      have hxv : x < nodeC A n S v := by
        by_cases e : u = v
        · have := hlow w hwS (fun e2 => hne (by rw [e, e2]))
          omega
        · have := hlow u huS e
          omega
      have hUv : ∀ i, U.testBit i = true → (less S (2 ^ v)).testBit i = true := fun i hi => (hlb i).2 ⟨hU i hi, fun e => by
        have := hx i hi
        rw [e, hv'] at this
        omega⟩
      obtain ⟨p, hp, hpu⟩ := parts_cover hL u (hUv _ (reach_start hr))
      have h3 := reach_part (parts_closed hA hL p hp) hUv hpu hr
      exact (hF.1 p hp).sep (U &&& p) u w x (fun i hi => by rw [Nat.testBit_and] at hi; exact (Bool.and_eq_true _ _ ▸ hi).2) (fun i hi => by rw [Nat.testBit_and] at hi; exact hx i (Bool.and_eq_true _ _ ▸ hi).1) hne hu hw h3.2
    · rw [hF.2 i fun p hp => ?_, hset, if_neg fun e => by rw [e, hbit] at hi; cases hi]
      cases hb : p.testBit i with
      | false => rfl
      | true => rw [((hlb i).1 (hsub p hp i hb)).1] at hi; cases hi
/-- Any set has parts. -/
theorem mask_of (f : Nat → Prop) (n : Nat) : ∃ p, p < 2 ^ n ∧ ∀ i, p.testBit i = true ↔ i < n ∧ f i := by
  classical
  refine ⟨msk (fun i => decide (f i)) n, msk_lt _ n, ?_⟩
  induction n with
  | zero => intro i; simp [msk]
  | succ n ih =>
    intro i
    unfold msk
    by_cases hf : f n
    · rw [if_pos (by rw [decide_eq_true hf]), or_bit, ih]
      constructor
      · rintro (h | h)
        · exact ⟨by omega, h.2⟩
        · subst h; exact ⟨by omega, hf⟩
      · rintro ⟨h1, h2⟩
        by_cases e : i = n
        · exact .inr e
        · exact .inl ⟨by omega, h2⟩
    · rw [if_neg (by rw [decide_eq_false hf]; simp), ih]
      constructor
      · rintro ⟨h1, h2⟩; exact ⟨by omega, h2⟩
      · rintro ⟨h1, h2⟩
        refine ⟨?_, h2⟩
        by_cases e : i = n
        · subst e; exact absurd h2 hf
        · omega
theorem has_parts (A : Comp.Rel) (n : Nat) : ∀ (m S : Nat), S < 2 ^ n → cnt n S ≤ m → ∃ L, IsParts A S L := by
  intro m
  induction m with
  | zero =>
    intro S hS h
    have : S = 0 := zero_of_bits fun i => by
      cases hb : S.testBit i with
      | false => rfl
      | true => have := cnt_pos hb n (sub_bit hS hb); omega
    subst this
    exact ⟨[], .nil⟩
  | succ m ih =>
    intro S hS h
    by_cases h0 : S = 0
    · subst h0; exact ⟨[], .nil⟩
    have hex : ∃ v, S.testBit v = true := Classical.byContradiction fun hn => h0 (zero_of_bits fun i => by
      cases hb : S.testBit i with
      | false => rfl
      | true => exact absurd ⟨i, hb⟩ hn)
    have least : ∀ k v, v < k → S.testBit v = true → ∃ v, S.testBit v = true ∧ ∀ u, u < v → S.testBit u = false := by
      intro k
      induction k with
      | zero => intro v hv; omega
      | succ k ihk =>
        intro v hv hb
        by_cases he : ∃ u, u < v ∧ S.testBit u = true
        · obtain ⟨u, h1, h2⟩ := he
          exact ihk u (by omega) h2
        · exact ⟨v, hb, fun u hu => by
            cases hb2 : S.testBit u with
            | false => rfl
            | true => exact absurd ⟨u, hu, hb2⟩ he⟩
    obtain ⟨v0, hv0⟩ := hex
    obtain ⟨v, hv, hmin⟩ := least (v0 + 1) v0 (by omega) hv0
    obtain ⟨p, hp1, hp2⟩ := mask_of (Comp.Reach A S v) n
    have hm : IsMask A S v p := fun u => (hp2 u).trans ⟨fun h => h.2, fun h => ⟨sub_bit hS h.inSet, h⟩⟩
    have hvp : p.testBit v = true := (hm v).2 (.refl hv)
    have hlt : cnt n (less S p) < cnt n S := cnt_lt (v := v) (fun i hi => by rw [less_bit] at hi; exact (Bool.and_eq_true _ _ ▸ hi).1) (by rw [less_bit, hvp]; simp) hv n (sub_bit hS hv)
    obtain ⟨L, hL⟩ := ih (less S p) (less_lt hS) (by omega)
    exact ⟨p :: L, .cons hv hmin hm hL⟩
theorem parts_all (A : Comp.Rel) (n S : Nat) (h : S < 2 ^ n) : ∃ L, IsParts A S L := has_parts A n (cnt n S) S h (Nat.le_refl _)
theorem reach_symm {A : Comp.Rel} (hA : ∀ u w, A u w → A w u) {U u w : Nat} (h : Comp.Reach A U u w) : Comp.Reach A U w u := by
  have front : ∀ {a b : Nat}, Comp.Reach A U a b → ∀ c, A c a → U.testBit c = true → Comp.Reach A U c b := by
    intro a b hab c hc hcu
    induction hab with
    | refl h => exact .step (.refl hcu) hc h
    | step _ e hw ih => exact .step ih e hw
  induction h with
  | refl h => exact .refl h
  | step h e hw ih => exact front ih _ (hA _ _ e) hw
theorem reach_trans {A : Comp.Rel} {U u v w : Nat} (h : Comp.Reach A U u v) (k : Comp.Reach A U v w) : Comp.Reach A U u w := by
  induction k with
  | refl _ => exact h
  | step _ e hw ih => exact .step ih e hw
theorem part_reach {A : Comp.Rel} (hA : ∀ u w, A u w → A w u) {s : Nat} {l : List Nat} (h : IsParts A s l) : ∀ p ∈ l, ∀ u w, p.testBit u = true → p.testBit w = true → Comp.Reach A s u w := by
  induction h with
  | nil => intro p hp; simp at hp
  | @cons s v q l hv hm hq hl ih =>
    intro p hp u w hu hw
    rcases List.mem_cons.1 hp with rfl | hp
    · exact reach_trans (reach_symm hA ((hq u).1 hu)) ((hq w).1 hw)
    · have := ih p hp u w hu hw
      clear hu hw
      induction this with
      | refl h => exact .refl (by rw [less_bit] at h; exact (Bool.and_eq_true _ _ ▸ h).1)
      | step _ e h ih => exact .step ih e (by rw [less_bit] at h; exact (Bool.and_eq_true _ _ ▸ h).1)
theorem adj_symm (P : List (Int × Int)) : ∀ u w, adj P u w → adj P w u := fun u w h => by unfold adj at h ⊢; exact h.symm
theorem pop_two {s : Nat} (h : ¬ pop s ≤ 1) : ∃ u w, u ≠ w ∧ s.testBit u = true ∧ s.testBit w = true := by
  unfold pop at h
  have hnd : ((List.range 10).filter s.testBit).Nodup := List.Nodup.sublist List.filter_sublist List.nodup_range
  have hm : ∀ x ∈ (List.range 10).filter s.testBit, s.testBit x = true := fun x hx => (List.mem_filter.1 hx).2
  match e : (List.range 10).filter s.testBit, hnd, hm with
  | [], _, _ => rw [e] at h; simp at h
  | [_], _, _ => rw [e] at h; simp at h
  | a :: b :: l, hnd, hm => exact ⟨a, b, fun e => by subst e; simp at hnd, hm a (by simp), hm b (by simp)⟩
theorem msk_bit (f : Nat → Bool) : ∀ (k i : Nat), (msk f k).testBit i = true ↔ i < k ∧ f i = true
  | 0, i => by simp [msk]
  | k + 1, i => by
    unfold msk
    by_cases hf : f k = true
    · rw [if_pos hf, or_bit, msk_bit f k]
      constructor
      · rintro (h | h)
        · exact ⟨by omega, h.2⟩
        · subst h; exact ⟨by omega, hf⟩
      · rintro ⟨h1, h2⟩
        by_cases e : i = k
        · exact .inr e
        · exact .inl ⟨by omega, h2⟩
    · rw [if_neg hf, msk_bit f k]
      constructor
      · rintro ⟨h1, h2⟩; exact ⟨by omega, h2⟩
      · rintro ⟨h1, h2⟩
        refine ⟨?_, h2⟩
        by_cases e : i = k
        · subst e; exact absurd h2 hf
        · omega
theorem bestM_good (P : List (Int × Int)) {n : Nat} (hn : 1 ≤ n) : Good (adj P) n (2 ^ n - 1) (bestM P n) := by
  have hc1 : 1 ≤ cnt n (2 ^ n - 1) := cnt_pos (v := 0) (by rw [all_bit, decide_eq_true (by omega)]) n hn
  exact (mkL_good (adj_symm P) (fun S hS => parts_all _ n S hS) n (2 ^ n - 1) _ (by have := Nat.two_pow_pos n; omega) hc1 (cnt_le n _) List.length_replicate).1
theorem bestM_top (P : List (Int × Int)) {n : Nat} (hn : 1 ≤ n) : (∀ x ∈ bestM P n, x ≤ (B (adj P) n (2 ^ n - 1)).1) ∧ (B (adj P) n (2 ^ n - 1)).1 ∈ bestM P n := by
  obtain ⟨a, h1, h2, h3⟩ := (bestM_good P hn).top
  have hl := bestM_len P n
  rw [all_bit] at h1
  have ha : a < n := of_decide_eq_true h1
  have get : ∀ k, (hk : k < n) → gl (bestM P n) k = (bestM P n)[k]'(by omega) := fun k hk => by
    unfold gl; rw [List.getD_eq_getElem?_getD, List.getElem?_eq_getElem (by omega)]; rfl
  constructor
  · intro x hx
    obtain ⟨k, hk, rfl⟩ := List.getElem_of_mem hx
    have hkn : k < n := by omega
    rw [← get k hkn]
    by_cases e : k = a
    · subst e; omega
    · have := h3 k (by rw [all_bit, decide_eq_true hkn]) e
      omega
  · rw [← h2, get a ha]
    exact List.getElem_mem _
theorem bestM_ok (P : List (Int × Int)) {n : Nat} (hn : 1 ≤ n) (hn2 : n ≤ 10) : MOk P n (bestM P n) := by
  have hl := bestM_len P n
  have hb := bestM_bd P n
  have hG := bestM_good P hn
  refine ⟨hl, fun x hx => ⟨by have := hb x hx; omega, fun L hL p hp => ?_⟩⟩
  refine Classical.byContradiction fun hc => ?_
  obtain ⟨u, w, hne, hu, hw⟩ := pop_two hc
  rw [Nat.testBit_and, Bool.and_eq_true, msk_bit] at hu hw
  have e1 : gl (bestM P n) u = x := of_decide_eq_true hu.2.2
  have e2 : gl (bestM P n) w = x := of_decide_eq_true hw.2.2
  refine hG.sep (msk (upF (bestM P n) x) (bestM P n).length) u w x (fun i hi => ?_) (fun i hi => ?_) hne e1 e2 (part_reach (adj_symm P) hL p hp u w hu.1 hw.1)
  · rw [all_bit, decide_eq_true]
    have := ((msk_bit _ _ _).1 hi).1
    omega
  · exact of_decide_eq_true ((msk_bit _ _ _).1 hi).2
end Go.Proofs.Yticmdpcahpimhaa
