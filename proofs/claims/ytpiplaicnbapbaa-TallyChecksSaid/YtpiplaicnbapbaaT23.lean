/- Contracts of the functions that T27 comes to. -/
import Derived.Test.YtpiplaicnbapbaaT14
set_option maxRecDepth 100000
set_option maxHeartbeats 2000000
set_option linter.unusedVariables false
set_option linter.unusedSectionVars false
set_option linter.unusedSimpArgs false
namespace Go.Proofs.Ytpiplaicnbapbaa
open Go.Rx Go.RowKit
theorem cut4 {h : Hp} {v : Value} {n k : Nat} {l : List Int} (hv : LentV h v n l) (hl : l.length = n * 4) (hk : k ≤ n) : ∃ x, ElemsC h 4 x k ((l.take (k * 4)).map int) ∧ (∀ h', Grows h h' → hcutS h' 4 v none (some (int k)) none = .val x h') ∧ sameV 4 x x = true := by
  have hb : BdOf none (some (int k)) n 0 k := ⟨.inl ⟨rfl, rfl⟩, .inr rfl⟩
  have hnil : ∀ (h' : Hp) (v : Value), (v = .slice none 0 0 ∨ v = void) → hcutS h' 4 v none (some (int (0 : Nat))) none = .val v h' := by
    rintro h' v (rfl | rfl)
    · unfold hcutS
      dsimp only
      rw [bounds_of (len := 0) (i := 0) (j := 0) ⟨.inl ⟨rfl, rfl⟩, .inr rfl⟩ (by omega) (by omega) (Nat.le_refl _)]
      rfl
    · unfold hcutS
      dsimp only [void]
      rw [bounds_of (len := 0) (i := 0) (j := 0) ⟨.inl ⟨rfl, rfl⟩, .inr rfl⟩ (by omega) (by omega) (Nat.le_refl _)]
      rfl
  rcases hv with (⟨rfl, rfl, rfl⟩ | ⟨r, rfl, hr⟩) | ⟨rfl, rfl, rfl⟩
  · have : k = 0 := by omega
    subst this
    exact ⟨_, ⟨rfl, rfl, rfl, rfl⟩, fun h' _ => hnil h' _ (.inl rfl), sameV_slice _ _ _⟩
  · have hlen : ((l.take (k * 4)).map int).length = k * 4 := by rw [List.length_map, List.length_take]; omega
    have el : ∀ x, x = slc r 0 k n ∨ x = void ∧ k = 0 → ElemsC h 4 x k ((l.take (k * 4)).map int) := by
      rintro x (rfl | ⟨rfl, rfl⟩)
      · refine ⟨rfl, ?_, hlen, ints_one _⟩
        show cellsAt h r 0 (k * 4) = _
        unfold cellsAt
        rw [hr]
        dsimp only
        unfold Go.Rx.cellsIn
        rw [if_pos (by rw [List.length_map]; omega), List.drop_zero, List.map_take]
      · exact ⟨rfl, rfl, by simp, by simp⟩
    have shape : ∀ h', Grows h h' → hcutS h' 4 (slc r 0 n n) none (some (int k)) none = lift (cutOf D0 4 r 0 true (some (0, k, n))) h' := by
      intro h' g
      unfold hcutS
      dsimp only [slc]
      rw [bounds_of hb (by omega) hk (Nat.le_refl _)]
      show hcutObj h' 4 r 0 true (some (0, k, n)) (h'.at r) = _
      rw [g.at_ _ _ hr]
      rfl
    have opened : ∃ x, (x = slc r 0 k n ∨ x = void ∧ k = 0) ∧ ∀ h', lift (cutOf D0 4 r 0 true (some (0, k, n))) h' = .val x h' := by
      unfold cutOf cutOpen
      dsimp only
      cases hble : Nat.ble (Nat.succ 0) n with
      | true => exact ⟨_, .inl rfl, fun h' => rfl⟩
      | false =>
        have hn : ¬ 1 ≤ n := fun hle => by rw [Nat.ble_eq_true_of_le hle] at hble; cases hble
        unfold cutAll
        have e1 : Nat.sub k 0 = 0 := by show k - 0 = 0; omega
        have e2 : Nat.sub n 0 = 0 := by show n - 0 = 0; omega
        rw [e1, e2]
        exact ⟨_, .inr ⟨rfl, by omega⟩, fun h' => rfl⟩
    obtain ⟨x, hx, hx2⟩ := opened
    refine ⟨x, el x hx, fun h' g => by rw [shape h' g, hx2 h'], ?_⟩
    rcases hx with rfl | ⟨rfl, _⟩ <;> exact sameV_slice _ _ _
  · have : k = 0 := by omega
    subst this
    exact ⟨_, ⟨rfl, rfl, rfl, rfl⟩, fun h' _ => hnil h' _ (.inr rfl), sameV_slice _ _ _⟩
/-- A protocol of any data, as the caller holds it. -/
def PL (h : Hp) (v : Value) (p : Prot) : Prop := ∃ vo vs vr, v = pval p.n vo vs vr ∧ View h vo p.out ∧ View h vs p.start ∧ LentV h vr p.rules.length (flat4 p.rules)
theorem PL.ext {h h' : Hp} {v : Value} {p : Prot} (g : Grows h h') (k : PL h v p) : PL h' v p := by
  obtain ⟨a, b, c, e, h1, h2, h3⟩ := k
  exact ⟨a, b, c, e, h1.ext g, h2.ext g, h3.ext g⟩
theorem lentV_known {h : Hp} {v : Value} {n : Nat} {l : List Int} (k : LentV h v n l) : ∃ a, v = .slice a n n := by
  rcases k with (⟨rfl, rfl, _⟩ | ⟨r, rfl, _⟩) | ⟨rfl, rfl, _⟩
  · exact ⟨_, rfl⟩
  · exact ⟨_, rfl⟩
  · exact ⟨_, rfl⟩
theorem prot_lent {ts : List Tr} (hy : TyT Try.prog 25 ts) : ∃ p : Prot, InR p.n ∧ p.out.length ≤ maxLen ∧ p.start.length ≤ maxLen ∧ p.rules.length ≤ maxLen ∧ ∀ h v, AbsT h v (.ag ts) → PL h v p := by
  have f0 := field_of (i := 0) (ft := 3) (off := 0) (by kernel_rfl) hy
  have f1 := field_of (i := 1) (ft := 22) (off := 1) (by kernel_rfl) hy
  have f2 := field_of (i := 2) (ft := 22) (off := 2) (by kernel_rfl) hy
  have f3 := field_of (i := 3) (ft := 23) (off := 3) (by kernel_rfl) hy
  have hl : ts.length = 4 := f0.1.trans (by kernel_rfl)
  have f0 := f0.2
  have f1 := f1.2
  have f2 := f2.2
  have f3 := f3.2
  rw [cells3, one_of (by omega)] at f0
  rw [cells22, one_of (by omega)] at f1 f2
  rw [cells23, one_of (by omega)] at f3
  obtain ⟨n, en, hn⟩ := ty_num under3 f0
  obtain ⟨l1, e1, m1, r1⟩ := ty_ints under22 cells3 under3 f1
  obtain ⟨l2, e2, m2, r2⟩ := ty_ints under22 cells3 under3 f2
  obtain ⟨m, l3, e3, hl3, m3, r3⟩ := ty_rows (by omega) under23 under96 under3 cells96 cells3 f3
  obtain ⟨R, hR, eR⟩ := flat4_of m l3 hl3
  subst eR hR
  refine ⟨⟨n, l1, l2, R⟩, hn, m1, m2, m3, fun h v k => ?_⟩
  obtain ⟨vs, rfl, hvl, hk⟩ := ag_inv k
  match vs, hvl with
  | [v0, v1, v2, v3], _ =>
  have k0 := hk 0 v0 _ rfl (List.getElem?_eq_getElem (by omega))
  have k1 := hk 1 v1 _ rfl (List.getElem?_eq_getElem (by omega))
  have k2 := hk 2 v2 _ rfl (List.getElem?_eq_getElem (by omega))
  have k3 := hk 3 v3 _ rfl (List.getElem?_eq_getElem (by omega))
  rw [show ts[0] = .num n from List.cons.inj en |>.1] at k0
  rw [e1] at k1
  rw [e2] at k2
  rw [e3] at k3
  have := num_inv k0
  subst this
  exact ⟨v1, v2, v3, rfl, k1.view, k2.view, k3.lentV⟩
  | [], h | [_], h | [_, _], h | [_, _, _], h | _ :: _ :: _ :: _ :: _ :: _, h => simp [hl] at h
theorem flat4_take : ∀ (R : List Q4) (k : Nat), (flat4 R).take (k * 4) = flat4 (R.take k)
  | [], k => by simp [flat4]
  | q :: R, 0 => by simp [flat4]
  | q :: R, k + 1 => by
    have := flat4_take R k
    rw [show (k + 1) * 4 = k * 4 + 4 by omega]
    simp [flat4, this]
attribute [local irreducible] E idxN cellAt cellsAt storeAt callable helems hmoved lookIn findKey keyOk hentries Hp.at Hp.set Hp.lay arBits hupdated setAt CallP YieldP BoolOf IsWrap Rnd LoopP AppP CutP Int.tmod Int.tdiv Int.fdiv
section
variable [Unknowns]
attribute [local irreducible] ResP sameAt finP
theorem own_spec (v : Value) (p : Prot) (h : Hp) (hv : PL h v p) (ho : p.out.length < 9223372036854775808) (hs : p.start.length < 9223372036854775808) (hr : p.rules.length < 9223372036854775808) : CallP E 17 [v] h (fun r h' => PV h' r ⟨p.n, p.out.take 6, p.start.take 3, p.rules.take 16⟩ ∧ Grows h h') := by
  obtain ⟨n, out, start, rules⟩ := p
  obtain ⟨vo, vs, vr, rfl, k1, k2, k3⟩ := hv
  dsimp only at ho hs hr k1 k2 k3 ⊢
  obtain ⟨ao, co, rfl⟩ := k1.known
  obtain ⟨az, cz, rfl⟩ := k2.known
  obtain ⟨ar, rfl⟩ := lentV_known k3
  unfold pval
  refine enter17 (by simp) ?_
  have hexb : ∃ bx : List Value, bx = [int n, .slice ao out.length co, .slice az start.length cz, .slice ar rules.length rules.length] := ⟨_, rfl⟩
  obtain ⟨bx, ebx⟩ := hexb
  have b0 : bx[0]? = some (int n) := by rw [ebx]; rfl
  have b1 : bx[1]? = some (.slice ao out.length co) := by rw [ebx]; rfl
  have b2 : bx[2]? = some (.slice az start.length cz) := by rw [ebx]; rfl
  have b3 : bx[3]? = some (.slice ar rules.length rules.length) := by rw [ebx]; rfl
  rw [← ebx]
  clear ebx
  have hat : ((h.lay (.row 25 true bx)).lay (.row 26 true [int 0, .slice none 0 0, .slice none 0 0, .slice none 0 0])).at h.next = some (.row 25 true bx) := Hp.at_lay_old _ (Hp.at_lay_self _ _)
  have g0 : Grows h ((h.lay (.row 25 true bx)).lay (.row 26 true [int 0, .slice none 0 0, .slice none 0 0, .slice none 0 0])) := (Grows.lay _ _).then_lay _
  have hlen4 : (flat4 rules).length = rules.length * 4 := flat4_len _
  conv => whnf
  repeat (refine SeqP.go ?_; conv => whnf)
  refine ⟨_, cellAt_row hat b0, ?_⟩
  conv => whnf
  refine ⟨_, cellAt_row hat b1, ?_⟩
  conv => whnf
  refine CallP.mono (few_spec _ out _ (k1.ext g0) ho 6 (by omega)) ?_
  rintro r1 H1 ⟨hb1, g1⟩
  have at1 := g1.at_ _ _ hat
  conv => whnf
  refine ⟨_, cellAt_row at1 b2, ?_⟩
  conv => whnf
  refine CallP.mono (few_spec _ start _ (k2.ext (g0.trans g1)) hs 3 (by omega)) ?_
  rintro r2 H2 ⟨hb2, g2⟩
  have g02 := (g0.trans g1).trans g2
  have at2 := g2.at_ _ _ at1
  conv => whnf
  refine ⟨_, cellAt_row at2 b3, ?_⟩
  conv => whnf
  refine ⟨_, cellAt_row at2 b3, ?_⟩
  conv => whnf
  have hcut := cut4 (k := min rules.length 16) (k3.ext g0) hlen4 (Nat.min_le_left _ _)
  obtain ⟨vx, -, hx2, hx3⟩ := hcut
  have hcut' := cut4 (k := min rules.length 16) (k3.ext g02) hlen4 (Nat.min_le_left _ _)
  obtain ⟨vx', hx1, hx2', -⟩ := hcut'
  have evx : vx' = vx := by
    have := (hx2' H2 (.refl _)).symm.trans (hx2 H2 (g1.trans g2))
    injection this
  subst evx
  have cutl : ∀ H', Grows ((h.lay (.row 25 true bx)).lay (.row 26 true [int 0, .slice none 0 0, .slice none 0 0, .slice none 0 0])) H' → hcutS H' 4 (.slice ar rules.length rules.length) none (some (Value.int .i64 (if (16 : Int) < (rules.length : Int) then 16 else (rules.length : Int)))) none = .val vx' H' := by
    intro H' g
    rw [show (if (16 : Int) < (rules.length : Int) then (16 : Int) else (rules.length : Int)) = ((min rules.length 16 : Nat) : Int) by split <;> omega]
    exact hx2 H' g
  refine CutP.val (v' := vx') (cutl H2 (g1.trans g2)) ?_
  conv => whnf
  refine AppP.cells (h0 := H2) BuiltC.nil (.refl _) hx1 (by omega) (by omega) ?_
  intro r3 H3 hb3 g3 _
  rw [Nat.zero_add, List.nil_append, flat4_take] at hb3
  have hl16 : (rules.take 16).length = min rules.length 16 := by rw [List.length_take, Nat.min_comm]
  have etk : rules.take (min rules.length 16) = rules.take 16 := by
    by_cases hml : 16 ≤ rules.length
    · rw [Nat.min_eq_right hml]
    · rw [Nat.min_eq_left (by omega), List.take_of_length_le (Nat.le_refl _), List.take_of_length_le (by omega)]
  rw [etk, ← hl16] at hb3
  have at3 := g3.at_ _ _ at2
  have g03 := g02.trans g3
  have ho1 : ((h.lay (.row 25 true bx)).lay (.row 26 true [int 0, .slice none 0 0, .slice none 0 0, .slice none 0 0])).at (h.next + 1) = some (.row 26 true [int 0, .slice none 0 0, .slice none 0 0, .slice none 0 0]) := at_nx2 (Hp.next_lay _ _) (Hp.at_lay_self _ _)
  have ho3 := g3.at_ _ _ (g2.at_ _ _ (g1.at_ _ _ ho1))
  have hb1' := (LV.of hb1).known
  obtain ⟨a1, rfl⟩ := hb1'
  have hb2' := (LV.of hb2).known
  obtain ⟨a2, rfl⟩ := hb2'
  have hb3' := hb3.slice
  obtain ⟨a3, rfl, -⟩ := hb3'
  conv => whnf
  refine ⟨rfl, _, storeAt_full (vs := [int n, .slice a1 (out.take 6).length (out.take 6).length, .slice a2 (start.take 3).length (start.take 3).length, .slice a3 (rules.take 16).length (rules.take 16).length]) (at_nx2 (Hp.next_lay _ _).symm ho3) rfl rfl rfl, ?_⟩
  have okl : ∀ (H' : Hp) (i : Nat) (v : Value), Grows ((h.lay (.row 25 true bx)).lay (.row 26 true [int 0, .slice none 0 0, .slice none 0 0, .slice none 0 0])) H' → bx[i]? = some v → hval H' (cellAt H' h.next i) = .val v H' := fun H' i v g e => by
    rw [cellAt_row (g.at_ _ _ hat) e]
    rfl
  have g12 := g1.trans g2
  have g13 := g12.trans g3
  conv => whnf
  refine ⟨?_, ?_⟩
  · repeat' (first | exact True.intro | (refine And.intro ?_ ?_ <;> (conv => whnf)))
    all_goals first
      | exact sameAt_val (h2 := _) rfl (sameV_ptr3 _ _)
      | exact sameAt_val (h2 := _) rfl (sameV_slice _ _ _)
      | exact sameAt_val (h2 := _) (okl _ 0 _ (Grows.refl _) b0) (sameV_int _)
      | exact sameAt_val (h2 := _) (okl _ 0 _ g1 b0) (sameV_int _)
      | exact sameAt_val (h2 := _) (okl _ 0 _ g12 b0) (sameV_int _)
      | exact sameAt_val (h2 := _) (okl _ 0 _ g13 b0) (sameV_int _)
      | exact sameAt_val (h2 := _) (okl _ 2 _ (Grows.refl _) b2) (sameV_slice _ _ _)
      | exact sameAt_val (h2 := _) (okl _ 2 _ g1 b2) (sameV_slice _ _ _)
      | exact sameAt_val (h2 := _) (okl _ 2 _ g12 b2) (sameV_slice _ _ _)
      | exact sameAt_val (h2 := _) (okl _ 2 _ g13 b2) (sameV_slice _ _ _)
      | exact sameAt_val (h2 := _) (okl _ 3 _ (Grows.refl _) b3) (sameV_slice _ _ _)
      | exact sameAt_val (h2 := _) (okl _ 3 _ g1 b3) (sameV_slice _ _ _)
      | exact sameAt_val (h2 := _) (okl _ 3 _ g12 b3) (sameV_slice _ _ _)
      | exact sameAt_val (h2 := _) (okl _ 3 _ g13 b3) (sameV_slice _ _ _)
      | exact sameAt_val (h2 := _) rfl (sameV_int _)
      | exact sameAt_val (h2 := _) (cutl _ (Grows.refl _)) hx3
      | exact sameAt_val (h2 := _) (cutl _ g1) hx3
      | exact sameAt_val (h2 := _) (cutl _ g12) hx3
      | exact sameAt_val (h2 := _) (cutl _ g13) hx3
      | trace_state
  conv => whnf
  repeat (refine SeqP.go ?_; conv => whnf)
  obtain ⟨i26, t26, ag26, sz26⟩ := ty26
  refine leave_cell (r := h.next + 1) (o := 0) (cs := [int n, .slice a1 (out.take 6).length (out.take 6).length, .slice a2 (start.take 3).length (start.take 3).length, .slice a3 (rules.take 16).length (rules.take 16).length]) ?_ t26 ag26 ?_ ?_
  · exact congrArg (fun k => ptr k 0) (Hp.next_lay _ _)
  · rw [sz26]
    refine four_cells (at_nx2 (Hp.next_lay _ _) (Hp.at_set_self _ ?_))
    rw [Hp.next_lay]
    exact Hp.lt_of_at ho3
  · have n0 : (h.lay (.row 25 true bx)).next = h.next + 1 := Hp.next_lay _ _
    have n1 : ((h.lay (.row 25 true bx)).lay (.row 26 true [int 0, .slice none 0 0, .slice none 0 0, .slice none 0 0])).next = h.next + 2 := by rw [Hp.next_lay, n0]
    have m1 := g1.next
    have m2 := g2.next
    refine ⟨⟨_, _, _, rfl, LV.of (built_set_lt (hb1.ext (g2.trans g3)) ?_), LV.of (built_set_lt (hb2.ext g3) ?_), RV.of (builtC_set_lt hb3 ?_)⟩, g03.then_set _ ?_⟩
    · rw [n0, n1]; omega
    · rw [n0]; omega
    · rw [n0]; omega
    · rw [n0]; omega
end
end Go.Proofs.Ytpiplaicnbapbaa
