/- Contracts of the functions that PRD comes to. -/
import Derived.Test.YtpiplaicnbapbaaPRB
import Derived.Test.YtpiplaicnbapbaaTAwake
import Derived.Test.YtpiplaicnbapbaaWx21
import Derived.Test.YtpiplaicnbapbaaWx25
import Derived.Test.YtpiplaicnbapbaaWx26
set_option maxRecDepth 100000
set_option maxHeartbeats 2000000
set_option linter.unusedVariables false
set_option linter.unusedSectionVars false
set_option linter.unusedSimpArgs false
namespace Go.Proofs.Ytpiplaicnbapbaa
open Go.Rx Go.RowKit
def PReachedOk [Unknowns] : Prop := ∀ (v : Value) (p : Prot) (n : Nat) (c : List Int) (h : Hp), PV h v p → POk p → p.n = n → CrOk n c → CallP E 66 [v, cv (pad5 c)] h (fun r h' => (∃ bx L B, r = .agg ⟨bx⟩ ∧ PR h' bx p.rules n c L B) ∧ Grows h h')
theorem PV.stored {h : Hp} {bp : List Value} {p : Prot} (k : PV h (.agg ⟨bp⟩) p) : ∃ a1 n1 c1 a2 n2 c2 a3 n3 c3, bp = [int p.n, .slice a1 n1 c1, .slice a2 n2 c2, .slice a3 n3 c3] := by
  obtain ⟨vo, vs, vr, e, h1, h2, h3⟩ := k
  obtain ⟨a1, rfl⟩ := h1.known
  obtain ⟨a2, rfl⟩ := h2.known
  obtain ⟨a3, rfl, -⟩ := h3.slice
  cases e
  exact ⟨_, _, _, _, _, _, _, _, _, rfl⟩
theorem sameV_slice2 (a : Option Addr) (n m : Nat) : sameV 2 (.slice a n m) (.slice a n m) = true := sameV_slice a n m
theorem sameV_int2 (n : Int) : sameV 2 (int n) (int n) = true := sameV_int n
theorem sameV_int3' (n : Int) : sameV 3 (int n) (int n) = true := sameV_int n
theorem sameV_slice3' (a : Option Addr) (n m : Nat) : sameV 3 (.slice a n m) (.slice a n m) = true := sameV_slice a n m
theorem PV.same {h : Hp} {bp : List Value} {p : Prot} (k : PV h (.agg ⟨bp⟩) p) : sameV 4 (.agg ⟨bp⟩) (.agg ⟨bp⟩) = true := by
  obtain ⟨a1, n1, c1, a2, n2, c2, a3, n3, c3, e⟩ := k.stored
  subst e
  show (Nat.beq 4 4 && (sameV 3 (int p.n) (int p.n) && (sameV 3 (.slice a1 n1 c1) (.slice a1 n1 c1) && (sameV 3 (.slice a2 n2 c2) (.slice a2 n2 c2) && (sameV 3 (.slice a3 n3 c3) (.slice a3 n3 c3) && true))))) = true
  rw [sameV_int3', sameV_slice3', sameV_slice3', sameV_slice3']
  rfl
theorem PV.same3 {h : Hp} {bp : List Value} {p : Prot} (k : PV h (.agg ⟨bp⟩) p) : sameV 3 (.agg ⟨bp⟩) (.agg ⟨bp⟩) = true := by
  obtain ⟨a1, n1, c1, a2, n2, c2, a3, n3, c3, e⟩ := k.stored
  subst e
  show (Nat.beq 4 4 && (sameV 2 (int p.n) (int p.n) && (sameV 2 (.slice a1 n1 c1) (.slice a1 n1 c1) && (sameV 2 (.slice a2 n2 c2) (.slice a2 n2 c2) && (sameV 2 (.slice a3 n3 c3) (.slice a3 n3 c3) && true))))) = true
  rw [sameV_int2, sameV_slice2, sameV_slice2, sameV_slice2]
  rfl
theorem PV.sameF {h : Hp} {bp : List Value} {p : Prot} (k : PV h (.agg ⟨bp⟩) p) (f : FuncId) : sameV 4 (.func (.func f) ⟨[.agg ⟨bp⟩]⟩ ⟨[]⟩) (.func (.func f) ⟨[.agg ⟨bp⟩]⟩ ⟨[]⟩) = true := by
  show (decide (_ = _) && Nat.beq 1 1 && Nat.beq 0 0 && (sameV 3 (.agg ⟨bp⟩) (.agg ⟨bp⟩) && true) && true) = true
  rw [k.same3]
  simp
attribute [local irreducible] E idxN cellAt cellsAt storeAt callable helems hmoved lookIn findKey keyOk hentries Hp.at Hp.set Hp.lay arBits hupdated setAt CallP YieldP BoolOf IsWrap Rnd LoopP AppP CutP Int.tmod Int.tdiv Int.fdiv
section
variable [Unknowns]
attribute [local irreducible] ResP sameAt
theorem Settled_ok (hR : PReachedOk) (v w : Value) (p : Prot) (n : Nat) (c : List Int) (h : Hp) (hv : PV h v p) (hw : View h w c) (hP : POk p) (en : p.n = n) (hc : CrOk n c) : CallP E 31 [v, w] h (fun r h' => (∃ s b, r = .tuple ⟨[int s, .bool b, int 0]⟩ ∧ FirstOf (fun on => SettC p.rules p.out on c) s b) ∧ Grows h h') := by
  obtain ⟨bx, rfl, hbl, -⟩ := hv.box
  obtain ⟨ac, cc, rfl⟩ := hw.known
  have hol := hP.outl
  have hn5 := hP.n5
  have hn1 := hP.n1
  have hst2 := hP.st2
  have hrl := hP.rl
  have hcl := hc.len
  have hC : Cnt c p.n := by rw [en]; exact hc.cnt
  have hp5 := pad5_len (c := c) (by omega)
  have g0 : Grows h (h.lay (.row 25 true bx)) := Grows.lay _ _
  have a0 : (h.lay (.row 25 true bx)).at h.next = some (.row 25 true bx) := Hp.at_lay_self _ _
  refine enter31 (by simp) ?_
  conv => whnf
  refine SeqP.go ?_
  conv => whnf
  refine SeqP.cut (α := Nat × Hp) (fun s => [(8, int 0), (7, ptr s.1 0), (2, ptr h.next 0)]) (fun s H => s.2 = H ∧ Grows h s.2 ∧ s.2.at h.next = some (.row 25 true bx) ∧ s.2.at s.1 = some (.row 107 true ((pad5 c).map int))) ?_ ?_
  · conv => whnf
    refine ⟨bx, all_cells a0 hbl, ?_⟩
    conv => whnf
    refine CallP.mono (read_spec _ _ p c _ (hv.ext g0) (hw.ext g0) (by unfold InR; omega) (by omega) (by omega) (by omega) (by omega)) ?_
    rintro r h1 ⟨⟨l, e, rfl, hl, e1, e2, e3⟩, g1⟩
    obtain ⟨rfl, rfl⟩ := e3 hP hC
    unfold cv
    conv => whnf
    refine ⟨by show ((pad5 c).map int).length = 5; rw [List.length_map, hl], _, storeAt_all (vs := (pad5 c).map int) (by rw [List.length_map, hl]; rfl) (ints_one _) (over_int (k := [0, 0, 0, 0, 0]) (by rw [hl]; rfl)), ?_⟩
    conv => whnf
    exact ⟨(h1.next, _), ⟨rfl, rfl, rfl, trivial⟩, ⟨rfl, (g0.trans g1).then_lay _, Hp.at_lay_old _ (g1.at_ _ _ a0), Hp.at_lay_self _ _⟩, rfl⟩
  rintro ⟨X, H1⟩ φ1 _ ⟨rfl, g1, b1, d1⟩
  dsimp only at g1 b1 d1 ⊢
  conv => whnf
  refine SeqP.cut (α := Unit) (fun s => [(7, ptr X 0), (2, ptr h.next 0)]) (fun s H => H1 = H) ?_ ?_
  · conv => whnf
    repeat (refine SeqP.go ?_; conv => whnf)
    refine cmpF (by omega) ?_
    conv => whnf
    repeat (refine SeqP.go ?_; conv => whnf)
    exact ⟨(), ⟨rfl, rfl, trivial⟩, rfl, rfl⟩
  rintro _ φ2 _ rfl
  have hvH := hv.ext g1
  have ld : ∀ H', Grows H1 H' → hval H' (aggOf (cellsAt H' h.next 0 4)) = .val (.agg ⟨bx⟩) H' := fun H' g => by
    rw [all_cells (g.at_ _ _ b1) hbl]
    rfl
  conv => whnf
  repeat (refine SeqP.go ?_; conv => whnf)
  refine ⟨bx, all_cells b1 hbl, ?_⟩
  conv => whnf
  refine ⟨bx, all_cells b1 hbl, ?_⟩
  conv => whnf
  refine ⟨(pad5 c).map int, all_cells d1 (by rw [List.length_map, hp5]), ?_⟩
  conv => whnf
  refine CallP.mono (hR _ p n c _ hvH hP en hc) ?_
  rintro r2 H2 ⟨⟨bq, L, B, rfl, hx⟩, g2⟩
  conv => whnf
  refine CallP.mono (eitherS_spec bx p bq n c L B _ (hvH.ext g2) hP en hx) ?_
  rintro r3 H3 ⟨⟨s, b, rfl, hf⟩, g3⟩
  have g23 := g2.trans g3
  conv => whnf
  refine ⟨?_, ?_⟩
  · repeat' (first | exact True.intro | (refine And.intro ?_ ?_ <;> (conv => whnf)))
    all_goals first
      | exact sameAt_val (h2 := _) (ld _ (Grows.refl _)) hv.same
      | exact sameAt_val (h2 := _) (ld _ g2) hv.same
      | exact sameAt_val (h2 := _) (ld _ g23) hv.same
      | exact sameAt_val (h2 := _) rfl (hv.sameF _)
      | trace_state
  conv => whnf
  repeat (refine SeqP.go ?_; conv => whnf)
  exact ⟨⟨_, _, rfl, hf⟩, g1.trans g23⟩
theorem Decides_ok (hR : PReachedOk) (v w : Value) (p : Prot) (n : Nat) (c : List Int) (h : Hp) (hv : PV h v p) (hw : View h w c) (hP : POk p) (en : p.n = n) (hc : CrOk n c) : CallP E 32 [v, w] h (fun r h' => (∃ s b, r = .tuple ⟨[int s, .bool b, int 0]⟩ ∧ FirstOf (fun on => DeciC p.rules p.out on c) s b) ∧ Grows h h') := by
  obtain ⟨bx, rfl, hbl, -⟩ := hv.box
  obtain ⟨ac, cc, rfl⟩ := hw.known
  have hol := hP.outl
  have hn5 := hP.n5
  have hn1 := hP.n1
  have hst2 := hP.st2
  have hrl := hP.rl
  have hcl := hc.len
  have hC : Cnt c p.n := by rw [en]; exact hc.cnt
  have hp5 := pad5_len (c := c) (by omega)
  have g0 : Grows h (h.lay (.row 25 true bx)) := Grows.lay _ _
  have a0 : (h.lay (.row 25 true bx)).at h.next = some (.row 25 true bx) := Hp.at_lay_self _ _
  refine enter32 (by simp) ?_
  conv => whnf
  refine SeqP.go ?_
  conv => whnf
  refine SeqP.cut (α := Nat × Hp) (fun s => [(8, int 0), (7, ptr s.1 0), (2, ptr h.next 0)]) (fun s H => s.2 = H ∧ Grows h s.2 ∧ s.2.at h.next = some (.row 25 true bx) ∧ s.2.at s.1 = some (.row 107 true ((pad5 c).map int))) ?_ ?_
  · conv => whnf
    refine ⟨bx, all_cells a0 hbl, ?_⟩
    conv => whnf
    refine CallP.mono (read_spec _ _ p c _ (hv.ext g0) (hw.ext g0) (by unfold InR; omega) (by omega) (by omega) (by omega) (by omega)) ?_
    rintro r h1 ⟨⟨l, e, rfl, hl, e1, e2, e3⟩, g1⟩
    obtain ⟨rfl, rfl⟩ := e3 hP hC
    unfold cv
    conv => whnf
    refine ⟨by show ((pad5 c).map int).length = 5; rw [List.length_map, hl], _, storeAt_all (vs := (pad5 c).map int) (by rw [List.length_map, hl]; rfl) (ints_one _) (over_int (k := [0, 0, 0, 0, 0]) (by rw [hl]; rfl)), ?_⟩
    conv => whnf
    exact ⟨(h1.next, _), ⟨rfl, rfl, rfl, trivial⟩, ⟨rfl, (g0.trans g1).then_lay _, Hp.at_lay_old _ (g1.at_ _ _ a0), Hp.at_lay_self _ _⟩, rfl⟩
  rintro ⟨X, H1⟩ φ1 _ ⟨rfl, g1, b1, d1⟩
  dsimp only at g1 b1 d1 ⊢
  conv => whnf
  refine SeqP.cut (α := Unit) (fun s => [(7, ptr X 0), (2, ptr h.next 0)]) (fun s H => H1 = H) ?_ ?_
  · conv => whnf
    repeat (refine SeqP.go ?_; conv => whnf)
    refine cmpF (by omega) ?_
    conv => whnf
    repeat (refine SeqP.go ?_; conv => whnf)
    exact ⟨(), ⟨rfl, rfl, trivial⟩, rfl, rfl⟩
  rintro _ φ2 _ rfl
  have hvH := hv.ext g1
  have ld : ∀ H', Grows H1 H' → hval H' (aggOf (cellsAt H' h.next 0 4)) = .val (.agg ⟨bx⟩) H' := fun H' g => by
    rw [all_cells (g.at_ _ _ b1) hbl]
    rfl
  conv => whnf
  repeat (refine SeqP.go ?_; conv => whnf)
  refine ⟨bx, all_cells b1 hbl, ?_⟩
  conv => whnf
  refine ⟨bx, all_cells b1 hbl, ?_⟩
  conv => whnf
  refine ⟨(pad5 c).map int, all_cells d1 (by rw [List.length_map, hp5]), ?_⟩
  conv => whnf
  refine CallP.mono (hR _ p n c _ hvH hP en hc) ?_
  rintro r2 H2 ⟨⟨bq, L, B, rfl, hx⟩, g2⟩
  conv => whnf
  refine CallP.mono (eitherD_spec bx p bq n c L B _ (hvH.ext g2) hP en hx) ?_
  rintro r3 H3 ⟨⟨s, b, rfl, hf⟩, g3⟩
  have g23 := g2.trans g3
  conv => whnf
  refine ⟨?_, ?_⟩
  · repeat' (first | exact True.intro | (refine And.intro ?_ ?_ <;> (conv => whnf)))
    all_goals first
      | exact sameAt_val (h2 := _) (ld _ (Grows.refl _)) hv.same
      | exact sameAt_val (h2 := _) (ld _ g2) hv.same
      | exact sameAt_val (h2 := _) (ld _ g23) hv.same
      | exact sameAt_val (h2 := _) rfl (hv.sameF _)
      | trace_state
  conv => whnf
  repeat (refine SeqP.go ?_; conv => whnf)
  exact ⟨⟨_, _, rfl, hf⟩, g1.trans g23⟩
end
end Go.Proofs.Ytpiplaicnbapbaa
namespace Go.Proofs.Ytpiplaicnbapbaa
open Go.Rx Go.RowKit
theorem bool_eqT (x y : Operand) (a : Bool) : aBin E .eql 4 x y (.bool a) (.bool a) = some (.bool true) := by
  cases a <;> kernel_rfl
end Go.Proofs.Ytpiplaicnbapbaa
namespace Go.Proofs.Ytpiplaicnbapbaa
open Go.Rx Go.RowKit
def posN (R : List Q4) (c5 : List Int) : Nat → List Int
  | 0 => []
  | i + 1 => posN R c5 i ++ (if h : i < R.length then (if Allowed c5 R[i] then [(i : Int)] else []) else [])
theorem posN_skip {R : List Q4} {c5 : List Int} {i : Nat} (h : i < R.length) (k : ¬ Allowed c5 R[i]) : posN R c5 (i + 1) = posN R c5 i := by
  unfold posN
  rw [dif_pos h, if_neg k, List.append_nil]
  cases i <;> rfl
theorem posN_add {R : List Q4} {c5 : List Int} {i : Nat} (h : i < R.length) (k : Allowed c5 R[i]) : posN R c5 (i + 1) = posN R c5 i ++ [(i : Int)] := by
  show posN R c5 i ++ _ = _
  rw [dif_pos h, if_pos k]
theorem posN_len (R : List Q4) (c5 : List Int) : ∀ i, (posN R c5 i).length ≤ i
  | 0 => Nat.le_refl _
  | i + 1 => by
    have := posN_len R c5 i
    show (posN R c5 i ++ _).length ≤ _
    rw [List.length_append]
    split
    · split <;> simp <;> omega
    · simp; omega
theorem posN_mem (R : List Q4) (c5 : List Int) : ∀ i (x : Int), x ∈ posN R c5 i ↔ ∃ k : Nat, x = k ∧ k < i ∧ ∃ hk : k < R.length, Allowed c5 R[k]
  | 0, x => ⟨fun h => (by simp [posN] at h), fun ⟨k, _, h, _⟩ => absurd h (Nat.not_lt_zero _)⟩
  | i + 1, x => by
    show x ∈ posN R c5 i ++ _ ↔ _
    rw [List.mem_append, posN_mem R c5 i x]
    constructor
    · rintro (⟨k, h1, h2, h3⟩ | h)
      · exact ⟨k, h1, by omega, h3⟩
      · split at h
        · rename_i h4
          split at h
          · rename_i h5
            exact ⟨i, List.mem_singleton.1 h, by omega, h4, h5⟩
          · simp at h
        · simp at h
    · rintro ⟨k, h1, h2, h3, h4⟩
      by_cases e : k = i
      · subst e
        refine .inr ?_
        rw [dif_pos h3, if_pos h4, h1]
        simp
      · exact .inl ⟨k, h1, by omega, h3, h4⟩
attribute [local irreducible] E idxN cellAt cellsAt storeAt callable helems hmoved lookIn findKey keyOk hentries Hp.at Hp.set Hp.lay arBits hupdated setAt CallP YieldP BoolOf IsWrap Rnd LoopP AppP CutP Int.tmod Int.tdiv Int.fdiv
section
variable [Unknowns]
attribute [local irreducible] ResP sameAt
theorem possible_spec (v : Value) (R : List Q4) (c5 : List Int) (h : Hp) (hv : RV h v R) (hrl : R.length ≤ 15) (hc : c5.length = 5) (hR : ∀ k, (hk : k < R.length) → QIn 5 R[k]) : CallP E 109 [v, .func (.func 74) ⟨[cv c5]⟩ ⟨[]⟩] h (fun r h' => (∃ l, Built h h' 3 r l ∧ l = posN R c5 R.length) ∧ Grows h h') := by
  have hcells := hv.cells
  obtain ⟨a, rfl, hcells⟩ := hcells
  unfold cv
  refine enter109 (by simp) ?_
  conv => whnf
  refine SeqP.go ?_
  conv => whnf
  refine SeqP.go ?_
  conv => whnf
  refine SeqP.cut (α := Value × List Int × Hp) (fun s => [(5, s.1)]) (fun s H => s.2.2 = H ∧ Grows h s.2.2 ∧ Built h s.2.2 3 s.1 s.2.1 ∧ s.2.1 = posN R c5 R.length) ?_ ?_
  rotate_left
  · rintro ⟨wv, l, H⟩ φ9 _ ⟨rfl, h1, h2, h3⟩
    dsimp only at h1 h2 h3 ⊢
    have hkk := (LV.of h2).known
    obtain ⟨a9, rfl⟩ := hkk
    conv => whnf
    repeat (refine SeqP.go ?_; conv => whnf)
    exact ⟨⟨l, h2, h3⟩, h1⟩
  conv => whnf
  repeat (refine SeqP.go ?_; conv => whnf)
  refine loop_inv (α := Nat × Value × List Int × Hp) (fun s => [(10, int s.1), (9, int R.length), (8, .slice a R.length R.length), (5, s.2.1), (1, .func (.func 74) ⟨[.agg ⟨c5.map int⟩]⟩ ⟨[]⟩)]) (fun s => s.2.2.2) (fun s => s.1 ≤ R.length ∧ Grows h s.2.2.2 ∧ Built h s.2.2.2 3 s.2.1 s.2.2.1 ∧ s.2.2.1 = posN R c5 s.1) (fun s => R.length - s.1) (0, .slice none 0 0, [], h) ⟨Nat.zero_le _, .refl _, .inl ⟨rfl, rfl⟩, rfl⟩ ⟨rfl, rfl, rfl, rfl, rfl, trivial⟩ (Hp.Le.refl _) ?_
  rintro ⟨i, wv, l, H⟩ φ2 ⟨hi, hg, hb, hu⟩
  dsimp only at hi hg hb hu ⊢
  have hcnt : l.length ≤ i := by rw [hu]; exact posN_len R c5 i
  have hkk := (LV.of hb).known
  obtain ⟨aw, rfl⟩ := hkk
  conv => whnf
  repeat (refine SeqP.go ?_; conv => whnf)
  refine cmpB (fun c1 => ?_) (fun c1 => ?_)
  rotate_left
  · have : i = R.length := by omega
    subst this
    conv => whnf
    repeat (refine SeqP.go ?_; conv => whnf)
    exact ⟨(_, l, H), ⟨rfl, trivial⟩, ⟨rfl, hg, hb, hu⟩, rfl⟩
  have hil : i < R.length := by omega
  have hkg := hcells i hil
  obtain ⟨rr, ear, hkc⟩ := hkg
  subst ear
  have hkc := hg.cells hkc
  have hqi := hR i hil
  have hexq : ∃ q, R[i] = q := ⟨_, rfl⟩
  obtain ⟨q, eq⟩ := hexq
  rw [eq] at hkc hqi
  have hPi : (∃ hk : i < R.length, Allowed c5 R[i]) ↔ Allowed c5 q := by
    constructor
    · rintro ⟨hk, k⟩
      rw [← eq]
      exact k
    · intro k
      exact ⟨hil, by rw [eq]; exact k⟩
  conv => whnf
  repeat (refine SeqP.go ?_; conv => whnf)
  refine ⟨rfl, ⟨by omega, by omega⟩, ?_⟩
  conv => whnf
  refine ⟨[int q.a, int q.b, int q.c, int q.d], by rw [offAt_eq]; simpa using hkc, ?_⟩
  conv => whnf
  refine ⟨rfl, _, storeAt_all (vs := [int q.a, int q.b, int q.c, int q.d]) rfl rfl rfl, ?_⟩
  have hg1 := hg.then_lay (.row 96 true [int q.a, int q.b, int q.c, int q.d])
  conv => whnf
  repeat (refine SeqP.go ?_; conv => whnf)
  refine ⟨[int q.a, int q.b, int q.c, int q.d], all_cells (Hp.at_lay_self _ _) rfl, ?_⟩
  conv => whnf
  refine ⟨can74, ?_⟩
  refine CallP.mono (allows_spec c5 q _ hc hqi) ?_
  rintro r2 H2 ⟨⟨b, rfl, hb2⟩, g2⟩
  have hbb := hb.ext ((Grows.lay H (.row 96 true [int q.a, int q.b, int q.c, int q.d])).trans g2)
  cases b with
  | false =>
    conv => whnf
    repeat (refine SeqP.go ?_; conv => whnf)
    refine ⟨((i + 1 : Nat) : Int), wie (by omega) (by omega), ?_⟩
    conv => whnf
    exact Rnd.mk (i + 1, _, l, H2) ⟨by show i + 1 ≤ _; omega, hg1.trans g2, hbb, by show l = posN R c5 (i + 1); rw [posN_skip hil (fun k => hb2.f (by rw [← eq]; exact k))]; exact hu⟩ (by show _ - (i + 1) < _ - i; omega) ⟨rfl, rfl, rfl, rfl, rfl, trivial⟩ (Hp.Le.refl _) rfl
  | true =>
    conv => whnf
    repeat (refine SeqP.go ?_; conv => whnf)
    refine AppP.ints (hbb.ext (Grows.lay _ _)) ((hg1.trans g2).then_lay _) Elems.lay1 (by simp; omega) ?_
    intro v4 H4 hv4 hg4 _
    conv => whnf
    repeat (refine SeqP.go ?_; conv => whnf)
    refine ⟨((i + 1 : Nat) : Int), wie (by omega) (by omega), ?_⟩
    conv => whnf
    exact Rnd.mk (i + 1, v4, l ++ [(i : Int)], H4) ⟨by show i + 1 ≤ _; omega, hg4, hv4, by show l ++ [(i : Int)] = posN R c5 (i + 1); rw [posN_add hil (by rw [eq]; exact hb2.t), hu]⟩ (by show _ - (i + 1) < _ - i; omega) ⟨rfl, rfl, rfl, rfl, rfl, trivial⟩ (Hp.Le.refl _) rfl
end
end Go.Proofs.Ytpiplaicnbapbaa
namespace Go.Proofs.Ytpiplaicnbapbaa
open Go.Rx Go.RowKit
structure K5 where
  a : Int
  b : Int
  c : Int
  d : Int
  e : Int
  deriving DecidableEq
def enc5 (k : K5) : Value := .agg ⟨[int k.a, int k.b, int k.c, int k.d, int k.e]⟩
theorem key5_ok (k : K5) : keyOk E 107 (enc5 k) = true := by
  kernel_rfl
theorem key5_bits (k : K5) : Instr.sameBits 10000 (enc5 k) (enc5 k) = true := by
  obtain ⟨a, b, c, d, e⟩ := k
  unfold enc5
  simp [Instr.sameBits]
end Go.Proofs.Ytpiplaicnbapbaa
namespace Go.Proofs.Ytpiplaicnbapbaa
open Go.Rx Go.RowKit
theorem key5_eq (k k' : K5) : keyEq Try.prog 107 (enc5 k) (enc5 k') = some (decide (k = k')) := by
  obtain ⟨a, b, c, d, e⟩ := k
  obtain ⟨a', b', c', d', e'⟩ := k'
  have e1 : decide ((⟨a, b, c, d, e⟩ : K5) = ⟨a', b', c', d', e'⟩) = (decide (a = a') && decide (b = b') && decide (c = c') && decide (d = d') && decide (e = e')) := by
    rw [Bool.eq_iff_iff]
    simp [and_assoc]
  rw [e1]
  unfold enc5
  have st : ∀ (k : Program → Sem Bool), pureRun Try.prog (.program k) = pureRun Try.prog (k Try.prog) := fun k => rfl
  show _ = some ((a == a') && (b == b') && (c == c') && (d == d') && (e == e'))
  conv => lhs; whnf
  conv => lhs; arg 2; whnf
  conv => lhs; arg 2; arg 1; rw [Std.Legacy.Range.forIn_eq_forIn_range']
  conv => lhs; arg 2; whnf
  repeat (rw [st]; conv => lhs; arg 2; whnf)
  conv => lhs; arg 2; arg 1; whnf
  conv => lhs; arg 2; arg 1; arg 1; whnf
  dsimp only
  cases h1 : (a == a')
  · rfl
  conv => lhs; arg 2; whnf
  repeat (rw [st]; conv => lhs; arg 2; whnf)
  conv => lhs; arg 2; arg 1; whnf
  conv => lhs; arg 2; arg 1; arg 1; whnf
  dsimp only
  cases h2 : (b == b')
  · rfl
  conv => lhs; arg 2; whnf
  repeat (rw [st]; conv => lhs; arg 2; whnf)
  conv => lhs; arg 2; arg 1; whnf
  conv => lhs; arg 2; arg 1; arg 1; whnf
  dsimp only
  cases h3 : (c == c')
  · rfl
  conv => lhs; arg 2; whnf
  repeat (rw [st]; conv => lhs; arg 2; whnf)
  conv => lhs; arg 2; arg 1; whnf
  conv => lhs; arg 2; arg 1; arg 1; whnf
  dsimp only
  cases h4 : (d == d')
  · rfl
  conv => lhs; arg 2; whnf
  repeat (rw [st]; conv => lhs; arg 2; whnf)
  conv => lhs; arg 2; arg 1; whnf
  conv => lhs; arg 2; arg 1; arg 1; whnf
  dsimp only
  cases h5 : (e == e')
  · rfl
  · rfl
theorem key107 : KeyTy E 107 enc5 where
  ok := key5_ok
  eq := key5_eq
  bits := key5_bits
def k5 (l : List Int) : K5 := ⟨gl l 0, gl l 1, gl l 2, gl l 3, gl l 4⟩
theorem enc_k5 {l : List Int} (h : l.length = 5) : enc5 (k5 l) = .agg ⟨l.map int⟩ := by
  match l, h with
  | [a, b, c, d, e], _ => rfl
theorem k5_pad {n : Nat} {c d : List Int} (hc : CrOk n c) (hd : CrOk n d) (hn : n ≤ 5) (e : k5 (pad5 c) = k5 (pad5 d)) : c = d := by
  have h1 := hc.len
  have h2 := hd.len
  unfold k5 at e
  simp only [gl_pad, K5.mk.injEq] at e
  obtain ⟨e0, e1, e2, e3, e4⟩ := e
  apply List.ext_getElem (by omega)
  intro i hi hj
  rw [← gl_at hi, ← gl_at hj]
  have : i = 0 ∨ i = 1 ∨ i = 2 ∨ i = 3 ∨ i = 4 := by omega
  rcases this with x | x | x | x | x <;> subst x <;> assumption
end Go.Proofs.Ytpiplaicnbapbaa
namespace Go.Proofs.Ytpiplaicnbapbaa
open Go.Rx Go.RowKit
theorem ty137 : ∃ i, E.ty 137 = some i ∧ i.desc = .map 107 3 := by
  have hs : (tiOf Try.prog 137).isSome = true := by kernel_rfl
  refine ⟨(tiOf Try.prog 137).get hs, ty_get (by kernel_rfl) (Option.some_get hs).symm, ?_⟩
  kernel_rfl
theorem ty3 : ∃ i, E.ty 3 = some i ∧ isI64 i.desc = true ∧ i.zero = some (int 0) := by
  have hs : (tiOf Try.prog 3).isSome = true := by kernel_rfl
  refine ⟨(tiOf Try.prog 3).get hs, ty_get (by kernel_rfl) (Option.some_get hs).symm, ?_, ?_⟩
  · kernel_rfl
  · kernel_rfl
abbrev encI : Int → Value := fun n : Int => int n
def IxOf {κ : Type} (key : List Int → κ) (L : List (List Int)) (f : κ → Option Value) : Prop := (∀ i, (hi : i < L.length) → f (key L[i]) = some (int i)) ∧ ∀ k v, f k = some v → ∃ i, ∃ hi : i < L.length, k = key L[i] ∧ v = int i
theorem IxOf.add {κ : Type} [DecidableEq κ] {key : List Int → κ} {L : List (List Int)} {f : κ → Option Value} (h : IxOf key L f) {c : List Int} (hn : f (key c) = none) : IxOf key (L ++ [c]) (fun k' => if k' = key c then some (int L.length) else f k') := by
  refine ⟨fun i hi => ?_, fun k v hk => ?_⟩
  · rw [List.length_append, List.length_singleton] at hi
    by_cases e : i < L.length
    · rw [List.getElem_append_left e]
      dsimp only
      rw [if_neg (fun e2 => by rw [← e2, h.1 i e] at hn; cases hn)]
      exact h.1 i e
    · have e2 : i = L.length := by omega
      subst e2
      simp
  · dsimp only at hk
    by_cases e : k = key c
    · rw [if_pos e] at hk
      cases hk
      exact ⟨L.length, by simp, by simp [e], rfl⟩
    · rw [if_neg e] at hk
      obtain ⟨i, hi, h1, h2⟩ := h.2 k v hk
      exact ⟨i, by rw [List.length_append]; omega, by rw [List.getElem_append_left hi]; exact h1, h2⟩
theorem IxOf.none_iff {κ : Type} {key : List Int → κ} {L : List (List Int)} {f : κ → Option Value} (h : IxOf key L f) {c : List Int} (inj : ∀ d ∈ L, key d = key c → d = c) (hn : f (key c) = none) : c ∉ L := by
  intro hm
  obtain ⟨i, hi, e⟩ := List.getElem_of_mem hm
  have := h.1 i hi
  rw [e, hn] at this
  cases this
theorem IxOf.some_iff {κ : Type} {key : List Int → κ} {L : List (List Int)} {f : κ → Option Value} (h : IxOf key L f) {c : List Int} (inj : ∀ d ∈ L, key d = key c → d = c) {v : Value} (hs : f (key c) = some v) : ∃ i, ∃ hi : i < L.length, L[i] = c ∧ v = int i := by
  obtain ⟨i, hi, h1, h2⟩ := h.2 _ v hs
  exact ⟨i, hi, inj _ (List.getElem_mem _) h1.symm, h2⟩
end Go.Proofs.Ytpiplaicnbapbaa
namespace Go.Proofs.Ytpiplaicnbapbaa
open Go.Rx Go.RowKit
theorem crowds_few {n : Nat} {L : List (List Int)} (hn : n ≤ 5) (h : ∀ d ∈ L, CrOk n d) (hd : L.Nodup) : L.length ≤ 100000 := by
  have h1 := nodup_map (f := fun d => (keyOf d).toNat) hd (fun a ha b hb e => keyOf_inj (h a ha) (h b hb) (by
    have h2 := keyOf_bd hn (h a ha)
    have h3 := keyOf_bd hn (h b hb)
    omega))
  have h2 := nodup_lt 100000 _ h1 (fun x hx => by
    obtain ⟨d, hd2, rfl⟩ := List.mem_map.1 hx
    have := keyOf_bd hn (h d hd2)
    omega)
  rw [List.length_map] at h2
  exact h2
theorem Nx.done {R : List Q4} {L N : List (List Int)} (k : Nx R L N) (hl : N.length = L.length) (hd : L.Nodup) (hR : R.length ≤ 1000) : NxOk R L N := by
  refine ⟨hl, fun i hi x hx => ?_, fun i b he => ?_, fun i hi => ?_⟩
  · have h1 := List.getElem?_eq_getElem (l := L) (i := i) (by omega)
    obtain ⟨kk, e, j, h2, h3, h4⟩ := (k.row i _ _ h1 (List.getElem?_eq_getElem hi)).fwd x hx
    exact ⟨kk, h2, _, e, j, h1, h3, h4⟩
  · have hlt := he.lt
    obtain ⟨d, e, j, h1, h2, h3⟩ := he
    have hi : i < N.length := by omega
    obtain ⟨kk, h4, h5⟩ := (k.row i _ _ h1 (List.getElem?_eq_getElem hi)).bwd j e (step_range h3).2 h3
    have hkk := (List.getElem?_eq_some_iff.1 h4).1
    have : kk = b := (List.getElem?_inj hkk hd).1 (h4.trans h2.symm)
    subst this
    exact ⟨hi, h5⟩
  · have h1 := List.getElem?_eq_getElem (l := L) (i := i) (by omega)
    have := (k.row i _ _ h1 (List.getElem?_eq_getElem hi)).few
    omega
end Go.Proofs.Ytpiplaicnbapbaa
namespace Go.Proofs.Ytpiplaicnbapbaa
open Go.Rx Go.RowKit
abbrev nilS : Value := .slice none 0 0
structure RRI (hb H : Hp) (lv sv nv rv : Value) (M O X : Nat) (us vs : List Value) (L N : List (List Int)) (S row : List Int) (f : Int → Option Value) (m : Nat) (ov : Value) : Prop where
  gr : Grows hb H
  l : BuiltC hb H 22 1 lv us.length us
  le : EL H us L
  s : BuiltC hb H 3 1 sv S.length (S.map int)
  n : BuiltC hb H 22 1 nv vs.length vs
  ne : EL H vs N
  r : BuiltC hb H 3 1 rv row.length (row.map int)
  m : MapAt H M encI f m
  o : H.at O = some (.row 64 true [nilS, nilS, ov])
  hM : hb.next ≤ M
  hO : hb.next ≤ O
  sep : Sep H [lv, sv, nv, rv, slc M 0 0 0, slc O 0 0 0, slc X 0 0 0] (us ++ vs)
theorem RRI.ext {hb H H' : Hp} {lv sv nv rv : Value} {M O X : Nat} {us vs : List Value} {L N : List (List Int)} {S row : List Int} {f : Int → Option Value} {m : Nat} {ov : Value} (k : RRI hb H lv sv nv rv M O X us vs L N S row f m ov) (g : Grows H H') : RRI hb H' lv sv nv rv M O X us vs L N S row f m ov :=
  ⟨k.gr.trans g, k.l.ext g, k.le.ext g, k.s.ext g, k.n.ext g, k.ne.ext g, k.r.ext g, k.m.ext g, g.at_ _ _ k.o, k.hM, k.hO, k.sep.ext g⟩
theorem ap_at {a : Option Nat} {h h' : Hp} {r : Nat} {o : Rx.Obj} {v : Value} (x : Kx (ad v) h h') (e : h.at r = some o) (k : Ap v (slc r 0 0 0)) : h'.at r = some o := x.at_ e fun e2 => k r e2 rfl
theorem map_kx {h h' : Hp} {M : Nat} {f : Int → Option Value} {m : Nat} {v : Value} (k : MapAt h M encI f m) (x : Kx (ad v) h h') (a : Ap v (slc M 0 0 0)) : MapAt h' M encI f m := by
  obtain ⟨es, c, h1, h2, h3⟩ := k
  exact ⟨es, c, x.at_ h1 (fun e2 => a M e2 rfl), h2, h3⟩
theorem RRI.start {hb H4 : Hp} {X : Nat} {w : Value} {c : List Int} {f : Int → Option Value} (hw : View hb w c) (y : Keeps ((hb.lay (.row 22 true [w])).lay (.row 3 true [int 0])).next (((hb.lay (.row 22 true [w])).lay (.row 3 true [int 0])).lay (.map [] 0)) H4) (hm : MapAt H4 ((hb.lay (.row 22 true [w])).lay (.row 3 true [int 0])).next encI f 1) (hX : X < hb.next) (hwX : ∀ r, ad w = some r → r < X) : RRI hb (H4.lay (.row 64 true [nilS, nilS, nilS])) (slc hb.next 0 1 1) (slc (hb.lay (.row 22 true [w])).next 0 1 1) nilS nilS ((hb.lay (.row 22 true [w])).lay (.row 3 true [int 0])).next H4.next X [w] [] [c] [] [0] [] f 1 nilS := by
  have e1 : (hb.lay (.row 22 true [w])).next = hb.next + 1 := Hp.next_lay _ _
  have e2 : ((hb.lay (.row 22 true [w])).lay (.row 3 true [int 0])).next = hb.next + 2 := by rw [Hp.next_lay, e1]
  have e3 : (((hb.lay (.row 22 true [w])).lay (.row 3 true [int 0])).lay (.map [] 0)).next = hb.next + 3 := by rw [Hp.next_lay, e2]
  have e4 : H4.next = hb.next + 3 := by rw [y.next, e3]
  have e5 : (H4.lay (.row 64 true [nilS, nilS, nilS])).next = hb.next + 4 := by rw [Hp.next_lay, e4]
  have g3 : Grows hb (((hb.lay (.row 22 true [w])).lay (.row 3 true [int 0])).lay (.map [] 0)) := ((Grows.lay _ _).then_lay _).then_lay _
  have g4 : Grows hb H4 := y.grows g3 (by omega)
  have g5 : Grows hb (H4.lay (.row 64 true [nilS, nilS, nilS])) := g4.then_lay _
  have a1 : (((hb.lay (.row 22 true [w])).lay (.row 3 true [int 0])).lay (.map [] 0)).at hb.next = some (.row 22 true [w]) := Hp.at_lay_old _ (Hp.at_lay_old _ (Hp.at_lay_self _ _))
  have a2 : (((hb.lay (.row 22 true [w])).lay (.row 3 true [int 0])).lay (.map [] 0)).at (hb.lay (.row 22 true [w])).next = some (.row 3 true [int 0]) := Hp.at_lay_old _ (Hp.at_lay_self _ _)
  refine ⟨g5, ⟨rfl, .inr ⟨_, rfl, Nat.le_refl _, true, Hp.at_lay_old _ (y.at_ _ _ (by omega) a1)⟩⟩, (EL.nil _).add (hw.ext g5), ⟨rfl, .inr ⟨_, rfl, by omega, true, Hp.at_lay_old _ (y.at_ _ _ (by omega) a2)⟩⟩, BuiltC.nil, EL.nil _, BuiltC.nil, hm.ext (Grows.lay _ _), Hp.at_lay_self _ _, by omega, by omega, ?_⟩
  have s0 : Rx.Sep hb [] [w] := ⟨fun v h => by simp at h, fun u hu r e => by rw [List.mem_singleton.1 hu] at e; exact hw.ad_lt r e, fun i j v u _ h => by simp at h, fun v h => by simp at h⟩
  have s1 := s0.addR (h' := hb.lay (.row 22 true [w])) (by omega) (v' := slc hb.next 0 1 1) (fun r e => by cases e; omega)
  have s2 := s1.addR (h' := (hb.lay (.row 22 true [w])).lay (.row 3 true [int 0])) (by omega) (v' := slc (hb.lay (.row 22 true [w])).next 0 1 1) (fun r e => by cases e; omega)
  have s3 := s2.addR (h' := (hb.lay (.row 22 true [w])).lay (.row 3 true [int 0])) (by omega) (v' := nilS) (fun r e => by cases e)
  have s4 := s3.addR (h' := (hb.lay (.row 22 true [w])).lay (.row 3 true [int 0])) (by omega) (v' := nilS) (fun r e => by cases e)
  have s5 := s4.addR (h' := H4) (by omega) (v' := slc ((hb.lay (.row 22 true [w])).lay (.row 3 true [int 0])).next 0 0 0) (fun r e => by cases e; omega)
  have s6 := s5.addR (h' := H4.lay (.row 64 true [nilS, nilS, nilS])) (by omega) (v' := slc H4.next 0 0 0) (fun r e => by cases e; omega)
  refine s6.addR' (v' := slc X 0 0 0) (fun r e => by cases e; omega) (fun v hv r e e2 => ?_) (fun u hu r e e2 => ?_)
  · cases e2
    simp at hv
    rcases hv with rfl | rfl | rfl | rfl | rfl <;> cases e <;> omega
  · cases e
    rw [List.mem_singleton.1 hu] at e2
    have := hwX X e2
    omega
section
variable {hb H : Hp} {lv sv nv rv : Value} {M O X : Nat} {us vs : List Value} {L N : List (List Int)} {S row : List Int} {f : Int → Option Value} {m : Nat} {ov : Value}
theorem RRI.s_app {z : Int} {b : Bool} {K : Value → Hp → Prop} (k : RRI hb H lv sv nv rv M O X us vs L N S row f m ov) (hl : S.length ≤ 1000000)
    (q : ∀ sv' H', RRI hb H' lv sv' nv rv M O X us vs L N (S ++ [z]) row f m ov → K sv' H') : AppP E (H.lay (.row 3 b [int z])) 3 1 8 sv (slc H.next 0 1 1) K := by
  have k1 := k.ext (Grows.lay H (.row 3 b [int z]))
  refine AppP.cellsF k1.s k1.gr (elemsC_one (u := int z) rfl) (by omega) (by omega) (by omega) ?_
  intro v' H' hb' hg' hkeep ⟨r', er, hr'⟩
  have x := Kx.builtC k1.s hkeep
  have hv : ∀ r, ad v' = some r → (H.lay (.row 3 b [int z])).next ≤ r ∧ r < H'.next := fun r e => ⟨by rw [er] at e; cases e; exact hr', (hb'.ad_lt r e).2⟩
  have hnx : (H.lay (.row 3 b [int z])).next ≤ H'.next := by have := hv r' (by rw [er]; rfl); omega
  have al := k1.sep.ap 1 0 _ _ (by decide) rfl rfl
  have an := k1.sep.ap 1 2 _ _ (by decide) rfl rfl
  have ar := k1.sep.ap 1 3 _ _ (by decide) rfl rfl
  have aM := k1.sep.ap 1 4 _ _ (by decide) rfl rfl
  have aO := k1.sep.ap 1 5 _ _ (by decide) rfl rfl
  have ae := fun x hx => k1.sep.ape sv (by simp) x hx
  refine q _ _ ⟨hg', k1.l.kx x al, k1.le.kx x (fun w hw => ae w (by simp [hw])), by rw [List.length_append, List.map_append]; exact hb', k1.n.kx x an, k1.ne.kx x (fun w hw => ae w (by simp [hw])), k1.r.kx x ar, map_kx k1.m x aM, ap_at (a := none) x k1.o aO, k.hM, k.hO, k1.sep.move hnx 1 hv⟩
theorem RRI.r_app {z : Int} {b : Bool} {K : Value → Hp → Prop} (k : RRI hb H lv sv nv rv M O X us vs L N S row f m ov) (hl : row.length ≤ 1000000)
    (q : ∀ rv' H', RRI hb H' lv sv nv rv' M O X us vs L N S (row ++ [z]) f m ov → K rv' H') : AppP E (H.lay (.row 3 b [int z])) 3 1 8 rv (slc H.next 0 1 1) K := by
  have k1 := k.ext (Grows.lay H (.row 3 b [int z]))
  refine AppP.cellsF k1.r k1.gr (elemsC_one (u := int z) rfl) (by omega) (by omega) (by omega) ?_
  intro v' H' hb' hg' hkeep ⟨r', er, hr'⟩
  have x := Kx.builtC k1.r hkeep
  have hv : ∀ r, ad v' = some r → (H.lay (.row 3 b [int z])).next ≤ r ∧ r < H'.next := fun r e => ⟨by rw [er] at e; cases e; exact hr', (hb'.ad_lt r e).2⟩
  have hnx : (H.lay (.row 3 b [int z])).next ≤ H'.next := by have := hv r' (by rw [er]; rfl); omega
  have al := k1.sep.ap 3 0 _ _ (by decide) rfl rfl
  have aS := k1.sep.ap 3 1 _ _ (by decide) rfl rfl
  have an := k1.sep.ap 3 2 _ _ (by decide) rfl rfl
  have aM := k1.sep.ap 3 4 _ _ (by decide) rfl rfl
  have aO := k1.sep.ap 3 5 _ _ (by decide) rfl rfl
  have ae := fun x hx => k1.sep.ape rv (by simp) x hx
  refine q _ _ ⟨hg', k1.l.kx x al, k1.le.kx x (fun w hw => ae w (by simp [hw])), k1.s.kx x aS, k1.n.kx x an, k1.ne.kx x (fun w hw => ae w (by simp [hw])), by rw [List.length_append, List.map_append]; exact hb', map_kx k1.m x aM, ap_at (a := none) x k1.o aO, k.hM, k.hO, k1.sep.move hnx 3 hv⟩
theorem RRI.mapped {H' : Hp} {f' : Int → Option Value} {m' : Nat} (k : RRI hb H lv sv nv rv M O X us vs L N S row f m ov) (y : Keeps M H H') (hm : MapAt H' M encI f' m') : RRI hb H' lv sv nv rv M O X us vs L N S row f' m' ov := by
  have x : Kx (ad (slc M 0 0 0)) H H' := Kx.keeps y
  have ae := fun x hx => k.sep.ape (slc M 0 0 0) (by simp) x hx
  exact ⟨y.grows k.gr k.hM, k.l.kx x (k.sep.ap 4 0 _ _ (by decide) rfl rfl), k.le.kx x (fun w hw => ae w (by simp [hw])), k.s.kx x (k.sep.ap 4 1 _ _ (by decide) rfl rfl), k.n.kx x (k.sep.ap 4 2 _ _ (by decide) rfl rfl), k.ne.kx x (fun w hw => ae w (by simp [hw])), k.r.kx x (k.sep.ap 4 3 _ _ (by decide) rfl rfl), hm, ap_at (a := none) x k.o (k.sep.ap 4 5 _ _ (by decide) rfl rfl), k.hM, k.hO, k.sep.next (by rw [y.next]; exact Nat.le_refl _)⟩
theorem RRI.put (k : RRI hb H lv sv nv rv M O X us vs L N S row f m ov) : storeAt H O 2 [nv] = some (H.set O (.row 64 true [nilS, nilS, nv])) ∧ RRI hb (H.set O (.row 64 true [nilS, nilS, nv])) lv sv nv rv M O X us vs L N S row f m nv := by
  have x : Kx (ad (slc O 0 0 0)) H (H.set O (.row 64 true [nilS, nilS, nv])) := Kx.set _ _ _
  have ae := fun x hx => k.sep.ape (slc O 0 0 0) (by simp) x hx
  have hlt := Hp.lt_of_at k.o
  obtain ⟨an, en, -⟩ := k.n.slice
  refine ⟨storeAt_row k.o (by simp) (by rw [en]; rfl), ⟨k.gr.then_set _ k.hO, k.l.kx x (k.sep.ap 5 0 _ _ (by decide) rfl rfl), k.le.kx x (fun w hw => ae w (by simp [hw])), k.s.kx x (k.sep.ap 5 1 _ _ (by decide) rfl rfl), k.n.kx x (k.sep.ap 5 2 _ _ (by decide) rfl rfl), k.ne.kx x (fun w hw => ae w (by simp [hw])), k.r.kx x (k.sep.ap 5 3 _ _ (by decide) rfl rfl), map_kx k.m x (k.sep.ap 5 4 _ _ (by decide) rfl rfl), Hp.at_set_self _ hlt, k.hM, k.hO, k.sep.next (Nat.le_refl _)⟩⟩
theorem RRI.fin {h : Hp} {cs : List Value} (k : RRI hb H lv sv nv rv M O X us vs L N S row f m nv) (hx : H.at X = some (.row 64 true cs)) (hc : cs.length = 3) (hn : h.next ≤ X) (hg : Grows h H) (hO : h.next ≤ O) : ∃ H1 H2 H3, storeAt H O 0 [lv] = some H1 ∧ storeAt H1 O 1 [sv] = some H2 ∧ cellsAt H2 O 0 3 = some [lv, sv, nv] ∧ storeAt H2 X 0 [lv, sv, nv] = some H3 ∧ H3.at X = some (.row 64 true [lv, sv, nv]) ∧ Grows h H3 ∧ BuiltC hb H3 22 1 lv us.length us ∧ EL H3 us L ∧ BuiltC hb H3 3 1 sv S.length (S.map int) ∧ BuiltC hb H3 22 1 nv vs.length vs ∧ EL H3 vs N := by
  obtain ⟨al, el, -⟩ := k.l.slice
  obtain ⟨as_, es, -⟩ := k.s.slice
  obtain ⟨an, en, -⟩ := k.n.slice
  have o1 : oneCell lv = true := by rw [el]; rfl
  have o2 : oneCell sv = true := by rw [es]; rfl
  have o3 : oneCell nv = true := by rw [en]; rfl
  have hlt := Hp.lt_of_at k.o
  have hltX := Hp.lt_of_at hx
  have aOX := k.sep.ap 5 6 _ _ (by decide) rfl rfl
  have ne : O ≠ X := fun e => aOX O rfl (by rw [e]; rfl)
  have e1 := storeAt_row k.o (o := 0) (v := lv) (by simp) o1
  have at1 : (H.set O (.row 64 true ([nilS, nilS, nv].set 0 lv))).at O = some (.row 64 true [lv, nilS, nv]) := Hp.at_set_self _ hlt
  have e2 := storeAt_row at1 (o := 1) (v := sv) (by simp) o2
  have at2 : ((H.set O (.row 64 true ([nilS, nilS, nv].set 0 lv))).set O (.row 64 true ([lv, nilS, nv].set 1 sv))).at O = some (.row 64 true [lv, sv, nv]) := Hp.at_set_self _ hlt
  have atX : ((H.set O (.row 64 true ([nilS, nilS, nv].set 0 lv))).set O (.row 64 true ([lv, nilS, nv].set 1 sv))).at X = some (.row 64 true cs) := by rw [Hp.at_set_ne _ (fun e => ne e.symm), Hp.at_set_ne _ (fun e => ne e.symm)]; exact hx
  match cs, hc with
  | [c1, c2, c3], _ =>
  have e3 := storeAt_full atX (vs := [lv, sv, nv]) rfl (by simp [o1, o2, o3]) rfl
  have x1 : Kx (ad (slc O 0 0 0)) H ((H.set O (.row 64 true ([nilS, nilS, nv].set 0 lv))).set O (.row 64 true ([lv, nilS, nv].set 1 sv))) := (Kx.set _ _ _).trans (Kx.set _ _ _)
  have x2 : Kx (ad (slc X 0 0 0)) ((H.set O (.row 64 true ([nilS, nilS, nv].set 0 lv))).set O (.row 64 true ([lv, nilS, nv].set 1 sv))) (((H.set O (.row 64 true ([nilS, nilS, nv].set 0 lv))).set O (.row 64 true ([lv, nilS, nv].set 1 sv))).set X (.row 64 true [lv, sv, nv])) := Kx.set _ _ _
  have aO := fun x hx => k.sep.ape (slc O 0 0 0) (by simp) x hx
  have aX := fun x hx => k.sep.ape (slc X 0 0 0) (by simp) x hx
  refine ⟨_, _, _, e1, e2, all_cells at2 rfl, e3, Hp.at_set_self _ hltX, ((hg.then_set _ hO).then_set _ hO).then_set _ hn, ?_, ?_, ?_, ?_, ?_⟩
  · exact (k.l.kx x1 (k.sep.ap 5 0 _ _ (by decide) rfl rfl)).kx x2 (k.sep.ap 6 0 _ _ (by decide) rfl rfl)
  · exact (k.le.kx x1 (fun w hw => aO w (by simp [hw]))).kx x2 (fun w hw => aX w (by simp [hw]))
  · exact (k.s.kx x1 (k.sep.ap 5 1 _ _ (by decide) rfl rfl)).kx x2 (k.sep.ap 6 1 _ _ (by decide) rfl rfl)
  · exact (k.n.kx x1 (k.sep.ap 5 2 _ _ (by decide) rfl rfl)).kx x2 (k.sep.ap 6 2 _ _ (by decide) rfl rfl)
  · exact (k.ne.kx x1 (fun w hw => aO w (by simp [hw]))).kx x2 (fun w hw => aX w (by simp [hw]))
end
end Go.Proofs.Ytpiplaicnbapbaa
namespace Go.Proofs.Ytpiplaicnbapbaa
open Go.Rx Go.RowKit
theorem EL.sl {h0 h : Hp} {e : TypeId} {v : Value} {us : List Value} {L : List (List Int)} (b : BuiltC h0 h e 1 v us.length us) (k : EL h us L) : SL h v L := by
  obtain ⟨hl, hb⟩ := b
  rcases hb with ⟨rfl, h0⟩ | ⟨r, rfl, _, x, hr⟩
  · exact ⟨none, 0, by rw [← k.1, h0], fun j hj => by have := k.1; omega⟩
  · refine ⟨some ⟨r, 0, none⟩, us.length, by rw [← k.1]; rfl, fun j hj => ?_⟩
    have hj' : j < us.length := by have := k.1; omega
    exact ⟨r, 0, none, us[j], rfl, rfl, cellAt_row hr (List.getElem?_eq_getElem hj'), k.2 j _ _ (List.getElem?_eq_getElem hj') (List.getElem?_eq_getElem hj)⟩
theorem SL.kx {h h' : Hp} {r : Nat} {v : Value} {L : List (List Int)} (k : SL h v L) (g : ∀ k o, k ≠ r → h.at k = some o → h'.at k = some o) : True := trivial
end Go.Proofs.Ytpiplaicnbapbaa
namespace Go.Proofs.Ytpiplaicnbapbaa
open Go.Rx Go.RowKit
def mv (R : List Q4) (c5 : List Int) (i : Int) : List Value := [int i, cv (after c5 (R.getD i.toNat ⟨0, 0, 0, 0⟩))]
theorem sameV_yield (l : Nat) : sameV 4 (yieldVal l) (yieldVal l) = true := by simp [sameV, yieldVal, sameL]
attribute [local irreducible] E idxN cellAt cellsAt storeAt callable helems hmoved lookIn findKey keyOk hentries Hp.at Hp.set Hp.lay arBits hupdated setAt CallP YieldP BoolOf IsWrap Rnd LoopP AppP CutP Int.tmod Int.tdiv Int.fdiv
section
variable [Unknowns]
attribute [local irreducible] ResP sameAt
theorem meet_iter (P C l : Nat) (bp : List Value) (R : List Q4) (c5 : List Int) (hbase : Hp) (v3 : Value) (b3 : bp[3]? = some v3) (k3 : RV hbase v3 R) (hbl : bp.length = 4) (hrl : R.length ≤ 15) (hc5 : c5.length = 5) (hb : ∀ j, -100 ≤ gl c5 j ∧ gl c5 j ≤ 100) (hR : ∀ k, (hk : k < R.length) → QIn 5 R[k]) (I : Nat → List Nat → Hp → Prop) (S : Hp → Prop) (h : Hp) (ext : ExtI I) (hJ : ∀ k es h, I k es h → Grows hbase h ∧ h.at P = some (.row 25 true bp) ∧ h.at C = some (.row 107 true (c5.map int))) (h0 : I 0 [] h) (hit : IterE E l ((posN R c5 R.length).map (mv R c5)) I S) : CallP E 108 [yieldVal l, ptr P 0, ptr C 0] h (fun _ h' => I ((posN R c5 R.length).map (mv R c5)).length [] h' ∨ S h') := by
  have hJ0 := hJ 0 [] h h0
  obtain ⟨gb, aP, aC⟩ := hJ0
  have hkc := k3.cells
  obtain ⟨a3, rfl, hcells⟩ := hkc
  have hexi : ∃ idx, posN R c5 R.length = idx := ⟨_, rfl⟩
  obtain ⟨idx, ei⟩ := hexi
  have hmem := posN_mem R c5 R.length
  have hil := posN_len R c5 R.length
  rw [ei] at hmem hil hit ⊢
  have hlen : (idx.map (mv R c5)).length = idx.length := List.length_map _
  rw [hlen]
  have yld : ∀ (k : Nat) (es : List Nat) (hk : k < idx.length) (q : Q4) (h : Hp), R.getD idx[k].toNat ⟨0, 0, 0, 0⟩ = q → I k es h → YieldP E l [int idx[k], cv (after c5 q)] h fun v h' => (v = .bool true ∧ I (k + 1) es h' ∧ KE es h h') ∨ (v = .bool false ∧ S h') := by
    intro k es hk q h eq hI
    have := hit k es (by rw [hlen]; exact hk) h hI
    rw [List.getElem_map] at this
    rw [← eq]
    exact this
  refine enter108 (by simp) ?_
  conv => whnf
  refine SeqP.cut (α := Value × Hp) (fun s => [(12, int 0), (11, int idx.length), (10, s.1), (2, ptr C 0), (1, ptr P 0), (0, yieldVal l)]) (fun s H => s.2 = H ∧ Grows h s.2 ∧ Built h s.2 3 s.1 idx) ?_ ?_
  · conv => whnf
    refine ⟨_, cellAt_row aP b3, ?_⟩
    conv => whnf
    refine ⟨c5.map int, all_cells aC (by rw [List.length_map, hc5]), ?_⟩
    conv => whnf
    refine CallP.mono (possible_spec _ R c5 _ (k3.ext gb) hrl hc5 hR) ?_
    rintro r1 H1 ⟨⟨l', hbl', rfl⟩, g1⟩
    rw [ei] at hbl'
    have hkk := (LV.of hbl').known
    obtain ⟨aw, rfl⟩ := hkk
    conv => whnf
    exact ⟨(_, H1), ⟨rfl, rfl, rfl, rfl, rfl, rfl, trivial⟩, ⟨rfl, g1, hbl'⟩, rfl⟩
  rintro ⟨lv, H1⟩ φ1 _ ⟨rfl, g1, hbl1⟩
  dsimp only at g1 hbl1 ⊢
  have hds : ∃ ds : List Nat, (∀ d ∈ ds, h.next ≤ d ∧ d < H1.next) ∧ ∀ H, KE ds H1 H → Built h H 3 lv idx := by
    rcases id hbl1 with ⟨e1, e2⟩ | ⟨r, e1, e2, x, e3⟩
    · exact ⟨[], fun d hd => by simp at hd, fun H _ => .inl ⟨e1, e2⟩⟩
    · exact ⟨[r], fun d hd => by rw [List.mem_singleton.1 hd]; exact ⟨e2, Hp.lt_of_at e3⟩, fun H k => .inr ⟨r, e1, e2, x, k r (by simp) _ e3⟩⟩
  obtain ⟨ds, hd1, hd2⟩ := hds
  have h1 := ext.more 0 [] h H1 ds h0 g1 hd1
  conv => whnf
  refine loop_inv (α := Nat × Hp) (fun s => [(12, int s.1), (11, int idx.length), (10, lv), (2, ptr C 0), (1, ptr P 0), (0, yieldVal l)]) (fun s => s.2) (fun s => s.1 ≤ idx.length ∧ I s.1 (ds ++ []) s.2 ∧ KE ds H1 s.2) (fun s => idx.length - s.1) (0, H1) ⟨Nat.zero_le _, h1, KE.grows (Grows.refl _)⟩ ⟨rfl, rfl, rfl, rfl, rfl, rfl, trivial⟩ (Hp.Le.refl _) ?_
  rintro ⟨k, H⟩ φ2 ⟨hk, hI, hke⟩
  dsimp only at hk hI hke ⊢
  conv => whnf
  repeat (refine SeqP.go ?_; conv => whnf)
  refine cmpB (fun c1 => ?_) (fun c1 => ?_)
  rotate_left
  · have : k = idx.length := by omega
    subst this
    conv => whnf
    repeat (refine SeqP.go ?_; conv => whnf)
    exact .inl (ext.less _ _ _ _ hI)
  have hkl : k < idx.length := by omega
  have hexx : ∃ x, idx[k] = x := ⟨_, rfl⟩
  obtain ⟨x, ex⟩ := hexx
  have hxm := (hmem x).1 (by rw [← ex]; exact List.getElem_mem _)
  obtain ⟨xn, rfl, -, hxR, hall⟩ := hxm
  have hqi := hR xn hxR
  have hkg := hcells xn hxR
  obtain ⟨rr, ear, hkc⟩ := hkg
  subst ear
  have hgd : R.getD (idx[k]).toNat ⟨0, 0, 0, 0⟩ = R[xn] := by
    rw [ex, List.getD_eq_getElem?_getD]
    show (R[xn]?).getD _ = _
    rw [List.getElem?_eq_getElem hxR]; rfl
  have hexq : ∃ q, R[xn] = q := ⟨_, rfl⟩
  obtain ⟨q, eq⟩ := hexq
  rw [eq] at hkc hqi hall hgd
  have yk := fun es h => yld k es hkl q h hgd
  rw [ex] at yk
  have hb2 := (hd2 H hke).c
  have hld := hb2.load (j := k) (w := int xn) (by rw [List.getElem?_map, List.getElem?_eq_getElem hkl, ex]; rfl)
  obtain ⟨rl, rfl, hcl⟩ := hld
  have hJk := hJ _ _ _ hI
  obtain ⟨gbk, aPk, aCk⟩ := hJk
  have hkc2 := gbk.cells hkc
  have ld4 : cellsAt H rr (offAt 0 xn 4) 4 = some [int q.a, int q.b, int q.c, int q.d] := by rw [offAt_eq]; simpa using hkc2
  conv => whnf
  refine SeqP.go ?_
  conv => whnf
  refine SeqP.cut (α := Hp) (fun s => [(12, int k), (11, int idx.length), (10, slc rl 0 idx.length idx.length), (2, ptr C 0), (1, ptr P 0), (0, yieldVal l)]) (fun s H => s = H ∧ I (k + 1) (ds ++ []) s ∧ KE ds H1 s) ?_ ?_
  rotate_left
  · rintro H3 φ3 _ ⟨rfl, hI3, hk3⟩
    conv => whnf
    refine ⟨((k + 1 : Nat) : Int), wie (by omega) (by omega), ?_⟩
    conv => whnf
    exact Rnd.mk (k + 1, H3) ⟨by show k + 1 ≤ _; omega, hI3, hk3⟩ (by show _ - (k + 1) < _ - k; omega) ⟨rfl, rfl, rfl, rfl, rfl, rfl, trivial⟩ (Hp.Le.refl _) rfl
  conv => whnf
  repeat (refine SeqP.go ?_; conv => whnf)
  refine ⟨rfl, ⟨by omega, by omega⟩, ?_⟩
  conv => whnf
  refine ⟨_, hcl, ?_⟩
  conv => whnf
  repeat (refine SeqP.go ?_; conv => whnf)
  refine ⟨c5.map int, all_cells aCk (by rw [List.length_map, hc5]), ?_⟩
  conv => whnf
  refine ⟨_, cellAt_row aPk b3, ?_⟩
  conv => whnf
  refine ⟨rfl, ⟨by omega, by omega⟩, ?_⟩
  conv => whnf
  refine ⟨_, ld4, ?_⟩
  conv => whnf
  refine CallP.mono (after_spec c5 q _ hc5 hb hqi) ?_
  rintro r2 H2 ⟨rfl, g2⟩
  have hI2 := ext.more k _ H H2 [] hI g2 (fun d hd => by simp at hd)
  conv => whnf
  refine YieldP.mono (yk _ H2 hI2) ?_
  rintro v H3 (⟨rfl, hI3, hk3⟩ | ⟨rfl, hS⟩)
  · conv => whnf
    refine ⟨?_, ?_⟩
    · repeat' (first | exact True.intro | (refine And.intro ?_ ?_ <;> (conv => whnf)))
      all_goals first
        | exact sameAt_val (h2 := _) rfl (sameV_int _)
        | exact sameAt_val (h2 := _) rfl (sameV_yield l)
    conv => whnf
    repeat (refine SeqP.go ?_; conv => whnf)
    exact ⟨H3, ⟨rfl, rfl, rfl, rfl, rfl, rfl, trivial⟩, ⟨rfl, hI3, hke.trans ((KE.grows g2).trans fun d hd o e => hk3 d (by simp [hd]) o e)⟩, rfl⟩
  · conv => whnf
    refine ⟨?_, ?_⟩
    · repeat' (first | exact True.intro | (refine And.intro ?_ ?_ <;> (conv => whnf)))
      all_goals first
        | exact sameAt_val (h2 := _) rfl (sameV_int _)
        | exact sameAt_val (h2 := _) rfl (sameV_yield l)
    conv => whnf
    repeat (refine SeqP.go ?_; conv => whnf)
    exact .inr hS
end
section
variable [Unknowns]
attribute [local irreducible] ResP sameAt finP
theorem meetings_spec (bp : List Value) (c5 : List Int) (h : Hp) : CallP E 95 [.agg ⟨bp⟩, cv c5] h (fun r h' => r = .func (.func 108) ⟨[]⟩ ⟨[ptr h.next 0, ptr (h.next + 1) 0]⟩ ∧ h' = (h.lay (.row 25 true bp)).lay (.row 107 true (c5.map int))) := by
  unfold cv
  refine enter95 (by simp) ?_
  conv => whnf
  repeat (refine SeqP.go ?_; conv => whnf)
  have e : (h.lay (.row 25 true bp)).next = h.next + 1 := Hp.next_lay _ _
  exact finP_one rfl rfl ⟨congrArg (fun k => Value.func (.func 108) ⟨[]⟩ ⟨[ptr h.next 0, ptr k 0]⟩) e, rfl⟩
end
end Go.Proofs.Ytpiplaicnbapbaa
namespace Go.Proofs.Ytpiplaicnbapbaa
open Go.Rx Go.RowKit
abbrev pl (d : Nat) : Value := slc d 0 0 0
def flat5 : List (List Int) → List Value
  | [] => []
  | d :: L => (pad5 d).map int ++ flat5 L
theorem flat5_app : ∀ (L M : List (List Int)), flat5 (L ++ M) = flat5 L ++ flat5 M
  | [], M => rfl
  | d :: L, M => by show (pad5 d).map int ++ flat5 (L ++ M) = _; rw [flat5_app L M, ← List.append_assoc]; rfl
theorem flat5_len : ∀ (L : List (List Int)), (∀ d ∈ L, d.length ≤ 5) → (flat5 L).length = L.length * 5
  | [], _ => rfl
  | d :: L, h => by
    show ((pad5 d).map int ++ flat5 L).length = _
    rw [List.length_append, List.length_map, pad5_len (h d (by simp)), flat5_len L fun x hx => h x (by simp [hx]), List.length_cons]
    omega
theorem flat5_drop : ∀ (L : List (List Int)) (k : Nat) (h : k < L.length), (∀ d ∈ L, d.length ≤ 5) → ((flat5 L).drop (k * 5)).take 5 = (pad5 L[k]).map int
  | d :: L, 0, _, hd => by
    show (((pad5 d).map int ++ flat5 L).drop (0 * 5)).take 5 = (pad5 d).map int
    rw [Nat.zero_mul, List.drop_zero]
    have hl : ((pad5 d).map int).length = 5 := by rw [List.length_map, pad5_len (hd d (by simp))]
    rw [← hl, List.take_left]
  | d :: L, k + 1, h, hd => by
    have hk : k < L.length := by simpa using h
    show (((pad5 d).map int ++ flat5 L).drop ((k + 1) * 5)).take 5 = (pad5 (L[k]'hk)).map int
    have hl : ((pad5 d).map int).length = 5 := by rw [List.length_map, pad5_len (hd d (by simp))]
    rw [List.drop_append, hl, List.drop_eq_nil_of_le (by omega), List.nil_append, show (k + 1) * 5 - 5 = k * 5 by omega]
    exact flat5_drop L k hk fun x hx => hd x (by simp [hx])
def fnote (A6 Rr : Nat) : Value := .func (.func 94) ⟨[]⟩ ⟨[ptr A6 0, ptr Rr 0]⟩
structure RPM (h H : Hp) (P X Rr A6 A7 M : Nat) (bp : List Value) (cs bv : Value) (us : List Value) (L B : List (List Int)) (f : K5 → Option Value) (m : Nat) (o1 o2 : Value) (es : List Nat) : Prop where
  gr : Grows h H
  p : H.at P = some (.row 25 true bp)
  x : H.at X = some (.row 104 true [nilS, nilS])
  r : H.at Rr = some (.row 104 true [o1, o2])
  a6 : H.at A6 = some (.row 137 true [mapAt M])
  a7 : H.at A7 = some (.row 121 true [fnote A6 Rr])
  m : MapAt H M enc5 f m
  c : BuiltC h H 107 5 cs L.length (flat5 L)
  b : BuiltC h H 22 1 bv us.length us
  bl : us.length = B.length
  be : ∀ (k : Nat) u l, us[k]? = some u → B[k]? = some l → Built h H 3 u l
  hR : h.next ≤ Rr
  hM : h.next ≤ M
  sep : Rx.Sep H (pl P :: pl X :: pl Rr :: pl A6 :: pl A7 :: pl M :: cs :: bv :: us) (es.map pl)
theorem map_kx5 {h h' : Hp} {M : Nat} {f : K5 → Option Value} {m : Nat} {v : Value} (k : MapAt h M enc5 f m) (x : Kx (ad v) h h') (a : Ap v (pl M)) : MapAt h' M enc5 f m := by
  obtain ⟨es, c, h1, h2, h3⟩ := k
  exact ⟨es, c, x.at_ h1 (fun e2 => a M e2 rfl), h2, h3⟩
section
variable {h H H' : Hp} {P X Rr A6 A7 M : Nat} {bp : List Value} {cs bv : Value} {us : List Value} {L B : List (List Int)} {f : K5 → Option Value} {m : Nat} {o1 o2 : Value} {es : List Nat}
theorem RPM.ext (k : RPM h H P X Rr A6 A7 M bp cs bv us L B f m o1 o2 es) (g : Grows H H') : RPM h H' P X Rr A6 A7 M bp cs bv us L B f m o1 o2 es :=
  ⟨k.gr.trans g, g.at_ _ _ k.p, g.at_ _ _ k.x, g.at_ _ _ k.r, g.at_ _ _ k.a6, g.at_ _ _ k.a7, k.m.ext g, k.c.ext g, k.b.ext g, k.bl, fun j u l h1 h2 => (k.be j u l h1 h2).ext g, k.hR, k.hM, k.sep.ext g⟩
theorem RPM.more (k : RPM h H P X Rr A6 A7 M bp cs bv us L B f m o1 o2 es) (g : Grows H H') (ds : List Nat) (hd : ∀ d ∈ ds, H.next ≤ d ∧ d < H'.next) : RPM h H' P X Rr A6 A7 M bp cs bv us L B f m o1 o2 (ds ++ es) := by
  refine { k.ext g with sep := ?_ }
  have s := k.sep
  refine ⟨(k.ext g).sep.oldr, fun u hu r e => ?_, s.ap, fun v hv u hu => ?_⟩
  · rw [List.map_append] at hu
    rcases List.mem_append.1 hu with hu | hu
    · obtain ⟨d, h1, rfl⟩ := List.mem_map.1 hu
      cases e
      exact (hd _ h1).2
    · exact (k.ext g).sep.olde u hu r e
  · rw [List.map_append] at hu
    rcases List.mem_append.1 hu with hu | hu
    · obtain ⟨d, h1, rfl⟩ := List.mem_map.1 hu
      intro r e1 e2
      cases e2
      have := s.oldr v hv _ e1
      have := hd _ h1
      omega
    · exact s.ape v hv u hu
theorem RPM.less (k : RPM h H P X Rr A6 A7 M bp cs bv us L B f m o1 o2 es) {es' : List Nat} (s : ∀ d ∈ es', d ∈ es) : RPM h H P X Rr A6 A7 M bp cs bv us L B f m o1 o2 es' := by
  refine { k with sep := k.sep.sub fun u hu => ?_ }
  obtain ⟨d, h1, rfl⟩ := List.mem_map.1 hu
  exact List.mem_map.2 ⟨d, s d h1, rfl⟩
theorem RPM.ke (k : RPM h H P X Rr A6 A7 M bp cs bv us L B f m o1 o2 es) {v : Value} (hv : v ∈ (pl P :: pl X :: pl Rr :: pl A6 :: pl A7 :: pl M :: cs :: bv :: us)) (x : Kx (ad v) H H') : KE es H H' :=
  KE.kx x fun d hd e => k.sep.ape v hv (pl d) (List.mem_map.2 ⟨d, hd, rfl⟩) d e rfl
theorem RPM.other (k : RPM h H P X Rr A6 A7 M bp cs bv us L B f m o1 o2 es) {d : Nat} (hd : d ∈ es) (x : Kx (some d) H H') (g : Grows h H') (hn : H.next ≤ H'.next) : RPM h H' P X Rr A6 A7 M bp cs bv us L B f m o1 o2 es := by
  have x : Kx (ad (pl d)) H H' := x
  have a : ∀ v ∈ (pl P :: pl X :: pl Rr :: pl A6 :: pl A7 :: pl M :: cs :: bv :: us), Ap (pl d) v := fun v hv => (k.sep.ape v hv (pl d) (List.mem_map.2 ⟨d, hd, rfl⟩)).symm
  exact ⟨g, ap_at (a := none) x k.p (a _ (by simp)), ap_at (a := none) x k.x (a _ (by simp)), ap_at (a := none) x k.r (a _ (by simp)), ap_at (a := none) x k.a6 (a _ (by simp)), ap_at (a := none) x k.a7 (a _ (by simp)), map_kx5 k.m x (a _ (by simp)), k.c.kx x (a _ (by simp)), k.b.kx x (a _ (by simp)), k.bl, fun j u l h1 h2 => (k.be j u l h1 h2).kx x (a _ (by simp [List.mem_of_getElem? h1])), k.hR, k.hM, k.sep.next hn⟩
theorem us_ap {v : Value} {i : Nat} {rs es : List Value} (s : Rx.Sep H (pl P :: pl X :: pl Rr :: pl A6 :: pl A7 :: pl M :: cs :: bv :: us) es) (hi : (pl P :: pl X :: pl Rr :: pl A6 :: pl A7 :: pl M :: cs :: bv :: us)[i]? = some v) (h8 : i < 8) {j : Nat} {u : Value} (hu : us[j]? = some u) : Ap v u :=
  s.ap i (j + 8) v u (by omega) hi (by simpa using hu)
theorem RPM.mapped {f' : K5 → Option Value} {m' : Nat} (k : RPM h H P X Rr A6 A7 M bp cs bv us L B f m o1 o2 es) (y : Keeps M H H') (hm : MapAt H' M enc5 f' m') : RPM h H' P X Rr A6 A7 M bp cs bv us L B f' m' o1 o2 es := by
  have x : Kx (ad (pl M)) H H' := Kx.keeps y
  have a := fun j v hj hv => k.sep.ap 5 j (pl M) v hj rfl hv
  exact ⟨y.grows k.gr k.hM, ap_at (a := none) x k.p (a 0 _ (by decide) rfl), ap_at (a := none) x k.x (a 1 _ (by decide) rfl), ap_at (a := none) x k.r (a 2 _ (by decide) rfl), ap_at (a := none) x k.a6 (a 3 _ (by decide) rfl), ap_at (a := none) x k.a7 (a 4 _ (by decide) rfl), hm, k.c.kx x (a 6 _ (by decide) rfl), k.b.kx x (a 7 _ (by decide) rfl), k.bl, fun j u l h1 h2 => (k.be j u l h1 h2).kx x (us_ap (rs := []) k.sep (i := 5) rfl (by decide) h1), k.hR, k.hM, k.sep.next (by rw [y.next]; exact Nat.le_refl _)⟩
theorem RPM.put (k : RPM h H P X Rr A6 A7 M bp cs bv us L B f m o1 o2 es) (o1' o2' : Value) : RPM h (H.set Rr (.row 104 true [o1', o2'])) P X Rr A6 A7 M bp cs bv us L B f m o1' o2' es := by
  have x : Kx (ad (pl Rr)) H (H.set Rr (.row 104 true [o1', o2'])) := Kx.set _ _ _
  have a := fun j v hj hv => k.sep.ap 2 j (pl Rr) v hj rfl hv
  exact ⟨k.gr.then_set _ k.hR, ap_at (a := none) x k.p (a 0 _ (by decide) rfl), ap_at (a := none) x k.x (a 1 _ (by decide) rfl), Hp.at_set_self _ (Hp.lt_of_at k.r), ap_at (a := none) x k.a6 (a 3 _ (by decide) rfl), ap_at (a := none) x k.a7 (a 4 _ (by decide) rfl), map_kx5 k.m x (a 5 _ (by decide) rfl), k.c.kx x (a 6 _ (by decide) rfl), k.b.kx x (a 7 _ (by decide) rfl), k.bl, fun j u l h1 h2 => (k.be j u l h1 h2).kx x (us_ap (rs := []) k.sep (i := 2) rfl (by decide) h1), k.hR, k.hM, k.sep.next (Nat.le_refl _)⟩
theorem RPM.c_app {d : List Int} {b : Bool} {K : Value → Hp → Prop} (k : RPM h H P X Rr A6 A7 M bp cs bv us L B f m o1 o2 es) (hd : d.length ≤ 5) (hl : L.length ≤ 1000000)
    (q : ∀ cs' H', RPM h H' P X Rr A6 A7 M bp cs' bv us (L ++ [d]) B f m o1 o2 es → KE es H H' → K cs' H') : AppP E (H.lay (.row 107 b ((pad5 d).map int))) 107 5 40 cs (slc H.next 0 1 1) K := by
  have k1 := k.ext (Grows.lay H (.row 107 b ((pad5 d).map int)))
  have hp : ((pad5 d).map int).length = 5 := by rw [List.length_map, pad5_len hd]
  refine AppP.cellsF k1.c k1.gr (m := 1) (new := (pad5 d).map int) ⟨rfl, ?_, by rw [hp], ints_one _⟩ (by omega) (by omega) (by omega) ?_
  · show cellsAt (H.lay (.row 107 b ((pad5 d).map int))) H.next 0 (1 * 5) = _
    exact all_cells (Hp.at_lay_self _ _) hp
  intro v' H' hb' hg' hkeep ⟨r', er, hr'⟩
  have x := Kx.builtC k1.c hkeep
  have hv : ∀ r, ad v' = some r → (H.lay (.row 107 b ((pad5 d).map int))).next ≤ r ∧ r < H'.next := fun r e => ⟨by rw [er] at e; cases e; exact hr', (hb'.ad_lt r e).2⟩
  have hnx : (H.lay (.row 107 b ((pad5 d).map int))).next ≤ H'.next := by have := hv r' (by rw [er]; rfl); omega
  have a := fun j v hj hv => k1.sep.ap 6 j cs v hj rfl hv
  refine q _ _ ⟨hg', ap_at (a := none) x k1.p (a 0 _ (by decide) rfl), ap_at (a := none) x k1.x (a 1 _ (by decide) rfl), ap_at (a := none) x k1.r (a 2 _ (by decide) rfl), ap_at (a := none) x k1.a6 (a 3 _ (by decide) rfl), ap_at (a := none) x k1.a7 (a 4 _ (by decide) rfl), map_kx5 k1.m x (a 5 _ (by decide) rfl), ?_, k1.b.kx x (a 7 _ (by decide) rfl), k1.bl, fun j u l h1 h2 => (k1.be j u l h1 h2).kx x (us_ap (rs := []) k1.sep (i := 6) rfl (by decide) h1), k.hR, k.hM, k1.sep.move hnx 6 hv⟩ ((KE.grows (Grows.lay _ _)).trans (k1.ke (by simp) x))
  rw [List.length_append, flat5_app]
  show BuiltC _ _ _ _ _ _ (flat5 L ++ ((pad5 d).map int ++ []))
  rw [List.append_nil]
  exact hb'
theorem RPM.c_app' {d : List Int} {new : List Value} {b : Bool} {K : Value → Hp → Prop} (k : RPM h H P X Rr A6 A7 M bp cs bv us L B f m o1 o2 es) (hd : d.length ≤ 5) (hl : L.length ≤ 1000000) (ep : (pad5 d).map int = new)
    (q : ∀ cs' H', RPM h H' P X Rr A6 A7 M bp cs' bv us (L ++ [d]) B f m o1 o2 es → KE es H H' → K cs' H') : AppP E (H.lay (.row 107 b new)) 107 5 40 cs (slc H.next 0 1 1) K := by
  subst ep
  exact k.c_app hd hl q
theorem pad5_five {d : List Int} (h : d.length ≤ 5) : ∃ a b c e g : Int, (pad5 d).map int = [int a, int b, int c, int e, int g] := by
  have := pad5_len h
  match pad5 d, this with
  | [a, b, c, e, g], _ => exact ⟨a, b, c, e, g, rfl⟩
theorem RPM.b_app {b : Bool} {K : Value → Hp → Prop} (k : RPM h H P X Rr A6 A7 M bp cs bv us L B f m o1 o2 es) (hl : us.length ≤ 1000000)
    (q : ∀ bv' H', RPM h H' P X Rr A6 A7 M bp cs bv' (us ++ [nilS]) L (B ++ [[]]) f m o1 o2 es → KE es H H' → K bv' H') : AppP E (H.lay (.row 22 b [nilS])) 22 1 24 bv (slc H.next 0 1 1) K := by
  have k1 := k.ext (Grows.lay H (.row 22 b [nilS]))
  refine AppP.cellsF k1.b k1.gr (elemsC_one (u := nilS) rfl) (by omega) (by omega) (by omega) ?_
  intro v' H' hb' hg' hkeep ⟨r', er, hr'⟩
  have x := Kx.builtC k1.b hkeep
  have hv : ∀ r, ad v' = some r → (H.lay (.row 22 b [nilS])).next ≤ r ∧ r < H'.next := fun r e => ⟨by rw [er] at e; cases e; exact hr', (hb'.ad_lt r e).2⟩
  have hnx : (H.lay (.row 22 b [nilS])).next ≤ H'.next := by have := hv r' (by rw [er]; rfl); omega
  have a := fun j v hj hv => k1.sep.ap 7 j bv v hj rfl hv
  refine q _ _ ⟨hg', ap_at (a := none) x k1.p (a 0 _ (by decide) rfl), ap_at (a := none) x k1.x (a 1 _ (by decide) rfl), ap_at (a := none) x k1.r (a 2 _ (by decide) rfl), ap_at (a := none) x k1.a6 (a 3 _ (by decide) rfl), ap_at (a := none) x k1.a7 (a 4 _ (by decide) rfl), map_kx5 k1.m x (a 5 _ (by decide) rfl), k1.c.kx x (a 6 _ (by decide) rfl), by rw [List.length_append]; exact hb', by rw [List.length_append, List.length_append, k1.bl]; rfl, fun j u l h1 h2 => ?_, k.hR, k.hM, ?_⟩ ((KE.grows (Grows.lay _ _)).trans (k1.ke (by simp) x))
  · have hbl := k1.bl
    by_cases hj : j < us.length
    · rw [List.getElem?_append_left hj] at h1
      rw [List.getElem?_append_left (by omega)] at h2
      exact (k1.be j u l h1 h2).kx x (us_ap (rs := []) k1.sep (i := 7) rfl (by decide) h1)
    · have h3 := (List.getElem?_eq_some_iff.1 h1).1
      rw [List.length_append, List.length_singleton] at h3
      have : j = us.length := by omega
      subst this
      rw [List.getElem?_append_right (Nat.le_refl _)] at h1
      rw [hbl, List.getElem?_append_right (Nat.le_refl _)] at h2
      simp at h1 h2
      subst h1; subst h2
      exact .inl ⟨rfl, rfl⟩
  · exact (k1.sep.move hnx 7 hv).addR (Nat.le_refl _) (v' := nilS) (fun r e => by cases e)
theorem set_get {α : Type} {l : List α} {i j : Nat} {x y : α} (h : (l.set i x)[j]? = some y) : (j = i ∧ y = x) ∨ (j ≠ i ∧ l[j]? = some y) := by
  rw [List.getElem?_set] at h
  by_cases e : i = j
  · subst e
    rw [if_pos rfl] at h
    split at h
    · cases h; exact .inl ⟨rfl, rfl⟩
    · cases h
  · rw [if_neg e] at h
    exact .inr ⟨fun x => e x.symm, h⟩
theorem RPM.u_app {i : Nat} {u : Value} {l : List Int} {z : Int} {b : Bool} {K : Value → Hp → Prop} (k : RPM h H P X Rr A6 A7 M bp cs bv us L B f m o1 o2 es) (hu : us[i]? = some u) (hB : B[i]? = some l) (hl : l.length ≤ 10000000)
    (q : ∀ u' H' rb x H2, (∃ a n, u' = .slice a n n) → bv = slc rb 0 us.length us.length → H'.at rb = some (.row 22 x us) → H'.at Rr = some (.row 104 true [o1, o2]) → storeAt H' rb (offAt 0 i 1) [u'] = some H2 → RPM h H2 P X Rr A6 A7 M bp cs bv (us.set i u') L (B.set i (l ++ [z])) f m o1 o2 es → KE es H H' → KE es H' H2 → K u' H') : AppP E (H.lay (.row 3 b [int z])) 3 1 8 u (slc H.next 0 1 1) K := by
  have k1 := k.ext (Grows.lay H (.row 3 b [int z]))
  have hul : i < us.length := (List.getElem?_eq_some_iff.1 hu).1
  have hu1 := k1.be i u l hu hB
  have hu8 : (pl P :: pl X :: pl Rr :: pl A6 :: pl A7 :: pl M :: cs :: bv :: us)[i + 8]? = some u := by simpa using hu
  refine AppP.cellsF hu1.c k1.gr (elemsC_one (u := int z) rfl) (by omega) (by omega) (by omega) ?_
  intro v' H' hb' hg' hkeep ⟨r', er, hr'⟩
  have x := Kx.builtC hu1.c hkeep
  have hv : ∀ r, ad v' = some r → (H.lay (.row 3 b [int z])).next ≤ r ∧ r < H'.next := fun r e => ⟨by rw [er] at e; cases e; exact hr', (hb'.ad_lt r e).2⟩
  have hnx : (H.lay (.row 3 b [int z])).next ≤ H'.next := by have := hv r' (by rw [er]; rfl); omega
  have a := fun j v (hj : j < 8) hv => k1.sep.ap (i + 8) j u v (by omega) hu8 hv
  have b1 := k1.b.kx x (a 7 _ (by decide) rfl)
  have hbx : ∃ rb y, bv = slc rb 0 us.length us.length ∧ H'.at rb = some (.row 22 y us) := by
    obtain ⟨_, ⟨_, e0⟩ | ⟨rb, e1, _, y, e2⟩⟩ := b1
    · omega
    · exact ⟨rb, y, e1, e2⟩
  obtain ⟨rb, y, e1, e2⟩ := hbx
  have ov : oneCell v' = true := by rw [er]; rfl
  have st := storeAt_row (o := i) (v := v') e2 hul ov
  have sep2 := k1.sep.move hnx (i + 8) hv
  have xb : Kx (ad bv) H' (H'.set rb (.row 22 y (us.set i v'))) := by rw [e1]; exact Kx.set _ _ _
  have a2 := fun j v (hj : j ≠ 7) hv => sep2.ap 7 j bv v (fun e => hj e.symm) rfl hv
  have hbl := k1.bl
  refine q v' H' rb y (H'.set rb (.row 22 y (us.set i v'))) ⟨_, _, er⟩ e1 e2 (ap_at (a := none) x k1.r (a 2 _ (by decide) rfl)) (by rw [offAt_eq, Nat.zero_add, Nat.mul_one]; exact st) ⟨?_, ?_, ?_, ?_, ?_, ?_, ?_, ?_, ?_, ?_, ?_, k.hR, k.hM, ?_⟩ ((KE.grows (Grows.lay _ _)).trans (k1.ke (List.mem_of_getElem? hu8) x)) ?_
  · exact hg'.then_set _ (by have := (k1.b.ad_lt rb (by rw [e1]; rfl)).1; exact this)
  · exact ap_at (a := none) xb (ap_at (a := none) x k1.p (a 0 _ (by decide) rfl)) (a2 0 _ (by decide) rfl)
  · exact ap_at (a := none) xb (ap_at (a := none) x k1.x (a 1 _ (by decide) rfl)) (a2 1 _ (by decide) rfl)
  · exact ap_at (a := none) xb (ap_at (a := none) x k1.r (a 2 _ (by decide) rfl)) (a2 2 _ (by decide) rfl)
  · exact ap_at (a := none) xb (ap_at (a := none) x k1.a6 (a 3 _ (by decide) rfl)) (a2 3 _ (by decide) rfl)
  · exact ap_at (a := none) xb (ap_at (a := none) x k1.a7 (a 4 _ (by decide) rfl)) (a2 4 _ (by decide) rfl)
  · exact map_kx5 (map_kx5 k1.m x (a 5 _ (by decide) rfl)) xb (a2 5 _ (by decide) rfl)
  · exact (k1.c.kx x (a 6 _ (by decide) rfl)).kx xb (a2 6 _ (by decide) rfl)
  · refine ⟨by rw [Nat.mul_one], .inr ⟨rb, by rw [List.length_set]; exact e1, (k1.b.ad_lt rb (by rw [e1]; rfl)).1, y, Hp.at_set_self _ (Hp.lt_of_at e2)⟩⟩
  · rw [List.length_set, List.length_set]; exact hbl
  · intro j w ll h1 h2
    rcases set_get h1 with ⟨rfl, rfl⟩ | ⟨hj, h3⟩
    · rw [List.getElem?_set_self (by omega)] at h2
      cases h2
      have e3 : BuiltC h H' 3 1 w (l ++ [z]).length ((l ++ [z]).map int) := by rw [List.length_append, List.map_append]; exact hb'
      exact e3.b.kx xb (a2 (j + 8) w (by omega) (by show (us.set j w)[j]? = some w; rw [List.getElem?_set_self hul]))
    · rw [List.getElem?_set_ne (fun e => hj e.symm)] at h2
      have e3 := (k1.be j w ll h3 h2).kx x (k1.sep.ap (i + 8) (j + 8) u w (by omega) hu8 (by simpa using h3))
      exact e3.kx xb (a2 (j + 8) w (by omega) (by show (us.set i v')[j]? = some w; exact h1))
  · exact sep2.next (Nat.le_refl _)
  · exact KE.kx xb fun d hd e => sep2.ape bv (by simp) (pl d) (List.mem_map.2 ⟨d, hd, rfl⟩) d e rfl
end
end Go.Proofs.Ytpiplaicnbapbaa
namespace Go.Proofs.Ytpiplaicnbapbaa
open Go.Rx Go.RowKit
def kk (d : List Int) : K5 := k5 (pad5 d)
def NoteR (h : Hp) (P X Rr A6 A7 M : Nat) (bp : List Value) (L B : List (List Int)) (es : List Nat) (d : List Int) (H H' : Hp) (k : Nat) : Prop := ∃ (cs bv : Value) (us : List Value) (L' B' : List (List Int)) (f : K5 → Option Value), RPM h H' P X Rr A6 A7 M bp cs bv us L' B' f L'.length cs bv es ∧ IxOf kk L' f ∧ KE es H H' ∧ L'[k]? = some d ∧ ((L' = L ∧ B' = B) ∨ (d ∉ L ∧ L' = L ++ [d] ∧ B' = B ++ [[]]))
attribute [local irreducible] E idxN cellAt cellsAt storeAt callable helems hmoved lookIn findKey keyOk hentries Hp.at Hp.set Hp.lay arBits hupdated setAt CallP YieldP BoolOf IsWrap Rnd LoopP AppP CutP Int.tmod Int.tdiv Int.fdiv
section
variable [Unknowns]
attribute [local irreducible] ResP sameAt
theorem note_spec {h H : Hp} {P X Rr A6 A7 M : Nat} {bp : List Value} {cs bv : Value} {us : List Value} {L B : List (List Int)} {f : K5 → Option Value} {es : List Nat} {n : Nat} {d : List Int} (k : RPM h H P X Rr A6 A7 M bp cs bv us L B f L.length cs bv es) (hix : IxOf kk L f) (hL : ∀ x ∈ L, CrOk n x) (hd : CrOk n d) (hn : n ≤ 5) (hlen : L.length ≤ 100000) (hBL : B.length = L.length) : CallP E 94 [cv (pad5 d), ptr A6 0, ptr Rr 0] H (fun r H' => ∃ i : Nat, r = int i ∧ NoteR h P X Rr A6 A7 M bp L B es d H H' i) := by
  have hdl := hd.len
  have hp5 : (pad5 d).length = 5 := pad5_len (by omega)
  have hpl : ((pad5 d).map int).length = 5 := by rw [List.length_map, hp5]
  obtain ⟨i137, t137, d137⟩ := ty137
  obtain ⟨i3, t3, _, z3⟩ := ty3
  have inj : ∀ x ∈ L, kk x = kk d → x = d := fun x hx e2 => k5_pad (hL x hx) hd hn e2
  have ekey : Value.agg ⟨(pad5 d).map int⟩ = enc5 (kk d) := (enc_k5 hp5).symm
  have k1 := k.more (Grows.lay H (.row 107 true ((pad5 d).map int))) [H.next] (fun x hx => by rw [List.mem_singleton.1 hx, Hp.next_lay]; omega)
  have a3 : (H.lay (.row 107 true ((pad5 d).map int))).at H.next = some (.row 107 true ((pad5 d).map int)) := Hp.at_lay_self _ _
  have ke0 : KE es H (H.lay (.row 107 true ((pad5 d).map int))) := KE.grows (Grows.lay _ _)
  unfold cv
  refine enter94 (by simp) ?_
  conv => whnf
  refine SeqP.cut (α := Hp) (fun s => [(4, int 0), (3, ptr H.next 0), (2, ptr Rr 0), (1, ptr A6 0)]) (fun s H' => s = H' ∧ RPM h s P X Rr A6 A7 M bp cs bv us L B f L.length cs bv ([H.next] ++ es) ∧ s.at H.next = some (.row 107 true ((pad5 d).map int)) ∧ KE es H s) ?_ ?_
  · conv => whnf
    exact ⟨_, ⟨rfl, rfl, rfl, rfl, trivial⟩, ⟨rfl, k1, a3, ke0⟩, rfl⟩
  clear k1 a3 ke0
  rintro H1 φ1 _ ⟨rfl, k1, a3, ke1⟩
  conv => whnf
  refine SeqP.cut (α := Int × Bool) (fun s => [(6, .bool s.2), (5, int s.1), (3, ptr H.next 0), (2, ptr Rr 0), (1, ptr A6 0)]) (fun s H' => H1 = H' ∧ (s.2 = false → f (kk d) = none) ∧ (s.2 = true → ∃ a : Nat, s.1 = a ∧ L[a]? = some d)) ?_ ?_
  · conv => whnf
    refine ⟨mapAt M, cellAt_row k1.a6 rfl, ?_⟩
    conv => whnf
    refine ⟨_, all_cells a3 hpl, ?_⟩
    conv => whnf
    cases hf : f (kk d) with
    | none =>
      refine raw_look2_none t137 d137 t3 z3 key107 (k := kk d) rfl (by exact ekey) k1.m hf ?_
      conv => whnf
      exact ⟨(_, false), ⟨rfl, rfl, rfl, rfl, rfl, trivial⟩, ⟨rfl, fun _ => rfl, fun e2 => (by cases e2)⟩, rfl⟩
    | some x =>
      have hix2 := hix.some_iff inj hf
      obtain ⟨a, ha, e2, rfl⟩ := hix2
      refine raw_look2_some t137 d137 t3 z3 key107 (k := kk d) rfl (by exact ekey) k1.m hf ?_
      conv => whnf
      exact ⟨(_, true), ⟨rfl, rfl, rfl, rfl, rfl, trivial⟩, ⟨rfl, fun e2 => (by cases e2), fun _ => ⟨a, rfl, by rw [List.getElem?_eq_getElem ha, e2]⟩⟩, rfl⟩
  rintro ⟨kv, b⟩ φ2 _ ⟨rfl, w1, w2⟩
  dsimp only at w1 w2 ⊢
  conv => whnf
  refine SeqP.cut (α := Nat × Hp) (fun s => [(5, int s.1)]) (fun s H' => s.2 = H' ∧ NoteR h P X Rr A6 A7 M bp L B es d H s.2 s.1) ?_ ?_
  rotate_left
  · rintro ⟨i, H9⟩ φ9 _ ⟨rfl, h9⟩
    dsimp only at h9 ⊢
    conv => whnf
    repeat (refine SeqP.go ?_; conv => whnf)
    exact ⟨i, rfl, h9⟩
  cases b with
  | true =>
    have w3 := w2 rfl
    obtain ⟨a, rfl, ha⟩ := w3
    conv => whnf
    repeat (refine SeqP.go ?_; conv => whnf)
    exact ⟨(a, H1), ⟨rfl, trivial⟩, ⟨rfl, cs, bv, us, L, B, f, k1.less (fun x hx => by simp [hx]), hix, ke1, ha, .inl ⟨rfl, rfl⟩⟩, rfl⟩
  | false =>
    have hf := w1 rfl
    have hnew : d ∉ L := hix.none_iff inj hf
    have hkc := k1.c.slice
    obtain ⟨ac, rfl, -⟩ := hkc
    have hkb := k1.b.slice
    obtain ⟨ab, rfl, -⟩ := hkb
    have hbl := k1.bl
    conv => whnf
    repeat (refine SeqP.go ?_; conv => whnf)
    refine ⟨_, cellAt_row k1.r rfl, ?_⟩
    conv => whnf
    repeat (refine SeqP.go ?_; conv => whnf)
    refine ⟨mapAt M, cellAt_row k1.a6 rfl, ?_⟩
    conv => whnf
    refine ⟨_, all_cells a3 hpl, ?_⟩
    conv => whnf
    refine raw_update t137 d137 key107 (k := kk d) (v := int L.length) rfl (by exact ekey) rfl k1.m ?_
    intro H2 hm2 y2
    rw [hf] at hm2
    have k2 := k1.mapped y2 hm2
    have ke2 : KE ([H.next] ++ es) H1 H2 := k1.ke (v := pl M) (by simp) (Kx.keeps y2)
    have a32 := ke2 H.next (by simp) _ a3
    conv => whnf
    repeat (refine SeqP.go ?_; conv => whnf)
    refine ⟨_, cellAt_row k2.r rfl, ?_⟩
    conv => whnf
    have h5 := pad5_five (d := d) (by omega)
    obtain ⟨v1, v2, v3, v4, v5, e5⟩ := h5
    have a33 := a32
    rw [e5] at a33
    refine ⟨[int v1, int v2, int v3, int v4, int v5], all_cells a33 rfl, ?_⟩
    conv => whnf
    refine k2.c_app' (d := d) (by omega) (by omega) e5 ?_
    intro cs3 H3 k3 ke3
    have hkc3 := k3.c.slice
    obtain ⟨ac3, rfl, -⟩ := hkc3
    conv => whnf
    refine ⟨rfl, _, storeAt_row k3.r (o := 0) (by simp) rfl, ?_⟩
    have k4 := k3.put (.slice ac3 (L ++ [d]).length (L ++ [d]).length) (.slice ab us.length us.length)
    have ke4 : KE ([H.next] ++ es) H3 (H3.set Rr (.row 104 true [.slice ac3 (L ++ [d]).length (L ++ [d]).length, .slice ab us.length us.length])) := k3.ke (v := pl Rr) (by simp) (Kx.set _ _ _)
    conv => whnf
    repeat (refine SeqP.go ?_; conv => whnf)
    refine ⟨_, cellAt_row k4.r rfl, ?_⟩
    conv => whnf
    refine k4.b_app (by omega) ?_
    intro bv5 H5 k5 ke5
    have hkb5 := k5.b.slice
    obtain ⟨ab5, rfl, -⟩ := hkb5
    conv => whnf
    refine ⟨rfl, _, storeAt_row k5.r (o := 1) (by simp) rfl, ?_⟩
    have k6 := k5.put (.slice ac3 (L ++ [d]).length (L ++ [d]).length) (.slice ab5 (us ++ [nilS]).length (us ++ [nilS]).length)
    have ke6 : KE ([H.next] ++ es) H5 (H5.set Rr (.row 104 true [.slice ac3 (L ++ [d]).length (L ++ [d]).length, .slice ab5 (us ++ [nilS]).length (us ++ [nilS]).length])) := k5.ke (v := pl Rr) (by simp) (Kx.set _ _ _)
    conv => whnf
    refine ⟨(L.length, _), ⟨rfl, trivial⟩, ⟨rfl, _, _, _, L ++ [d], B ++ [[]], _, (show RPM _ _ _ _ _ _ _ _ _ _ _ _ _ _ _ (L ++ [d]).length _ _ _ from by rw [List.length_append]; rw [List.length_append] at k6; exact k6.less (fun x hx => by simp [hx])), hix.add hf, ke1.trans ((((ke2.trans ke3).trans ke4).trans (ke5.trans ke6)).mono (fun x hx => by simp [hx])), ?_, .inr ⟨hnew, rfl, rfl⟩⟩, rfl⟩
    rw [List.getElem?_append_right (Nat.le_refl _)]
    simp
end
end Go.Proofs.Ytpiplaicnbapbaa
namespace Go.Proofs.Ytpiplaicnbapbaa
open Go.Rx Go.RowKit
structure BfP (R : List Q4) (L B : List (List Int)) (i : Nat) (d : List Int) (idx : List Int) (r : Nat) : Prop where
  len : B.length = L.length
  fwd : ∀ (j : Nat) (row : List Int), B[j]? = some row → ∀ x ∈ row, ∃ k : Nat, x = (k : Int) ∧ Ed R L k j
  bwd : ∀ (k j : Nat), k < i → Ed R L k j → ∃ row, B[j]? = some row ∧ (k : Int) ∈ row
  cur : ∀ (m : Nat) (x : Int) (e : List Int), m < r → idx[m]? = some x → step R d x = some e → ∃ (j : Nat) (row : List Int), L[j]? = some e ∧ B[j]? = some row ∧ (i : Int) ∈ row
  few : ∀ (j : Nat) (row : List Int), B[j]? = some row → row.length ≤ 15 * i + r
theorem Ed.old {R : List Q4} {L : List (List Int)} {a b : Nat} (h : Ed R L a b) (x : List Int) : Ed R (L ++ [x]) a b := by
  obtain ⟨d, e, i, h1, h2, h3⟩ := h
  exact ⟨d, e, i, getE_snoc h1, getE_snoc h2, h3⟩
theorem BfP.add {R : List Q4} {n : Nat} {c : List Int} {L B : List (List Int)} {i : Nat} {d : List Int} {idx : List Int} {r : Nat} (k : BfP R L B i d idx r) (g : Gp R n c L i) (hi : i ≤ L.length) {x : List Int} (hx : x ∉ L) : BfP R (L ++ [x]) (B ++ [[]]) i d idx r := by
  have hl := k.len
  have snoc : ∀ {j : Nat} {row : List Int}, (B ++ [[]])[j]? = some row → B[j]? = some row ∨ (j = B.length ∧ row = []) := by
    intro j row h
    by_cases e : j < B.length
    · rw [List.getElem?_append_left e] at h; exact .inl h
    · have h1 := (List.getElem?_eq_some_iff.1 h).1
      rw [List.length_append, List.length_singleton] at h1
      have : j = B.length := by omega
      subst this
      rw [List.getElem?_append_right (Nat.le_refl _)] at h
      simp at h
      exact .inr ⟨rfl, h⟩
  refine ⟨by rw [List.length_append, List.length_append, hl]; rfl, fun j row hr y hy => ?_, fun a j ha he => ?_, fun m y e hm hy hs => ?_, fun j row hr => ?_⟩
  · rcases snoc hr with h | ⟨_, rfl⟩
    · obtain ⟨a, h1, h2⟩ := k.fwd j row h y hy
      exact ⟨a, h1, h2.old x⟩
    · simp at hy
  · obtain ⟨d', e, y, h1, h2, h3⟩ := he
    rw [List.getElem?_append_left (by omega)] at h1
    have hm := g.clo a d' ha h1 y e h3
    by_cases hj : j < L.length
    · rw [List.getElem?_append_left hj] at h2
      obtain ⟨row, h4, h5⟩ := k.bwd a j ha ⟨d', e, y, h1, h2, h3⟩
      exact ⟨row, by rw [List.getElem?_append_left (by omega)]; exact h4, h5⟩
    · have h4 := (List.getElem?_eq_some_iff.1 h2).1
      rw [List.length_append, List.length_singleton] at h4
      have : j = L.length := by omega
      subst this
      rw [List.getElem?_append_right (Nat.le_refl _)] at h2
      simp at h2
      subst h2
      exact absurd hm hx
  · obtain ⟨j, row, h1, h2, h3⟩ := k.cur m y e hm hy hs
    have := (List.getElem?_eq_some_iff.1 h2).1
    exact ⟨j, row, getE_snoc h1, by rw [List.getElem?_append_left this]; exact h2, h3⟩
  · rcases snoc hr with h | ⟨_, rfl⟩
    · exact k.few j row h
    · simp
theorem BfP.put {R : List Q4} {L B : List (List Int)} {i : Nat} {d e : List Int} {idx : List Int} {r : Nat} {x : Int} {j : Nat} {row : List Int} (k : BfP R L B i d idx r) (hd : L[i]? = some d) (hx : idx[r]? = some x) (hs : step R d x = some e) (hj : L[j]? = some e) (hB : B[j]? = some row) : BfP R L (B.set j (row ++ [(i : Int)])) i d idx (r + 1) := by
  have hjB := (List.getElem?_eq_some_iff.1 hB).1
  refine ⟨by rw [List.length_set]; exact k.len, fun a row' hr y hy => ?_, fun a b ha he => ?_, fun m y e' hm hy hs' => ?_, fun a row' hr => ?_⟩
  · rcases set_get hr with ⟨rfl, rfl⟩ | ⟨_, h2⟩
    · rcases List.mem_append.1 hy with hy | hy
      · exact k.fwd _ _ hB y hy
      · exact ⟨i, List.mem_singleton.1 hy, d, e, x, hd, hj, hs⟩
    · exact k.fwd _ _ h2 y hy
  · obtain ⟨row', h1, h2⟩ := k.bwd a b ha he
    by_cases eb : b = j
    · subst eb
      rw [hB] at h1
      cases h1
      exact ⟨_, by rw [List.getElem?_set_self hjB], List.mem_append_left _ h2⟩
    · exact ⟨row', by rw [List.getElem?_set_ne (fun e => eb e.symm)]; exact h1, h2⟩
  · have keep : ∀ (a : Nat) (row' : List Int), B[a]? = some row' → (i : Int) ∈ row' → ∃ row2, (B.set j (row ++ [(i : Int)]))[a]? = some row2 ∧ (i : Int) ∈ row2 := by
      intro a row' h1 h2
      by_cases ea : a = j
      · subst ea
        exact ⟨_, by rw [List.getElem?_set_self hjB], by simp⟩
      · exact ⟨row', by rw [List.getElem?_set_ne (fun e => ea e.symm)]; exact h1, h2⟩
    by_cases em : m = r
    · subst em
      rw [hx] at hy
      cases hy
      rw [hs] at hs'
      cases hs'
      exact ⟨j, _, hj, by rw [List.getElem?_set_self hjB], by simp⟩
    · obtain ⟨a, row', h1, h2, h3⟩ := k.cur m y e' (by omega) hy hs'
      obtain ⟨row2, h4, h5⟩ := keep a row' h2 h3
      exact ⟨a, row2, h1, h4, h5⟩
  · rcases set_get hr with ⟨rfl, rfl⟩ | ⟨_, h2⟩
    · have := k.few _ _ hB
      rw [List.length_append, List.length_singleton]
      omega
    · have := k.few _ _ h2
      omega
theorem BfP.turn {R : List Q4} {L B : List (List Int)} {i : Nat} {d d' : List Int} {idx idx' : List Int} (k : BfP R L B i d idx idx.length) (hd : L[i]? = some d) (hn : L.Nodup) (hi : idx.length ≤ 15) (hall : ∀ x e, step R d x = some e → x ∈ idx) : BfP R L B (i + 1) d' idx' 0 := by
  refine ⟨k.len, k.fwd, fun a j ha he => ?_, fun m x e hm => absurd hm (Nat.not_lt_zero _), fun j row hr => by have := k.few j row hr; omega⟩
  by_cases ea : a = i
  · subst ea
    obtain ⟨d1, e, x, h1, h2, h3⟩ := he
    rw [hd] at h1
    cases h1
    obtain ⟨m, hm, em⟩ := List.getElem_of_mem (hall x e h3)
    obtain ⟨j', row, h4, h5, h6⟩ := k.cur m x e hm (by rw [List.getElem?_eq_getElem hm, em]) h3
    have hj := (List.getElem?_eq_some_iff.1 h4).1
    have : j' = j := (List.getElem?_inj hj hn).1 (h4.trans h2.symm)
    subst this
    exact ⟨row, h5, h6⟩
  · exact k.bwd a j (by omega) he
theorem BfP.done {R : List Q4} {L B : List (List Int)} {i : Nat} {d : List Int} {idx : List Int} (k : BfP R L B i d idx 0) (hi : i = L.length) (hL : L.length ≤ 100000) : BfOk R L B := by
  subst hi
  refine ⟨k.len, fun i hi x hx => k.fwd i _ (List.getElem?_eq_getElem hi) x hx, fun a j he => ?_, fun i hi => ?_⟩
  · obtain ⟨row, h1, h2⟩ := k.bwd a j he.lt.1 he
    obtain ⟨hj, e⟩ := List.getElem?_eq_some_iff.1 h1
    exact ⟨hj, by rw [e]; exact h2⟩
  · have := k.few i _ (List.getElem?_eq_getElem hi)
    omega
theorem mv_step {R : List Q4} {n : Nat} {d : List Int} (hd : CrOk n d) (hR : ∀ x ∈ R, QIn n x) {x : Int} (hx : x ∈ posN R (pad5 d) R.length) : ∃ e, step R d x = some e ∧ mv R (pad5 d) x = [int x, cv (pad5 e)] := by
  obtain ⟨k, rfl, -, hk, ha⟩ := (posN_mem R (pad5 d) R.length x).1 hx
  have h1 := step_yes (R := R) (c := d) (i := (k : Int)) ⟨by omega, by omega⟩ (allowed_pad.1 ha)
  refine ⟨_, h1, ?_⟩
  have hq : QIn d.length R[k] := by rw [hd.len]; exact hR _ (List.getElem_mem hk)
  unfold mv
  have e1 : R.getD (k : Int).toNat ⟨0, 0, 0, 0⟩ = R[k] := by
    rw [List.getD_eq_getElem?_getD]
    show (R[k]?).getD _ = _
    rw [List.getElem?_eq_getElem hk]; rfl
  rw [e1, after_pad hq]
  rfl
theorem step_pos {R : List Q4} {d e : List Int} {x : Int} (h : step R d x = some e) : x ∈ posN R (pad5 d) R.length := by
  have hr := step_range h
  refine (posN_mem R (pad5 d) R.length x).2 ⟨x.toNat, by omega, by omega, by omega, ?_⟩
  refine allowed_pad.2 (Classical.byContradiction fun k => ?_)
  rw [step_not hr k] at h
  cases h
end Go.Proofs.Ytpiplaicnbapbaa
namespace Go.Proofs.Ytpiplaicnbapbaa
open Go.Rx Go.RowKit
theorem ty104 : ∃ i, E.ty 104 = some i ∧ i.agg = true ∧ i.size = 2 := by
  have hs : (tiOf Try.prog 104).isSome = true := by kernel_rfl
  refine ⟨(tiOf Try.prog 104).get hs, ty_get (by kernel_rfl) (Option.some_get hs).symm, ?_, ?_⟩
  · kernel_rfl
  · kernel_rfl
def h66 (h : Hp) (bp : List Value) (c5 : List Int) : Hp := ((((((h.lay (.row 25 true bp)).lay (.row 107 true (c5.map int))).lay (.row 104 true [nilS, nilS])).lay (.row 104 true [nilS, nilS])).lay (.map [] 0)).lay (.row 137 true [mapAt (h.next + 4)])).lay (.row 121 true [fnote (h.next + 5) (h.next + 3)])
theorem h66_next (h : Hp) (bp : List Value) (c5 : List Int) : (h66 h bp c5).next = h.next + 7 := by
  unfold h66
  simp only [Hp.next_lay]
theorem RPM.start (h : Hp) (bp : List Value) (c5 : List Int) : RPM h (h66 h bp c5) h.next (h.next + 2) (h.next + 3) (h.next + 5) (h.next + 6) (h.next + 4) bp nilS nilS [] [] [] (fun _ => none) 0 nilS nilS [] := by
  have nx := h66_next h bp c5
  refine ⟨?_, ?_, ?_, ?_, ?_, ?_, ?_, BuiltC.nil, BuiltC.nil, rfl, fun k u l e => by simp at e, by omega, by omega, ?_⟩
  · exact ((((((Grows.lay _ _).then_lay _).then_lay _).then_lay _).then_lay _).then_lay _).then_lay _
  · exact Hp.at_lay_old _ (Hp.at_lay_old _ (Hp.at_lay_old _ (Hp.at_lay_old _ (Hp.at_lay_old _ (Hp.at_lay_old _ (Hp.at_lay_self _ _))))))
  · exact at_nx2 (by simp only [Hp.next_lay]) (Hp.at_lay_old _ (Hp.at_lay_old _ (Hp.at_lay_old _ (Hp.at_lay_old _ (Hp.at_lay_self ((h.lay (.row 25 true bp)).lay (.row 107 true (c5.map int))) _)))))
  · exact at_nx2 (by simp only [Hp.next_lay]) (Hp.at_lay_old _ (Hp.at_lay_old _ (Hp.at_lay_old _ (Hp.at_lay_self (((h.lay (.row 25 true bp)).lay (.row 107 true (c5.map int))).lay (.row 104 true [nilS, nilS])) _))))
  · exact at_nx2 (by simp only [Hp.next_lay]) (Hp.at_lay_old _ (Hp.at_lay_self (((((h.lay (.row 25 true bp)).lay (.row 107 true (c5.map int))).lay (.row 104 true [nilS, nilS])).lay (.row 104 true [nilS, nilS])).lay (.map [] 0)) _))
  · exact at_nx2 (by simp only [Hp.next_lay]) (Hp.at_lay_self ((((((h.lay (.row 25 true bp)).lay (.row 107 true (c5.map int))).lay (.row 104 true [nilS, nilS])).lay (.row 104 true [nilS, nilS])).lay (.map [] 0)).lay (.row 137 true [mapAt (h.next + 4)])) _)
  · refine ⟨[], 0, ?_, fun _ => rfl, rfl⟩
    exact at_nx2 (by simp only [Hp.next_lay]) (Hp.at_lay_old _ (Hp.at_lay_old _ (Hp.at_lay_self ((((h.lay (.row 25 true bp)).lay (.row 107 true (c5.map int))).lay (.row 104 true [nilS, nilS])).lay (.row 104 true [nilS, nilS])) _)))
  · refine ⟨fun v hv r e => ?_, fun u hu => by simp at hu, fun i j v u hij hi hj => ?_, fun v hv u hu => by simp at hu⟩
    · simp at hv
      rcases hv with rfl | rfl | rfl | rfl | rfl | rfl | rfl <;> cases e <;> omega
    · intro r e1 e2
      have hi8 := (List.getElem?_eq_some_iff.1 hi).1
      have hj8 := (List.getElem?_eq_some_iff.1 hj).1
      have key : ∀ (i : Nat) (v : Value), (pl h.next :: pl (h.next + 2) :: pl (h.next + 3) :: pl (h.next + 5) :: pl (h.next + 6) :: pl (h.next + 4) :: nilS :: nilS :: [])[i]? = some v → ad v = some r → (i = 0 ∧ r = h.next) ∨ (i = 1 ∧ r = h.next + 2) ∨ (i = 2 ∧ r = h.next + 3) ∨ (i = 3 ∧ r = h.next + 5) ∨ (i = 4 ∧ r = h.next + 6) ∨ (i = 5 ∧ r = h.next + 4) := by
        intro i v hi e
        match i, hi with
        | 0, hi => cases hi; cases e; simp
        | 1, hi => cases hi; cases e; simp
        | 2, hi => cases hi; cases e; simp
        | 3, hi => cases hi; cases e; simp
        | 4, hi => cases hi; cases e; simp
        | 5, hi => cases hi; cases e; simp
        | 6, hi => cases hi; cases e
        | 7, hi => cases hi; cases e
        | n + 8, hi => simp at hi
      have k1 := key i v hi e1
      have k2 := key j u hj e2
      omega
structure PS where
  cs : Value
  bv : Value
  us : List Value
  L : List (List Int)
  B : List (List Int)
  f : K5 → Option Value
  H : Hp
structure Rd (h : Hp) (bp : List Value) (R : List Q4) (n : Nat) (c : List Int) (s : PS) (i r : Nat) (d : List Int) (idx : List Int) (A8 z : Nat) (ms es : List Nat) : Prop where
  m : RPM h s.H h.next (h.next + 2) (h.next + 3) (h.next + 5) (h.next + 6) (h.next + 4) bp s.cs s.bv s.us s.L s.B s.f s.L.length s.cs s.bv (es ++ A8 :: ms)
  ix : IxOf kk s.L s.f
  a8 : s.H.at A8 = some (.row 3 true [int z])
  h8 : h.next + 7 ≤ A8
  mks : ∀ d ∈ ms, s.H.at d = some .noDefers
  nd : ms.Nodup
  ge : ∀ d ∈ ms, h.next + 7 ≤ d
  g : Gp R n c s.L i
  b : BfP R s.L s.B i d idx r
  il : i ≤ s.L.length
section
variable {h : Hp} {bp : List Value} {R : List Q4} {n : Nat} {c : List Int} {cs bv : Value} {us : List Value} {L B : List (List Int)} {f : K5 → Option Value} {H H' : Hp} {i r : Nat} {d : List Int} {idx : List Int} {A8 z : Nat} {ms es : List Nat}
theorem Rd.ext (k : Rd h bp R n c ⟨cs, bv, us, L, B, f, H⟩ i r d idx A8 z ms es) (g : Grows H H') : Rd h bp R n c ⟨cs, bv, us, L, B, f, H'⟩ i r d idx A8 z ms es :=
  ⟨k.m.ext g, k.ix, g.at_ _ _ k.a8, k.h8, fun d hd => g.at_ _ _ (k.mks d hd), k.nd, k.ge, k.g, k.b, k.il⟩
theorem Rd.keep {l : Nat} (k : Rd h bp R n c ⟨cs, bv, us, L, B, f, H⟩ i r d idx A8 z ms es) (hl : l ∈ es) (h8 : A8 ≠ l) (hm : l ∉ ms) (h7 : h.next ≤ l) (y : Keeps l H H') : Rd h bp R n c ⟨cs, bv, us, L, B, f, H'⟩ i r d idx A8 z ms es :=
  ⟨k.m.other (d := l) (by simp [hl]) (Kx.keeps y) (y.grows k.m.gr h7) (by rw [y.next]; exact Nat.le_refl _), k.ix, y.at_ _ _ h8 k.a8, k.h8, fun d hd => y.at_ _ _ (fun e => hm (e ▸ hd)) (k.mks d hd), k.nd, k.ge, k.g, k.b, k.il⟩
theorem crowd_cells {h0 h : Hp} {v : Value} {L : List (List Int)} (k : BuiltC h0 h 107 5 v L.length (flat5 L)) (hd : ∀ d ∈ L, d.length ≤ 5) {i : Nat} {d : List Int} (hi : L[i]? = some d) : ∃ rc, v = slc rc 0 L.length L.length ∧ cellsAt h rc (offAt 0 i 5) 5 = some ((pad5 d).map int) := by
  have hil := (List.getElem?_eq_some_iff.1 hi).1
  have hll := flat5_len L hd
  obtain ⟨hl, ⟨rfl, e1⟩ | ⟨r, rfl, h2, y, hr⟩⟩ := k
  · omega
  · refine ⟨r, rfl, ?_⟩
    rw [offAt_eq, Nat.zero_add, cellsAt_row hr (by omega), flat5_drop L i hil hd]
    rw [(List.getElem?_eq_some_iff.1 hi).2]
end
theorem builtC_stay {h0 h h' : Hp} {e : TypeId} {s n : Nat} {v : Value} {cs : List Value} (k : BuiltC h0 h e s v n cs) (g : ∀ r o, ad v = some r → h.at r = some o → h'.at r = some o) : BuiltC h0 h' e s v n cs := by
  obtain ⟨hl, h1 | ⟨r, rfl, h2, y, hr⟩⟩ := k
  · exact ⟨hl, .inl h1⟩
  · exact ⟨hl, .inr ⟨r, rfl, h2, y, g _ _ rfl hr⟩⟩
theorem built_stay {h0 h h' : Hp} {e : TypeId} {v : Value} {l : List Int} (k : Built h0 h e v l) (g : ∀ r o, ad v = some r → h.at r = some o → h'.at r = some o) : Built h0 h' e v l := by
  rcases k with h1 | ⟨r, rfl, h2, y, hr⟩
  · exact .inl h1
  · exact .inr ⟨r, rfl, h2, y, g _ _ rfl hr⟩
theorem AL_of {h0 h : Hp} {v : Value} {L : List (List Int)} (k : BuiltC h0 h 107 5 v L.length (flat5 L)) (hd : ∀ d ∈ L, d.length ≤ 5) : AL h v L := by
  have hll := flat5_len L hd
  obtain ⟨hl, ⟨rfl, e1⟩ | ⟨r, rfl, h2, y, hr⟩⟩ := k
  · exact ⟨none, 0, by rw [e1], fun j hj => by omega⟩
  · refine ⟨_, _, rfl, fun j hj => ⟨r, 0, rfl, ?_⟩⟩
    rw [Nat.add_zero, cellsAt_row hr (by omega), flat5_drop L j hj hd]
attribute [local irreducible] E idxN cellAt cellsAt storeAt callable helems hmoved lookIn findKey keyOk hentries Hp.at Hp.set Hp.lay arBits hupdated setAt CallP YieldP BoolOf IsWrap Rnd LoopP AppP CutP Int.tmod Int.tdiv Int.fdiv
section
variable [Unknowns]
attribute [local irreducible] ResP sameAt finP endQ
theorem PReached_ok : PReachedOk := by
  intro v p n c h hv hP en hc
  obtain ⟨bp, rfl, hbl, b0, -, -, ⟨a3, b3, k3⟩, -⟩ := hv.box
  have hcl := hc.len
  have hn5 : n ≤ 5 := by have := hP.n5; omega
  have hn1 : 1 ≤ n := by have := hP.n1; omega
  have hrl := hP.rl
  have hRq : ∀ x ∈ p.rules, QIn n x := fun x hx => by
    obtain ⟨k, hk, e⟩ := List.getElem_of_mem hx
    have := hP.qin k hk
    rw [en] at this
    rw [← e]
    exact this
  have hp5 := pad5_len (c := c) (by omega)
  have hpl : ((pad5 c).map int).length = 5 := by rw [List.length_map, hp5]
  unfold cv
  refine enter66 (by simp) ?_
  conv => whnf
  refine SeqP.go ?_
  conv => whnf
  refine SeqP.go ?_
  conv => whnf
  refine ⟨rfl, _, storeAt_all (vs := [nilS, nilS]) rfl rfl rfl, ?_⟩
  conv => whnf
  refine SeqP.go ?_
  conv => whnf
  refine ⟨rfl, _, storeAt_all (vs := [mapAt _]) rfl rfl rfl, ?_⟩
  conv => whnf
  refine SeqP.cut (α := Unit) (fun _ => [(7, ptr (h.next + 6) 0), (5, ptr (h.next + 3) 0), (4, ptr (h.next + 2) 0), (3, ptr (h.next + 1) 0), (2, ptr h.next 0)]) (fun _ H => H = h66 h bp (pad5 c)) ?_ ?_
  · conv => whnf
    refine ⟨rfl, _, storeAt_all (vs := [.func (.func 94) ⟨[]⟩ ⟨[ptr _ 0, ptr _ 0]⟩]) rfl rfl rfl, ?_⟩
    conv => whnf
    refine ⟨(), ⟨congrArg (fun k => ptr k 0) (by simp only [Hp.next_lay]), congrArg (fun k => ptr k 0) (by simp only [Hp.next_lay]), congrArg (fun k => ptr k 0) (by simp only [Hp.next_lay]), congrArg (fun k => ptr k 0) (by simp only [Hp.next_lay]), rfl, trivial⟩, ?_, rfl⟩
    unfold h66 fnote
    simp only [Hp.next_lay]
  rintro _ φ1 H0 eH0
  have m0 : RPM h H0 h.next (h.next + 2) (h.next + 3) (h.next + 5) (h.next + 6) (h.next + 4) bp nilS nilS [] [] [] (fun _ => none) 0 nilS nilS [] := by rw [eH0]; exact RPM.start h bp (pad5 c)
  have a3 : H0.at (h.next + 1) = some (.row 107 true ((pad5 c).map int)) := by
    rw [eH0]
    exact at_nx2 (Hp.next_lay _ _) (Hp.at_lay_old _ (Hp.at_lay_old _ (Hp.at_lay_old _ (Hp.at_lay_old _ (Hp.at_lay_old _ (Hp.at_lay_self (h.lay (.row 25 true bp)) _))))))
  have n0 : H0.next = h.next + 7 := by rw [eH0]; exact h66_next _ _ _
  clear eH0
  have can94' := can94
  conv => whnf
  refine SeqP.cut (α := PS) (fun _ => [(7, ptr (h.next + 6) 0), (5, ptr (h.next + 3) 0), (4, ptr (h.next + 2) 0), (2, ptr h.next 0)]) (fun s H => s.H = H ∧ RPM h s.H h.next (h.next + 2) (h.next + 3) (h.next + 5) (h.next + 6) (h.next + 4) bp s.cs s.bv s.us [c] [[]] s.f 1 s.cs s.bv [] ∧ IxOf kk [c] s.f ∧ h.next + 7 ≤ s.H.next) ?_ ?_
  · conv => whnf
    refine ⟨fnote (h.next + 5) (h.next + 3), cellAt_row m0.a7 rfl, ?_⟩
    conv => whnf
    refine ⟨_, all_cells a3 hpl, ?_⟩
    conv => whnf
    refine ⟨can94, ?_⟩
    refine CallP.mono (note_spec (n := n) (d := c) m0 ⟨fun i hi => by simp at hi, fun k v e => by cases e⟩ (fun x hx => by simp at hx) hc hn5 (by simp) rfl) ?_
    rintro r H1 ⟨i, rfl, cs, bv, us, L', B', f, q1, q2, q3, q4, q5⟩
    have q6 : L' = [c] ∧ B' = [[]] := by
      rcases q5 with ⟨rfl, rfl⟩ | ⟨_, rfl, rfl⟩
      · simp at q4
      · exact ⟨rfl, rfl⟩
    obtain ⟨rfl, rfl⟩ := q6
    conv => whnf
    refine ⟨⟨cs, bv, us, [c], [[]], f, H1⟩, ⟨rfl, rfl, rfl, rfl, trivial⟩, ⟨rfl, q1, q2, ?_⟩, rfl⟩
    have := q1.sep.oldr (pl (h.next + 6)) (by simp) _ rfl
    show h.next + 7 ≤ H1.next
    omega
  clear m0 a3 n0
  rintro ⟨cs0, bv0, us0, L0, B0, f0, H0⟩ φ2 _ ⟨rfl, m0, ix0, n0⟩
  dsimp only at m0 ix0 n0 ⊢
  conv => whnf
  refine SeqP.cutM (α := PS × Nat × List Nat) (fun _ => [(5, ptr (h.next + 3) 0), (4, ptr (h.next + 2) 0)]) (fun s => s.2.2) (fun s H => s.1.H = H ∧ ∃ i z, s.1.L.length = i ∧ Rd h bp p.rules n c s.1 i 0 [] [] s.2.1 z s.2.2 []) ?_ ?_
  rotate_left
  · rintro ⟨⟨cs, bv, us, L, B, f, H⟩, A8, ms⟩ φ9 _ ⟨rfl, i, z, eL, k⟩
    dsimp only at eL k ⊢
    have hks := k.m.c.slice
    dsimp only at hks
    obtain ⟨ac, rfl, -⟩ := hks
    have hkb := k.m.b.slice
    dsimp only at hkb
    obtain ⟨ab, rfl, -⟩ := hkb
    conv => whnf
    repeat (refine SeqP.go ?_; conv => whnf)
    refine ⟨_, all_cells k.m.r rfl, ?_⟩
    conv => whnf
    refine ⟨rfl, _, storeAt_full k.m.x (vs := [_, _]) rfl rfl rfl, ?_⟩
    conv => whnf
    have hms : Marks (h.next + 7) ms (H.set (h.next + 2) (.row 104 true [.slice ac L.length L.length, .slice ab us.length us.length])) := ⟨k.nd, fun d hd => ⟨k.ge d hd, by have := k.ge d hd; rw [Hp.at_set_ne _ (by omega)]; exact k.mks d hd⟩⟩
    have nma : ∀ v ∈ (pl h.next :: pl (h.next + 2) :: pl (h.next + 3) :: pl (h.next + 5) :: pl (h.next + 6) :: pl (h.next + 4) :: .slice ac L.length L.length :: .slice ab us.length us.length :: us), ∀ r, ad v = some r → r ∉ ms := fun v hv r e hr => k.m.sep.ape v hv (pl r) (List.mem_map.2 ⟨r, by simp [hr], rfl⟩) r e rfl
    have nx2 : ∀ j v, j ≠ 1 → (pl h.next :: pl (h.next + 2) :: pl (h.next + 3) :: pl (h.next + 5) :: pl (h.next + 6) :: pl (h.next + 4) :: .slice ac L.length L.length :: .slice ab us.length us.length :: us)[j]? = some v → ∀ r, ad v = some r → r ≠ h.next + 2 := fun j v hj hv r e e2 => k.m.sep.ap 1 j (pl (h.next + 2)) v (fun e => hj e.symm) rfl hv (h.next + 2) rfl (by rw [e, e2])
    obtain ⟨ti, hti, hag, hsz⟩ := ty104
    refine finP_marks hms ?_
    intro h3 n3 k3' k4
    have stay : ∀ j v, j ≠ 1 → (pl h.next :: pl (h.next + 2) :: pl (h.next + 3) :: pl (h.next + 5) :: pl (h.next + 6) :: pl (h.next + 4) :: .slice ac L.length L.length :: .slice ab us.length us.length :: us)[j]? = some v → ∀ r o, ad v = some r → H.at r = some o → h3.at r = some o := fun j v hj hv r o e ho => k4 r o (nma v (List.mem_of_getElem? hv) r e) (by rw [Hp.at_set_ne _ (nx2 j v hj hv r e)]; exact ho)
    have atX : h3.at (h.next + 2) = some (.row 104 true [.slice ac L.length L.length, .slice ab us.length us.length]) := k3' _ _ (by omega) (Hp.at_set_self _ (Hp.lt_of_at k.m.x))
    have hfew := crowds_few hn5 k.g.ok k.g.nodup
    have hgr : Gr p.rules c L := by
      have hg := k.g
      rw [← eL] at hg
      exact hg.done
    have hbk : ∀ (j : Nat) u l, us[j]? = some u → B[j]? = some l → View h3 u l := fun j u l h1 h2 => (built_stay (k.m.be j u l h1 h2) fun r o e ho => stay (j + 8) u (by omega) (by simpa using h1) r o e ho).c.view
    refine leave_cell rfl hti hag (by rw [hsz]; exact all_cells atX rfl) ⟨⟨_, L, B, rfl, ⟨rfl, rfl, ⟨_, rfl, AL_of (builtC_stay k.m.c fun r o e ho => stay 6 _ (by decide) rfl r o e ho) (fun d hd => by have := (k.g.ok d hd).len; omega)⟩, ⟨_, rfl, EL.sl (builtC_stay k.m.b fun r o e ho => stay 7 _ (by decide) rfl r o e ho) ⟨k.m.bl, hbk⟩⟩, k.b.done eL.symm hfew, hgr, k.g.ok, hfew⟩⟩, ?_⟩
    refine ⟨by rw [n3, Hp.next_set]; exact k.m.gr.next, fun r o ho => ?_⟩
    have hlt := Hp.lt_of_at ho
    exact k3' r o (by omega) (by rw [Hp.at_set_ne _ (by omega)]; exact k.m.gr.at_ _ _ ho)
  conv => whnf
  refine SeqP.go ?_
  conv => whnf
  refine ⟨rfl, _, storeAt_all (vs := [int 0]) rfl rfl rfl, ?_⟩
  conv => whnf
  refine loop_invM (α := Nat × PS × Nat × List Nat) (fun s => [(8, ptr s.2.2.1 0), (7, ptr (h.next + 6) 0), (5, ptr (h.next + 3) 0), (4, ptr (h.next + 2) 0), (2, ptr h.next 0)]) (fun s => s.2.1.H) (fun s => s.2.2.2) (fun s => Rd h bp p.rules n c s.2.1 s.1 0 [] [] s.2.2.1 s.1 s.2.2.2 []) (fun s => 100000 - s.1) (0, ⟨cs0, bv0, us0, [c], [[]], f0, _⟩, H0.next, []) ?_ ⟨rfl, rfl, rfl, rfl, rfl, trivial⟩ (Hp.Le.refl _) rfl ?_
  · refine ⟨?_, ix0, Hp.at_lay_self _ _, n0, fun d hd => by simp at hd, List.nodup_nil, fun d hd => by simp at hd, Gp.start hc, ?_, Nat.zero_le _⟩
    · exact m0.more (Grows.lay _ _) [H0.next] (fun x hx => by rw [List.mem_singleton.1 hx, Hp.next_lay]; omega)
    · refine ⟨rfl, fun j row hr x hx => ?_, fun a j ha => absurd ha (Nat.not_lt_zero _), fun m x e hm => absurd hm (Nat.not_lt_zero _), fun j row hr => ?_⟩
      · have hj := (List.getElem?_eq_some_iff.1 hr).1
        simp at hj
        subst hj
        cases hr
        simp at hx
      · have hj := (List.getElem?_eq_some_iff.1 hr).1
        simp at hj
        subst hj
        cases hr
        simp
  rintro ⟨i, ⟨cs, bv, us, L, B, f, H⟩, A8, ms⟩ φ3 k
  dsimp only at k ⊢
  have hlen5 : ∀ d ∈ L, d.length ≤ 5 := fun d hd => by have := (k.g.ok d hd).len; omega
  have hfew := crowds_few hn5 k.g.ok k.g.nodup
  have hil := k.il
  have hks := k.m.c.slice
  dsimp only at hks
  obtain ⟨ac, rfl, -⟩ := hks
  conv => whnf
  refine SeqP.go ?_
  conv => whnf
  refine ⟨_, cellAt_row k.a8 rfl, ?_⟩
  conv => whnf
  refine ⟨_, cellAt_row k.m.r rfl, ?_⟩
  conv => whnf
  repeat (refine SeqP.go ?_; conv => whnf)
  dsimp only at hfew hil
  refine cmpB (fun c1 => ?_) (fun c1 => ?_)
  rotate_left
  · have : L.length = i := by omega
    conv => whnf
    repeat (refine SeqP.go ?_; conv => whnf)
    exact ⟨(⟨_, bv, us, L, B, f, H⟩, A8, ms), ⟨rfl, rfl, trivial⟩, ⟨rfl, i, i, this, k⟩, rfl⟩
  have hiL : i < L.length := by omega
  have hexd : ∃ d, L[i]? = some d := ⟨_, List.getElem?_eq_getElem hiL⟩
  obtain ⟨d, hd⟩ := hexd
  have hdm := List.mem_of_getElem? hd
  have hdok := k.g.ok d hdm
  have hcc := crowd_cells k.m.c hlen5 hd
  obtain ⟨rc, erc, hcc⟩ := hcc
  cases erc
  dsimp only at hcc
  have hd5 := pad5_len (c := d) (by have := hdok.len; omega)
  conv => whnf
  refine SeqP.cutM (α := PS × Nat) (fun _ => [(8, ptr A8 0), (7, ptr (h.next + 6) 0), (5, ptr (h.next + 3) 0), (4, ptr (h.next + 2) 0), (2, ptr h.next 0)]) (fun s => s.2 :: ms) (fun s H => s.1.H = H ∧ Rd h bp p.rules n c s.1 (i + 1) 0 [] [] A8 i (s.2 :: ms) []) ?_ ?_
  rotate_left
  · rintro ⟨⟨cs', bv', us', L', B', f', H'⟩, D⟩ φ4 _ ⟨rfl, k2⟩
    dsimp only at k2 ⊢
    have hlt8 : A8 < H'.next := Hp.lt_of_at k2.a8
    have h88 : h.next + 7 ≤ A8 := k2.h8
    have hil2 := k2.il
    have hfew2 := crowds_few hn5 k2.g.ok k2.g.nodup
    dsimp only at hil2 hfew2
    conv => whnf
    refine SeqP.go ?_
    conv => whnf
    refine SeqP.go ?_
    conv => whnf
    refine ⟨_, cellAt_row k2.a8 rfl, ?_⟩
    conv => whnf
    refine ⟨rfl, _, storeAt_all (vs := [int i]) rfl rfl rfl, ?_⟩
    conv => whnf
    refine ⟨int i, cellAt_row (Hp.at_lay_self _ _) rfl, ?_⟩
    conv => whnf
    refine ⟨((i + 1 : Nat) : Int), wie (by omega) (by omega), ?_⟩
    conv => whnf
    refine ⟨rfl, _, storeAt_all (vs := [int (i + 1 : Nat)]) rfl rfl rfl, ?_⟩
    conv => whnf
    refine RndM.mk (i + 1, ⟨cs', bv', us', L', B', f', H'.lay (.row 3 true [int (i + 1 : Nat)])⟩, H'.next, D :: ms) ⟨?_, k2.ix, Hp.at_lay_self _ _, by show h.next + 7 ≤ H'.next; omega, fun d hd => Hp.at_lay_old _ (k2.mks d hd), k2.nd, k2.ge, k2.g, k2.b, k2.il⟩ (by show 100000 - (i + 1) < 100000 - i; omega) ⟨rfl, rfl, rfl, rfl, rfl, trivial⟩ (Hp.Le.refl _) rfl
    exact (k2.m.more (Grows.lay H' (.row 3 true [int (i + 1 : Nat)])) [H'.next] (fun x hx => by rw [List.mem_singleton.1 hx]; exact ⟨Nat.le_refl _, by rw [Hp.next_lay]; exact Nat.lt_succ_self _⟩)).less (fun x hx => by simp at hx ⊢; rcases hx with h | h | h <;> simp [h])
  conv => whnf
  refine SeqP.go ?_
  conv => whnf
  refine ⟨bp, all_cells k.m.p hbl, ?_⟩
  conv => whnf
  refine ⟨_, cellAt_row k.m.r rfl, ?_⟩
  conv => whnf
  refine ⟨_, cellAt_row k.a8 rfl, ?_⟩
  conv => whnf
  refine ⟨rfl, ⟨by omega, by omega⟩, ?_⟩
  conv => whnf
  refine ⟨(pad5 d).map int, hcc, ?_⟩
  conv => whnf
  refine CallP.mono (meetings_spec bp (pad5 d) _) ?_
  rintro r _ ⟨rfl, rfl⟩
  conv => whnf
  have nH1 : (H.lay (.row 25 true bp)).next = H.next + 1 := Hp.next_lay _ _
  have nH2 : ((H.lay (.row 25 true bp)).lay (.row 107 true ((pad5 d).map int))).next = H.next + 2 := by rw [Hp.next_lay, nH1]
  have nH3 : (((H.lay (.row 25 true bp)).lay (.row 107 true ((pad5 d).map int))).lay .noDefers).next = H.next + 3 := by rw [Hp.next_lay, nH2]
  have h88 := k.h8
  have hlt8 : A8 < H.next := Hp.lt_of_at k.a8
  have hRn : ∀ j, (hj : j < p.rules.length) → QIn 5 p.rules[j] := fun j hj => by
    have := hRq _ (List.getElem_mem hj)
    unfold QIn at this ⊢
    omega
  have hbd : ∀ j, -100 ≤ gl (pad5 d) j ∧ gl (pad5 d) j ≤ 100 := fun j => by
    rw [gl_pad]
    have := hdok.nn j
    have := hdok.le j
    omega
  have hst : ∀ o, ∃ cs bv us L B f, Rd h bp p.rules n c ⟨cs, bv, us, L, B, f, (((H.lay (.row 25 true bp)).lay (.row 107 true ((pad5 d).map int))).lay .noDefers).lay o⟩ i 0 d (posN p.rules (pad5 d) p.rules.length) A8 i ((H.next + 2) :: ms) ([] ++ [H.next + 3, H.next, H.next + 1]) ∧ ((((H.lay (.row 25 true bp)).lay (.row 107 true ((pad5 d).map int))).lay .noDefers).lay o).at H.next = some (.row 25 true bp) ∧ ((((H.lay (.row 25 true bp)).lay (.row 107 true ((pad5 d).map int))).lay .noDefers).lay o).at (H.next + 1) = some (.row 107 true ((pad5 d).map int)) ∧ L[i]? = some d := by
    intro o
    have g0 : Grows H ((((H.lay (.row 25 true bp)).lay (.row 107 true ((pad5 d).map int))).lay .noDefers).lay o) := (((Grows.lay _ _).then_lay _).then_lay _).then_lay _
    have k0 := k.ext g0
    refine ⟨_, bv, us, L, B, f, ⟨?_, k.ix, k0.a8, k.h8, ?_, ?_, ?_, k.g, ⟨k.b.len, k.b.fwd, k.b.bwd, fun m x e hm => absurd hm (Nat.not_lt_zero _), k.b.few⟩, k.il⟩, ?_, ?_, hd⟩
    · have := k.m.more g0 [H.next + 3, H.next, H.next + 1, H.next + 2] (fun x hx => by
        simp only [Hp.next_lay]
        simp at hx
        omega)
      exact this.less (fun x hx => by simp at hx ⊢; rcases hx with e | e | e | e | e | e <;> simp [e])
    · intro x hx
      rcases List.mem_cons.1 hx with rfl | hx
      · exact at_nx2 nH2 (Hp.at_lay_old _ (Hp.at_lay_self _ _))
      · exact k0.mks x hx
    · refine List.nodup_cons.2 ⟨fun hx => ?_, k.nd⟩
      have := Hp.lt_of_at (k.mks _ hx)
      dsimp only at this
      omega
    · intro x hx
      rcases List.mem_cons.1 hx with rfl | hx
      · omega
      · exact k.ge x hx
    · exact Hp.at_lay_old _ (Hp.at_lay_old _ (Hp.at_lay_old _ (Hp.at_lay_self _ _)))
    · exact at_nx2 nH1 (Hp.at_lay_old _ (Hp.at_lay_old _ (Hp.at_lay_self _ _)))
  refine range_goE (fun hh => Grows h hh ∧ hh.at H.next = some (.row 25 true bp) ∧ hh.at (H.next + 1) = some (.row 107 true ((pad5 d).map int))) ((posN p.rules (pad5 d) p.rules.length).map (mv p.rules (pad5 d))) (fun k es hh => ∃ cs bv us L B f, Rd h bp p.rules n c ⟨cs, bv, us, L, B, f, hh⟩ i k d (posN p.rules (pad5 d) p.rules.length) A8 i ((H.next + 2) :: ms) (es ++ [H.next + 3, H.next, H.next + 1]) ∧ hh.at H.next = some (.row 25 true bp) ∧ hh.at (H.next + 1) = some (.row 107 true ((pad5 d).map int)) ∧ L[i]? = some d) (fun _ => False) can108 ?_ rfl (fun I S hx hJ h0 hit => meet_iter _ _ _ bp p.rules (pad5 d) h _ b3 k3 hbl hrl hd5 hbd hRn I S _ hx hJ h0 hit) ?_ ?_ ?_ ?_ ?_ ?_
  · intro k hk
    rw [List.getElem_map]
    rfl
  · refine ⟨?_, ?_⟩
    · rintro k es h1 h2 ds ⟨cs, bv, us, L, B, f, q1, q2, q3, q4⟩ g hds
      have q1' := q1.ext g
      refine ⟨cs, bv, us, L, B, f, { q1' with m := ?_ }, g.at_ _ _ q2, g.at_ _ _ q3, q4⟩
      have := q1.m.more g ds hds
      rw [← List.append_assoc, ← List.append_assoc] at this
      exact this
    · rintro k es ds h1 ⟨cs, bv, us, L, B, f, q1, q2, q3, q4⟩
      refine ⟨cs, bv, us, L, B, f, { q1 with m := q1.m.less fun x hx => ?_ }, q2, q3, q4⟩
      simp at hx ⊢
      rcases hx with e | e | e | e | e | e <;> simp [e]
  · rintro k es hh ⟨cs, bv, us, L, B, f, q1, q2, q3, q4⟩
    exact ⟨q1.m.gr, q2, q3⟩
  · exact hst _
  · rintro m es xs hget H3 hl3 ⟨cs3, bv3, us3, L3, B3, f3, k3', aP3, aC3, hd3⟩
    have hget2 := List.getElem?_eq_some_iff.1 hget
    obtain ⟨hml, exs⟩ := hget2
    rw [List.getElem_map] at exs
    rw [List.length_map] at hml
    have hexx : ∃ x, (posN p.rules (pad5 d) p.rules.length)[m] = x := ⟨_, rfl⟩
    obtain ⟨x, ex⟩ := hexx
    rw [ex] at exs
    have hxm : x ∈ posN p.rules (pad5 d) p.rules.length := by rw [← ex]; exact List.getElem_mem _
    have hxi : (posN p.rules (pad5 d) p.rules.length)[m]? = some x := by rw [List.getElem?_eq_getElem hml, ex]
    have hst2 := mv_step hdok hRq hxm
    obtain ⟨e, hse, emv⟩ := hst2
    rw [emv] at exs
    subst exs
    have heok := step_ok hRq hdok hse
    have hel := heok.len
    have he5 := pad5_len (c := e) (by omega)
    have hepl : ((pad5 e).map int).length = 5 := by rw [List.length_map, he5]
    unfold cv
    clear hget
    have hl3' := at_nx2 nH3 hl3
    have n8l : A8 ≠ H.next + 3 := by omega
    have nml : H.next + 3 ∉ (H.next + 2) :: ms := fun hx => by
      rcases List.mem_cons.1 hx with e | hx
      · omega
      · have := Hp.lt_of_at (k.mks _ hx)
        dsimp only at this
        omega
    have hlt3 := Hp.lt_of_at hl3'
    conv => whnf
    refine ⟨by show ((pad5 e).map int).length = 5; exact hepl, _, storeAt_all (vs := (pad5 e).map int) (by rw [hepl]; rfl) (ints_one _) (over_int (k := [0, 0, 0, 0, 0]) (by rw [he5]; rfl)), ?_⟩
    have g4 : Grows H3 (H3.lay (.row 107 true ((pad5 e).map int))) := Grows.lay _ _
    have k4 := k3'.ext g4
    have aP4 := g4.at_ _ _ aP3
    have aC4 := g4.at_ _ _ aC3
    have hl4 := Hp.at_lay_old (.row 107 true ((pad5 e).map int)) hl3
    have a10 : (H3.lay (.row 107 true ((pad5 e).map int))).at H3.next = some (.row 107 true ((pad5 e).map int)) := Hp.at_lay_self _ _
    have ke4 : KE es H3 (H3.lay (.row 107 true ((pad5 e).map int))) := KE.grows g4
    conv => whnf
    refine bodyQ_go hl4 ?_
    intro BO hb2 eBO hbl hbk
    have hbl' := at_nx2 nH3 hbl
    have hbk' := hbk
    rw [nH3] at hbk'
    have k5 := k4.keep (l := H.next + 3) (by simp) n8l nml (by omega) hbk'
    have aP5 := hbk'.at_ _ _ (by omega) aP4
    have aC5 := hbk'.at_ _ _ (by omega) aC4
    have a105 := hbk'.at_ _ _ (by omega) a10
    have hfew4 := crowds_few hn5 k5.g.ok k5.g.nodup
    dsimp only at hfew4
    conv => whnf
    refine SeqP.go ?_
    conv => whnf
    refine ⟨_, cellAt_row k5.m.a7 rfl, ?_⟩
    conv => whnf
    refine ⟨_, all_cells a105 hepl, ?_⟩
    conv => whnf
    refine ⟨can94, ?_⟩
    refine CallP.mono (note_spec (n := n) (d := e) k5.m k5.ix k5.g.ok heok hn5 hfew4 k5.b.len) ?_
    rintro r H5 ⟨j, rfl, cs6, bv6, us6, L6, B6, f6, q1, q2, q3, q4, q5⟩
    have a86 := q3 A8 (by simp) _ k5.a8
    have aP6 := q3 H.next (by simp) _ aP5
    have aC6 := q3 (H.next + 1) (by simp) _ aC5
    have aB6 := q3 (H.next + 3) (by simp) _ hbl'
    have mk6 : ∀ x ∈ (H.next + 2) :: ms, H5.at x = some .noDefers := fun x hx => q3 x (by rcases List.mem_cons.1 hx with rfl | hx <;> simp [*]) _ (k5.mks x hx)
    have q6 : L6[i]? = some d ∧ Gp p.rules n c L6 i ∧ BfP p.rules L6 B6 i d (posN p.rules (pad5 d) p.rules.length) m ∧ i ≤ L6.length := by
      rcases q5 with ⟨rfl, rfl⟩ | ⟨hne, rfl, rfl⟩
      · exact ⟨hd3, k5.g, k5.b, k5.il⟩
      · exact ⟨getE_snoc hd3, k5.g.add k5.il hRq (List.mem_of_getElem? hd3) hse hne, k5.b.add k5.g k5.il hne, by rw [List.length_append]; have := k5.il; exact Nat.le_trans this (Nat.le_add_right _ _)⟩
    clear q5
    obtain ⟨hd6, g6, b6, il6⟩ := q6
    have hj6 := (List.getElem?_eq_some_iff.1 q4).1
    have hbl6 := b6.len
    have hul6 := q1.bl
    have hexr : ∃ row, B6[j]? = some row := ⟨_, List.getElem?_eq_getElem (by omega)⟩
    obtain ⟨row, hrow⟩ := hexr
    have hexu : ∃ u, us6[j]? = some u := ⟨_, List.getElem?_eq_getElem (by omega)⟩
    obtain ⟨u, hu⟩ := hexu
    have hub := q1.be j u row hu hrow
    have hrf := b6.few j row hrow
    have hpn := posN_len p.rules (pad5 d) p.rules.length
    have hfew6 := crowds_few hn5 g6.ok g6.nodup
    have hlb := q1.b.load hu
    obtain ⟨rb, rfl, hcb⟩ := hlb
    have huk := (LV.of hub).known
    obtain ⟨au, rfl⟩ := huk
    conv => whnf
    refine ⟨_, cellAt_row q1.r rfl, ?_⟩
    conv => whnf
    refine ⟨_, cellAt_row q1.r rfl, ?_⟩
    conv => whnf
    refine ⟨rfl, ⟨by omega, by omega⟩, ?_⟩
    conv => whnf
    refine ⟨_, hcb, ?_⟩
    conv => whnf
    refine ⟨_, cellAt_row a86 rfl, ?_⟩
    conv => whnf
    refine q1.u_app hu hrow (by omega) ?_
    intro u' H7 rb' xf H8 ⟨a', n', eu'⟩ erb atb atR st8 k8 ke7 ke8
    cases erb
    subst eu'
    conv => whnf
    refine ⟨rfl, ⟨by omega, by omega⟩, ?_⟩
    conv => whnf
    refine ⟨rfl, _, st8, ?_⟩
    conv => whnf
    refine ⟨?_, ?_⟩
    · repeat' (first | exact True.intro | (refine And.intro ?_ ?_ <;> (conv => whnf)))
      all_goals first
        | exact sameAt_val (h2 := _) rfl (sameV_int _)
        | exact sameAt_val (h2 := _) rfl (sameV_ptr _ _)
        | exact sameAt_val (h2 := _) (congrArg (hval _) (cellAt_row q1.r rfl)) (sameV_slc _ _ _ _)
        | exact sameAt_val (h2 := _) (congrArg (hval _) (cellAt_row (Hp.at_lay_old _ q1.r) rfl)) (sameV_slc _ _ _ _)
        | exact sameAt_val (h2 := _) (congrArg (hval _) (cellAt_row atR rfl)) (sameV_slc _ _ _ _)
        | exact sameAt_val (h2 := _) (show hval _ (idxSV 1 (.slice (some ⟨rb, 0, none⟩) us6.length us6.length) (int j)) = _ from idxS_val' rfl ⟨by omega, by omega⟩) (sameV_ptr _ _)
        | exact sameAt_val (h2 := _) (congrArg (hval _) hcb) (sameV_slice _ _ _)
        | exact sameAt_val (h2 := _) (congrArg (hval _) ((Grows.lay _ _).cell hcb)) (sameV_slice _ _ _)
    have hds : ∀ x ∈ es, x ∈ es ++ [H.next + 3, H.next, H.next + 1] ++ A8 :: (H.next + 2) :: ms := fun x hx => by simp [hx]
    have ke68 := ke7.trans ke8
    have a88 := ke68 A8 (by simp) _ a86
    have aP8 := ke68 H.next (by simp) _ aP6
    have aC8 := ke68 (H.next + 1) (by simp) _ aC6
    have aB8 := ke68 (H.next + 3) (by simp) _ aB6
    have mk8 : ∀ x ∈ (H.next + 2) :: ms, H8.at x = some .noDefers := fun x hx => ke68 x (by rcases List.mem_cons.1 hx with rfl | hx <;> simp [*]) _ (mk6 x hx)
    have kR8 : Rd h bp p.rules n c ⟨cs6, slc rb 0 us6.length us6.length, us6.set j (.slice a' n' n'), L6, B6.set j (row ++ [(i : Int)]), f6, H8⟩ i (m + 1) d (posN p.rules (pad5 d) p.rules.length) A8 i ((H.next + 2) :: ms) (es ++ [H.next + 3, H.next, H.next + 1]) := ⟨k8, q2, a88, k.h8, mk8, k5.nd, k5.ge, g6, b6.put hd6 hxi hse q4 hrow, il6⟩
    conv => whnf
    refine endQ_next eBO (at_nx2 nH3.symm aB8) ?_
    intro h9 hr9 hk9
    have hk9' := hk9
    rw [nH3] at hk9'
    have hr9' := at_nx2 nH3 hr9
    refine .inl ⟨rfl, hr9, ⟨_, _, _, L6, _, f6, kR8.keep (l := H.next + 3) (by simp) n8l nml (by omega) hk9', hk9'.at_ _ _ (by omega) aP8, hk9'.at_ _ _ (by omega) aC8, hd6⟩, fun x hx o ho => ?_⟩
    by_cases exl : x = H.next + 3
    · subst exl
      rw [hl3'] at ho
      cases ho
      exact hr9'
    · have e1 := hbk'.at_ x o exl (ke4 x hx o ho)
      exact hk9'.at_ x o exl (ke68 x (hds x hx) o (q3 x (hds x hx) o e1))
  · rintro h2 h3 ⟨cs', bv', us', L', B', f', q1, q2, q3, q4⟩ hkp
    rw [List.length_map] at q1
    rw [nH3] at hkp
    have nD : H.next + 3 ≠ H.next + 2 := by omega
    have q1' := q1.keep (l := H.next + 3) (by simp) (by omega) (fun hx => by
      rcases List.mem_cons.1 hx with e | hx
      · omega
      · have := Hp.lt_of_at (k.mks _ hx)
        dsimp only at this
        omega) (by omega) hkp
    have hfill : posN p.rules (pad5 d) p.rules.length = posN p.rules (pad5 d) p.rules.length := rfl
    refine ⟨(⟨cs', bv', us', L', B', f', h3⟩, H.next + 2), ⟨rfl, rfl, rfl, rfl, rfl, trivial⟩, ⟨rfl, q1'.m.less (fun x hx => by simp at hx ⊢; rcases hx with e | e | e <;> simp [e]), q1'.ix, q1'.a8, q1'.h8, q1'.mks, q1'.nd, q1'.ge, q1'.g.turn q4 (fun x e he => ?_), q1'.b.turn q4 q1'.g.nodup (by have := posN_len p.rules (pad5 d) p.rules.length; omega) (fun x e he => step_pos he), ?_⟩, congrArg (· :: ms) nH2⟩
    · obtain ⟨m, hm, em⟩ := List.getElem_of_mem (step_pos he)
      obtain ⟨j, row, h4, -⟩ := q1'.b.cur m x e hm (by rw [List.getElem?_eq_getElem hm, em]) he
      exact List.mem_of_getElem? h4
    · exact (List.getElem?_eq_some_iff.1 q4).1
  · intro h2 hF
    exact hF.elim
end
end Go.Proofs.Ytpiplaicnbapbaa
