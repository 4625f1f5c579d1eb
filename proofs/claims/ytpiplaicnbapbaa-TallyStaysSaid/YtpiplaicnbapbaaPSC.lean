/- Contracts of the functions that PSD comes to. -/
import Derived.Test.YtpiplaicnbapbaaPSB
import Derived.Test.YtpiplaicnbapbaaWx21
import Derived.Test.YtpiplaicnbapbaaWx25
import Derived.Test.YtpiplaicnbapbaaWx26
set_option maxRecDepth 100000
set_option maxHeartbeats 2000000
set_option linter.unusedVariables false
set_option linter.unusedSectionVars false
set_option linter.unusedSimpArgs false
namespace Go.Proofs.Ytpiplaicnbapbaa
open Go.Rx Go.RowKit
def FirstOf (P : Int → Prop) (s : Int) (b : Bool) : Prop := (P 0 → s = 0 ∧ b = true) ∧ (¬ P 0 → P 1 → s = 1 ∧ b = true) ∧ (¬ P 0 → ¬ P 1 → s = 0 ∧ b = false)
attribute [local irreducible] E idxN cellAt cellsAt storeAt callable helems hmoved lookIn findKey keyOk hentries Hp.at Hp.set Hp.lay arBits hupdated setAt CallP YieldP BoolOf IsWrap Rnd LoopP AppP CutP Int.tmod Int.tdiv Int.fdiv
section
variable [Unknowns]
attribute [local irreducible] ResP sameAt
theorem eitherS_spec (bp : List Value) (p : Prot) (bx : List Value) (n : Nat) (c : List Int) (L B : List (List Int)) (h : Hp) (hv : PV h (.agg ⟨bp⟩) p) (hP : POk p) (en : p.n = n) (hx : PR h bx p.rules n c L B) : CallP E 78 [.func (.func 79) ⟨[.agg ⟨bp⟩]⟩ ⟨[]⟩, .agg ⟨bx⟩] h (fun r h' => (∃ s b, r = .tuple ⟨[int s, .bool b]⟩ ∧ FirstOf (fun on => SettC p.rules p.out on c) s b) ∧ Grows h h') := by
  have hxl := hx.len
  have g0 : Grows h (h.lay (.row 104 true bx)) := Grows.lay _ _
  have a0 : (h.lay (.row 104 true bx)).at h.next = some (.row 104 true bx) := Hp.at_lay_self _ _
  refine enter78 (by simp) ?_
  conv => whnf
  refine SeqP.go ?_
  conv => whnf
  refine SeqP.cut (α := Hp) (fun _ => []) (fun s H => s = H ∧ Grows h s ∧ ¬ SettC p.rules p.out 0 c ∧ ¬ SettC p.rules p.out 1 c) ?_ ?_
  rotate_left
  · rintro H φ9 _ ⟨rfl, hg, h1, h2⟩
    conv => whnf
    repeat (refine SeqP.go ?_; conv => whnf)
    exact ⟨⟨_, _, rfl, fun k => absurd k h1, fun _ k => absurd k h2, fun _ _ => ⟨rfl, rfl⟩⟩, hg⟩
  conv => whnf
  repeat (refine SeqP.go ?_; conv => whnf)
  refine loop_inv (α := Nat × Hp) (fun s => [(7, int s.1), (3, ptr h.next 0), (0, .func (.func 79) ⟨[.agg ⟨bp⟩]⟩ ⟨[]⟩)]) (fun s => s.2) (fun s => s.1 ≤ 2 ∧ Grows (h.lay (.row 104 true bx)) s.2 ∧ (0 < s.1 → ¬ SettC p.rules p.out 0 c) ∧ (1 < s.1 → ¬ SettC p.rules p.out 1 c)) (fun s => 2 - s.1) (0, _) ⟨Nat.zero_le _, .refl _, fun e => absurd e (Nat.lt_irrefl _), fun e => absurd (show 1 < 0 from e) (by decide)⟩ ⟨rfl, rfl, rfl, trivial⟩ (Hp.Le.refl _) ?_
  rintro ⟨i, H⟩ φ ⟨hi, hg, n0, n1⟩
  dsimp only at hi hg n0 n1 ⊢
  conv => whnf
  repeat (refine SeqP.go ?_; conv => whnf)
  refine cmpB (fun c1 => ?_) (fun c1 => ?_)
  rotate_left
  · conv => whnf
    repeat (refine SeqP.go ?_; conv => whnf)
    exact ⟨H, trivial, ⟨rfl, g0.trans hg, n0 (by omega), n1 (by omega)⟩, rfl⟩
  have g1 := g0.trans hg
  conv => whnf
  repeat (refine SeqP.go ?_; conv => whnf)
  refine ⟨bx, all_cells (hg.at_ _ _ a0) hxl, ?_⟩
  conv => whnf
  refine ⟨can79, ?_⟩
  refine CallP.mono (settles_spec _ p bx i n c L B _ (hv.ext g1) hP en (hx.ext g1)) ?_
  rintro r1 H1 ⟨⟨b, rfl, hb⟩, g2⟩
  have hi2 : i = 0 ∨ i = 1 := by omega
  cases b with
  | true =>
    conv => whnf
    repeat (refine SeqP.go ?_; conv => whnf)
    refine ⟨⟨_, _, rfl, ?_⟩, g1.trans g2⟩
    rcases hi2 with e | e
    · subst e
      exact ⟨fun _ => ⟨rfl, rfl⟩, fun k => absurd hb.t k, fun k => absurd hb.t k⟩
    · subst e
      exact ⟨fun k => absurd k (n0 (by omega)), fun _ _ => ⟨rfl, rfl⟩, fun _ k => absurd hb.t k⟩
  | false =>
    conv => whnf
    repeat (refine SeqP.go ?_; conv => whnf)
    refine ⟨((i + 1 : Nat) : Int), wie (by omega) (by omega), ?_⟩
    conv => whnf
    refine Rnd.mk (i + 1, H1) ⟨by show i + 1 ≤ 2; omega, hg.trans g2, fun _ => ?_, fun e => ?_⟩ (by show 2 - (i + 1) < 2 - i; omega) ⟨rfl, rfl, rfl, trivial⟩ (Hp.Le.refl _) rfl
    · rcases hi2 with e | e
      · subst e; exact hb.f
      · exact n0 (by omega)
    · have e2 : i = 1 := by have : 1 < i + 1 := e; omega
      subst e2
      exact hb.f
theorem eitherD_spec (bp : List Value) (p : Prot) (bx : List Value) (n : Nat) (c : List Int) (L B : List (List Int)) (h : Hp) (hv : PV h (.agg ⟨bp⟩) p) (hP : POk p) (en : p.n = n) (hx : PR h bx p.rules n c L B) : CallP E 78 [.func (.func 65) ⟨[.agg ⟨bp⟩]⟩ ⟨[]⟩, .agg ⟨bx⟩] h (fun r h' => (∃ s b, r = .tuple ⟨[int s, .bool b]⟩ ∧ FirstOf (fun on => DeciC p.rules p.out on c) s b) ∧ Grows h h') := by
  have hxl := hx.len
  have g0 : Grows h (h.lay (.row 104 true bx)) := Grows.lay _ _
  have a0 : (h.lay (.row 104 true bx)).at h.next = some (.row 104 true bx) := Hp.at_lay_self _ _
  refine enter78 (by simp) ?_
  conv => whnf
  refine SeqP.go ?_
  conv => whnf
  refine SeqP.cut (α := Hp) (fun _ => []) (fun s H => s = H ∧ Grows h s ∧ ¬ DeciC p.rules p.out 0 c ∧ ¬ DeciC p.rules p.out 1 c) ?_ ?_
  rotate_left
  · rintro H φ9 _ ⟨rfl, hg, h1, h2⟩
    conv => whnf
    repeat (refine SeqP.go ?_; conv => whnf)
    exact ⟨⟨_, _, rfl, fun k => absurd k h1, fun _ k => absurd k h2, fun _ _ => ⟨rfl, rfl⟩⟩, hg⟩
  conv => whnf
  repeat (refine SeqP.go ?_; conv => whnf)
  refine loop_inv (α := Nat × Hp) (fun s => [(7, int s.1), (3, ptr h.next 0), (0, .func (.func 65) ⟨[.agg ⟨bp⟩]⟩ ⟨[]⟩)]) (fun s => s.2) (fun s => s.1 ≤ 2 ∧ Grows (h.lay (.row 104 true bx)) s.2 ∧ (0 < s.1 → ¬ DeciC p.rules p.out 0 c) ∧ (1 < s.1 → ¬ DeciC p.rules p.out 1 c)) (fun s => 2 - s.1) (0, _) ⟨Nat.zero_le _, .refl _, fun e => absurd e (Nat.lt_irrefl _), fun e => absurd (show 1 < 0 from e) (by decide)⟩ ⟨rfl, rfl, rfl, trivial⟩ (Hp.Le.refl _) ?_
  rintro ⟨i, H⟩ φ ⟨hi, hg, n0, n1⟩
  dsimp only at hi hg n0 n1 ⊢
  conv => whnf
  repeat (refine SeqP.go ?_; conv => whnf)
  refine cmpB (fun c1 => ?_) (fun c1 => ?_)
  rotate_left
  · conv => whnf
    repeat (refine SeqP.go ?_; conv => whnf)
    exact ⟨H, trivial, ⟨rfl, g0.trans hg, n0 (by omega), n1 (by omega)⟩, rfl⟩
  have g1 := g0.trans hg
  conv => whnf
  repeat (refine SeqP.go ?_; conv => whnf)
  refine ⟨bx, all_cells (hg.at_ _ _ a0) hxl, ?_⟩
  conv => whnf
  refine ⟨can65, ?_⟩
  refine CallP.mono (decidesAs_spec _ p bx i n c L B _ (hv.ext g1) hP en (hx.ext g1)) ?_
  rintro r1 H1 ⟨⟨b, rfl, hb⟩, g2⟩
  have hi2 : i = 0 ∨ i = 1 := by omega
  cases b with
  | true =>
    conv => whnf
    repeat (refine SeqP.go ?_; conv => whnf)
    refine ⟨⟨_, _, rfl, ?_⟩, g1.trans g2⟩
    rcases hi2 with e | e
    · subst e
      exact ⟨fun _ => ⟨rfl, rfl⟩, fun k => absurd hb.t k, fun k => absurd hb.t k⟩
    · subst e
      exact ⟨fun k => absurd k (n0 (by omega)), fun _ _ => ⟨rfl, rfl⟩, fun _ k => absurd hb.t k⟩
  | false =>
    conv => whnf
    repeat (refine SeqP.go ?_; conv => whnf)
    refine ⟨((i + 1 : Nat) : Int), wie (by omega) (by omega), ?_⟩
    conv => whnf
    refine Rnd.mk (i + 1, H1) ⟨by show i + 1 ≤ 2; omega, hg.trans g2, fun _ => ?_, fun e => ?_⟩ (by show 2 - (i + 1) < 2 - i; omega) ⟨rfl, rfl, rfl, trivial⟩ (Hp.Le.refl _) rfl
    · rcases hi2 with e | e
      · subst e; exact hb.f
      · exact n0 (by omega)
    · have e2 : i = 1 := by have : 1 < i + 1 := e; omega
      subst e2
      exact hb.f
end
end Go.Proofs.Ytpiplaicnbapbaa
namespace Go.Proofs.Ytpiplaicnbapbaa
open Go.Rx Go.RowKit
/-- The contract of the reference's Reached, still to be proved. -/
def RReachedOk [Unknowns] : Prop := ∀ (v w : Value) (p : Prot) (n : Nat) (c : List Int) (h : Hp), PV h v p → View h w c → POk p → p.n = n → CrOk n c → CallP E 39 [v, w] h (fun r h' => (∃ bx L N, r = .agg ⟨bx⟩ ∧ CR h' bx p.rules n c L N) ∧ Grows h h')
attribute [local irreducible] E idxN cellAt cellsAt storeAt callable helems hmoved lookIn findKey keyOk hentries Hp.at Hp.set Hp.lay arBits hupdated setAt CallP YieldP BoolOf IsWrap Rnd LoopP AppP CutP Int.tmod Int.tdiv Int.fdiv
section
variable [Unknowns]
attribute [local irreducible] ResP sameAt
theorem CR.stored {h : Hp} {bx : List Value} {R : List Q4} {n : Nat} {c : List Int} {L N : List (List Int)} (k : CR h bx R n c L N) : ∃ a0 n0 c0 a1 n1 c1 a2 n2 c2, bx = [.slice a0 n0 c0, .slice a1 n1 c1, .slice a2 n2 c2] := by
  obtain ⟨hl, -, ⟨v, x0, hL⟩, ⟨w, x2, hN⟩, -, -, -, -, ⟨u, S, x1, hS, -⟩⟩ := k
  obtain ⟨a0, c0, rfl, -⟩ := hL
  obtain ⟨a2, c2, rfl, -⟩ := hN
  obtain ⟨a1, c1, rfl⟩ := hS.known
  match bx, hl, x0, x1, x2 with
  | [_, _, _], _, x0, x1, x2 =>
    cases x0
    cases x1
    cases x2
    exact ⟨_, _, _, _, _, _, _, _, _, rfl⟩
end
end Go.Proofs.Ytpiplaicnbapbaa
namespace Go.Proofs.Ytpiplaicnbapbaa
open Go.Rx Go.RowKit
attribute [local irreducible] E idxN cellAt cellsAt storeAt callable helems hmoved lookIn findKey keyOk hentries Hp.at Hp.set Hp.lay arBits hupdated setAt CallP YieldP BoolOf IsWrap Rnd LoopP AppP CutP Int.tmod Int.tdiv Int.fdiv
section
variable [Unknowns]
attribute [local irreducible] ResP sameAt
theorem CR.same {h : Hp} {bx : List Value} {R : List Q4} {n : Nat} {c : List Int} {L N : List (List Int)} (k : CR h bx R n c L N) : sameV 4 (.agg ⟨bx⟩) (.agg ⟨bx⟩) = true := by
  obtain ⟨u0, m0, k0, u1, m1, k1, u2, m2, k2, ebx⟩ := k.stored
  subst ebx
  show (Nat.beq 3 3 && (sameV 3 (.slice u0 m0 k0) (.slice u0 m0 k0) && (sameV 3 (.slice u1 m1 k1) (.slice u1 m1 k1) && (sameV 3 (.slice u2 m2 k2) (.slice u2 m2 k2) && true)))) = true
  rw [sameV_slice3, sameV_slice3, sameV_slice3]
  rfl
end
end Go.Proofs.Ytpiplaicnbapbaa
namespace Go.Proofs.Ytpiplaicnbapbaa
open Go.Rx Go.RowKit
/-- The contract of the program's reached, still to be proved. -/
def PReachedOk [Unknowns] : Prop := ∀ (v : Value) (p : Prot) (n : Nat) (c : List Int) (h : Hp), PV h v p → POk p → p.n = n → CrOk n c → CallP E 66 [v, cv (pad5 c)] h (fun r h' => (∃ bx L B, r = .agg ⟨bx⟩ ∧ PR h' bx p.rules n c L B) ∧ Grows h h')
theorem PV.stored {h : Hp} {bp : List Value} {p : Prot} (k : PV h (.agg ⟨bp⟩) p) : ∃ a1 n1 c1 a2 n2 c2 a3 n3 c3, bp = [int p.n, .slice a1 n1 c1, .slice a2 n2 c2, .slice a3 n3 c3] := by
  obtain ⟨vo, vs, vr, e, h1, h2, h3⟩ := k
  obtain ⟨a1, rfl⟩ := h1.known
  obtain ⟨a2, rfl⟩ := h2.known
  obtain ⟨a3, rfl, -⟩ := h3.slice
  cases e
  exact ⟨_, _, _, _, _, _, _, _, _, rfl⟩
theorem sameV_slice2 (a : Option Addr) (n m : Nat) : sameV 2 (.slice a n m) (.slice a n m) = true := sameV_slice a n m
theorem sameV_int2 (n : Int) : sameV 2 (int n) (int n) = true := sameV_int n
theorem sameV_int3' (n : Int) : sameV 3 (int n) (int n) = true := sameV_int n
theorem sameV_slice3' (a : Option Addr) (n m : Nat) : sameV 3 (.slice a n m) (.slice a n m) = true := sameV_slice a n m
theorem PV.same {h : Hp} {bp : List Value} {p : Prot} (k : PV h (.agg ⟨bp⟩) p) : sameV 4 (.agg ⟨bp⟩) (.agg ⟨bp⟩) = true := by
  obtain ⟨a1, n1, c1, a2, n2, c2, a3, n3, c3, e⟩ := k.stored
  subst e
  show (Nat.beq 4 4 && (sameV 3 (int p.n) (int p.n) && (sameV 3 (.slice a1 n1 c1) (.slice a1 n1 c1) && (sameV 3 (.slice a2 n2 c2) (.slice a2 n2 c2) && (sameV 3 (.slice a3 n3 c3) (.slice a3 n3 c3) && true))))) = true
  rw [sameV_int3', sameV_slice3', sameV_slice3', sameV_slice3']
  rfl
theorem PV.same3 {h : Hp} {bp : List Value} {p : Prot} (k : PV h (.agg ⟨bp⟩) p) : sameV 3 (.agg ⟨bp⟩) (.agg ⟨bp⟩) = true := by
  obtain ⟨a1, n1, c1, a2, n2, c2, a3, n3, c3, e⟩ := k.stored
  subst e
  show (Nat.beq 4 4 && (sameV 2 (int p.n) (int p.n) && (sameV 2 (.slice a1 n1 c1) (.slice a1 n1 c1) && (sameV 2 (.slice a2 n2 c2) (.slice a2 n2 c2) && (sameV 2 (.slice a3 n3 c3) (.slice a3 n3 c3) && true))))) = true
  rw [sameV_int2, sameV_slice2, sameV_slice2, sameV_slice2]
  rfl
theorem PV.sameF {h : Hp} {bp : List Value} {p : Prot} (k : PV h (.agg ⟨bp⟩) p) (f : FuncId) : sameV 4 (.func (.func f) ⟨[.agg ⟨bp⟩]⟩ ⟨[]⟩) (.func (.func f) ⟨[.agg ⟨bp⟩]⟩ ⟨[]⟩) = true := by
  show (decide (_ = _) && Nat.beq 1 1 && Nat.beq 0 0 && (sameV 3 (.agg ⟨bp⟩) (.agg ⟨bp⟩) && true) && true) = true
  rw [k.same3]
  simp
attribute [local irreducible] E idxN cellAt cellsAt storeAt callable helems hmoved lookIn findKey keyOk hentries Hp.at Hp.set Hp.lay arBits hupdated setAt CallP YieldP BoolOf IsWrap Rnd LoopP AppP CutP Int.tmod Int.tdiv Int.fdiv
section
variable [Unknowns]
attribute [local irreducible] ResP sameAt
theorem Settled_ok (hR : PReachedOk) (v w : Value) (p : Prot) (n : Nat) (c : List Int) (h : Hp) (hv : PV h v p) (hw : View h w c) (hP : POk p) (en : p.n = n) (hc : CrOk n c) : CallP E 31 [v, w] h (fun r h' => (∃ s b, r = .tuple ⟨[int s, .bool b, int 0]⟩ ∧ FirstOf (fun on => SettC p.rules p.out on c) s b) ∧ Grows h h') := by
  obtain ⟨bx, rfl, hbl, -⟩ := hv.box
  obtain ⟨ac, cc, rfl⟩ := hw.known
  have hol := hP.outl
  have hn5 := hP.n5
  have hn1 := hP.n1
  have hst2 := hP.st2
  have hrl := hP.rl
  have hcl := hc.len
  have hC : Cnt c p.n := by rw [en]; exact hc.cnt
  have hp5 := pad5_len (c := c) (by omega)
  have g0 : Grows h (h.lay (.row 25 true bx)) := Grows.lay _ _
  have a0 : (h.lay (.row 25 true bx)).at h.next = some (.row 25 true bx) := Hp.at_lay_self _ _
  refine enter31 (by simp) ?_
  conv => whnf
  refine SeqP.go ?_
  conv => whnf
  refine SeqP.cut (α := Nat × Hp) (fun s => [(8, int 0), (7, ptr s.1 0), (2, ptr h.next 0)]) (fun s H => s.2 = H ∧ Grows h s.2 ∧ s.2.at h.next = some (.row 25 true bx) ∧ s.2.at s.1 = some (.row 107 true ((pad5 c).map int))) ?_ ?_
  · conv => whnf
    refine ⟨bx, all_cells a0 hbl, ?_⟩
    conv => whnf
    refine CallP.mono (read_spec _ _ p c _ (hv.ext g0) (hw.ext g0) (by unfold InR; omega) (by omega) (by omega) (by omega) (by omega)) ?_
    rintro r h1 ⟨⟨l, e, rfl, hl, e1, e2, e3⟩, g1⟩
    obtain ⟨rfl, rfl⟩ := e3 hP hC
    unfold cv
    conv => whnf
    refine ⟨by show ((pad5 c).map int).length = 5; rw [List.length_map, hl], _, storeAt_all (vs := (pad5 c).map int) (by rw [List.length_map, hl]; rfl) (ints_one _) (over_int (k := [0, 0, 0, 0, 0]) (by rw [hl]; rfl)), ?_⟩
    conv => whnf
    exact ⟨(h1.next, _), ⟨rfl, rfl, rfl, trivial⟩, ⟨rfl, (g0.trans g1).then_lay _, Hp.at_lay_old _ (g1.at_ _ _ a0), Hp.at_lay_self _ _⟩, rfl⟩
  rintro ⟨X, H1⟩ φ1 _ ⟨rfl, g1, b1, d1⟩
  dsimp only at g1 b1 d1 ⊢
  conv => whnf
  refine SeqP.cut (α := Unit) (fun s => [(7, ptr X 0), (2, ptr h.next 0)]) (fun s H => H1 = H) ?_ ?_
  · conv => whnf
    repeat (refine SeqP.go ?_; conv => whnf)
    refine cmpF (by omega) ?_
    conv => whnf
    repeat (refine SeqP.go ?_; conv => whnf)
    exact ⟨(), ⟨rfl, rfl, trivial⟩, rfl, rfl⟩
  rintro _ φ2 _ rfl
  have hvH := hv.ext g1
  have ld : ∀ H', Grows H1 H' → hval H' (aggOf (cellsAt H' h.next 0 4)) = .val (.agg ⟨bx⟩) H' := fun H' g => by
    rw [all_cells (g.at_ _ _ b1) hbl]
    rfl
  conv => whnf
  repeat (refine SeqP.go ?_; conv => whnf)
  refine ⟨bx, all_cells b1 hbl, ?_⟩
  conv => whnf
  refine ⟨bx, all_cells b1 hbl, ?_⟩
  conv => whnf
  refine ⟨(pad5 c).map int, all_cells d1 (by rw [List.length_map, hp5]), ?_⟩
  conv => whnf
  refine CallP.mono (hR _ p n c _ hvH hP en hc) ?_
  rintro r2 H2 ⟨⟨bq, L, B, rfl, hx⟩, g2⟩
  conv => whnf
  refine CallP.mono (eitherS_spec bx p bq n c L B _ (hvH.ext g2) hP en hx) ?_
  rintro r3 H3 ⟨⟨s, b, rfl, hf⟩, g3⟩
  have g23 := g2.trans g3
  conv => whnf
  refine ⟨?_, ?_⟩
  · repeat' (first | exact True.intro | (refine And.intro ?_ ?_ <;> (conv => whnf)))
    all_goals first
      | exact sameAt_val (h2 := _) (ld _ (Grows.refl _)) hv.same
      | exact sameAt_val (h2 := _) (ld _ g2) hv.same
      | exact sameAt_val (h2 := _) (ld _ g23) hv.same
      | exact sameAt_val (h2 := _) rfl (hv.sameF _)
      | trace_state
  conv => whnf
  repeat (refine SeqP.go ?_; conv => whnf)
  exact ⟨⟨_, _, rfl, hf⟩, g1.trans g23⟩
theorem Decides_ok (hR : PReachedOk) (v w : Value) (p : Prot) (n : Nat) (c : List Int) (h : Hp) (hv : PV h v p) (hw : View h w c) (hP : POk p) (en : p.n = n) (hc : CrOk n c) : CallP E 32 [v, w] h (fun r h' => (∃ s b, r = .tuple ⟨[int s, .bool b, int 0]⟩ ∧ FirstOf (fun on => DeciC p.rules p.out on c) s b) ∧ Grows h h') := by
  obtain ⟨bx, rfl, hbl, -⟩ := hv.box
  obtain ⟨ac, cc, rfl⟩ := hw.known
  have hol := hP.outl
  have hn5 := hP.n5
  have hn1 := hP.n1
  have hst2 := hP.st2
  have hrl := hP.rl
  have hcl := hc.len
  have hC : Cnt c p.n := by rw [en]; exact hc.cnt
  have hp5 := pad5_len (c := c) (by omega)
  have g0 : Grows h (h.lay (.row 25 true bx)) := Grows.lay _ _
  have a0 : (h.lay (.row 25 true bx)).at h.next = some (.row 25 true bx) := Hp.at_lay_self _ _
  refine enter32 (by simp) ?_
  conv => whnf
  refine SeqP.go ?_
  conv => whnf
  refine SeqP.cut (α := Nat × Hp) (fun s => [(8, int 0), (7, ptr s.1 0), (2, ptr h.next 0)]) (fun s H => s.2 = H ∧ Grows h s.2 ∧ s.2.at h.next = some (.row 25 true bx) ∧ s.2.at s.1 = some (.row 107 true ((pad5 c).map int))) ?_ ?_
  · conv => whnf
    refine ⟨bx, all_cells a0 hbl, ?_⟩
    conv => whnf
    refine CallP.mono (read_spec _ _ p c _ (hv.ext g0) (hw.ext g0) (by unfold InR; omega) (by omega) (by omega) (by omega) (by omega)) ?_
    rintro r h1 ⟨⟨l, e, rfl, hl, e1, e2, e3⟩, g1⟩
    obtain ⟨rfl, rfl⟩ := e3 hP hC
    unfold cv
    conv => whnf
    refine ⟨by show ((pad5 c).map int).length = 5; rw [List.length_map, hl], _, storeAt_all (vs := (pad5 c).map int) (by rw [List.length_map, hl]; rfl) (ints_one _) (over_int (k := [0, 0, 0, 0, 0]) (by rw [hl]; rfl)), ?_⟩
    conv => whnf
    exact ⟨(h1.next, _), ⟨rfl, rfl, rfl, trivial⟩, ⟨rfl, (g0.trans g1).then_lay _, Hp.at_lay_old _ (g1.at_ _ _ a0), Hp.at_lay_self _ _⟩, rfl⟩
  rintro ⟨X, H1⟩ φ1 _ ⟨rfl, g1, b1, d1⟩
  dsimp only at g1 b1 d1 ⊢
  conv => whnf
  refine SeqP.cut (α := Unit) (fun s => [(7, ptr X 0), (2, ptr h.next 0)]) (fun s H => H1 = H) ?_ ?_
  · conv => whnf
    repeat (refine SeqP.go ?_; conv => whnf)
    refine cmpF (by omega) ?_
    conv => whnf
    repeat (refine SeqP.go ?_; conv => whnf)
    exact ⟨(), ⟨rfl, rfl, trivial⟩, rfl, rfl⟩
  rintro _ φ2 _ rfl
  have hvH := hv.ext g1
  have ld : ∀ H', Grows H1 H' → hval H' (aggOf (cellsAt H' h.next 0 4)) = .val (.agg ⟨bx⟩) H' := fun H' g => by
    rw [all_cells (g.at_ _ _ b1) hbl]
    rfl
  conv => whnf
  repeat (refine SeqP.go ?_; conv => whnf)
  refine ⟨bx, all_cells b1 hbl, ?_⟩
  conv => whnf
  refine ⟨bx, all_cells b1 hbl, ?_⟩
  conv => whnf
  refine ⟨(pad5 c).map int, all_cells d1 (by rw [List.length_map, hp5]), ?_⟩
  conv => whnf
  refine CallP.mono (hR _ p n c _ hvH hP en hc) ?_
  rintro r2 H2 ⟨⟨bq, L, B, rfl, hx⟩, g2⟩
  conv => whnf
  refine CallP.mono (eitherD_spec bx p bq n c L B _ (hvH.ext g2) hP en hx) ?_
  rintro r3 H3 ⟨⟨s, b, rfl, hf⟩, g3⟩
  have g23 := g2.trans g3
  conv => whnf
  refine ⟨?_, ?_⟩
  · repeat' (first | exact True.intro | (refine And.intro ?_ ?_ <;> (conv => whnf)))
    all_goals first
      | exact sameAt_val (h2 := _) (ld _ (Grows.refl _)) hv.same
      | exact sameAt_val (h2 := _) (ld _ g2) hv.same
      | exact sameAt_val (h2 := _) (ld _ g23) hv.same
      | exact sameAt_val (h2 := _) rfl (hv.sameF _)
      | trace_state
  conv => whnf
  repeat (refine SeqP.go ?_; conv => whnf)
  exact ⟨⟨_, _, rfl, hf⟩, g1.trans g23⟩
end
end Go.Proofs.Ytpiplaicnbapbaa
namespace Go.Proofs.Ytpiplaicnbapbaa
open Go.Rx Go.RowKit
/-- The rules that are allowed, of the first ones. -/
def posN (R : List Q4) (c5 : List Int) : Nat → List Int
  | 0 => []
  | i + 1 => posN R c5 i ++ (if h : i < R.length then (if Allowed c5 R[i] then [(i : Int)] else []) else [])
theorem posN_skip {R : List Q4} {c5 : List Int} {i : Nat} (h : i < R.length) (k : ¬ Allowed c5 R[i]) : posN R c5 (i + 1) = posN R c5 i := by
  unfold posN
  rw [dif_pos h, if_neg k, List.append_nil]
  cases i <;> rfl
theorem posN_add {R : List Q4} {c5 : List Int} {i : Nat} (h : i < R.length) (k : Allowed c5 R[i]) : posN R c5 (i + 1) = posN R c5 i ++ [(i : Int)] := by
  show posN R c5 i ++ _ = _
  rw [dif_pos h, if_pos k]
theorem posN_len (R : List Q4) (c5 : List Int) : ∀ i, (posN R c5 i).length ≤ i
  | 0 => Nat.le_refl _
  | i + 1 => by
    have := posN_len R c5 i
    show (posN R c5 i ++ _).length ≤ _
    rw [List.length_append]
    split
    · split <;> simp <;> omega
    · simp; omega
theorem posN_mem (R : List Q4) (c5 : List Int) : ∀ i (x : Int), x ∈ posN R c5 i ↔ ∃ k : Nat, x = k ∧ k < i ∧ ∃ hk : k < R.length, Allowed c5 R[k]
  | 0, x => ⟨fun h => (by simp [posN] at h), fun ⟨k, _, h, _⟩ => absurd h (Nat.not_lt_zero _)⟩
  | i + 1, x => by
    show x ∈ posN R c5 i ++ _ ↔ _
    rw [List.mem_append, posN_mem R c5 i x]
    constructor
    · rintro (⟨k, h1, h2, h3⟩ | h)
      · exact ⟨k, h1, by omega, h3⟩
      · split at h
        · rename_i h4
          split at h
          · rename_i h5
            exact ⟨i, List.mem_singleton.1 h, by omega, h4, h5⟩
          · simp at h
        · simp at h
    · rintro ⟨k, h1, h2, h3, h4⟩
      by_cases e : k = i
      · subst e
        refine .inr ?_
        rw [dif_pos h3, if_pos h4, h1]
        simp
      · exact .inl ⟨k, h1, by omega, h3, h4⟩
attribute [local irreducible] E idxN cellAt cellsAt storeAt callable helems hmoved lookIn findKey keyOk hentries Hp.at Hp.set Hp.lay arBits hupdated setAt CallP YieldP BoolOf IsWrap Rnd LoopP AppP CutP Int.tmod Int.tdiv Int.fdiv
section
variable [Unknowns]
attribute [local irreducible] ResP sameAt
theorem possible_spec (v : Value) (R : List Q4) (c5 : List Int) (h : Hp) (hv : RV h v R) (hrl : R.length ≤ 15) (hc : c5.length = 5) (hR : ∀ k, (hk : k < R.length) → QIn 5 R[k]) : CallP E 109 [v, .func (.func 74) ⟨[cv c5]⟩ ⟨[]⟩] h (fun r h' => (∃ l, Built h h' 3 r l ∧ l = posN R c5 R.length) ∧ Grows h h') := by
  have hcells := hv.cells
  obtain ⟨a, rfl, hcells⟩ := hcells
  unfold cv
  refine enter109 (by simp) ?_
  conv => whnf
  refine SeqP.go ?_
  conv => whnf
  refine SeqP.go ?_
  conv => whnf
  refine SeqP.cut (α := Value × List Int × Hp) (fun s => [(5, s.1)]) (fun s H => s.2.2 = H ∧ Grows h s.2.2 ∧ Built h s.2.2 3 s.1 s.2.1 ∧ s.2.1 = posN R c5 R.length) ?_ ?_
  rotate_left
  · rintro ⟨wv, l, H⟩ φ9 _ ⟨rfl, h1, h2, h3⟩
    dsimp only at h1 h2 h3 ⊢
    have hkk := (LV.of h2).known
    obtain ⟨a9, rfl⟩ := hkk
    conv => whnf
    repeat (refine SeqP.go ?_; conv => whnf)
    exact ⟨⟨l, h2, h3⟩, h1⟩
  conv => whnf
  repeat (refine SeqP.go ?_; conv => whnf)
  refine loop_inv (α := Nat × Value × List Int × Hp) (fun s => [(10, int s.1), (9, int R.length), (8, .slice a R.length R.length), (5, s.2.1), (1, .func (.func 74) ⟨[.agg ⟨c5.map int⟩]⟩ ⟨[]⟩)]) (fun s => s.2.2.2) (fun s => s.1 ≤ R.length ∧ Grows h s.2.2.2 ∧ Built h s.2.2.2 3 s.2.1 s.2.2.1 ∧ s.2.2.1 = posN R c5 s.1) (fun s => R.length - s.1) (0, .slice none 0 0, [], h) ⟨Nat.zero_le _, .refl _, .inl ⟨rfl, rfl⟩, rfl⟩ ⟨rfl, rfl, rfl, rfl, rfl, trivial⟩ (Hp.Le.refl _) ?_
  rintro ⟨i, wv, l, H⟩ φ2 ⟨hi, hg, hb, hu⟩
  dsimp only at hi hg hb hu ⊢
  have hcnt : l.length ≤ i := by rw [hu]; exact posN_len R c5 i
  have hkk := (LV.of hb).known
  obtain ⟨aw, rfl⟩ := hkk
  conv => whnf
  repeat (refine SeqP.go ?_; conv => whnf)
  refine cmpB (fun c1 => ?_) (fun c1 => ?_)
  rotate_left
  · have : i = R.length := by omega
    subst this
    conv => whnf
    repeat (refine SeqP.go ?_; conv => whnf)
    exact ⟨(_, l, H), ⟨rfl, trivial⟩, ⟨rfl, hg, hb, hu⟩, rfl⟩
  have hil : i < R.length := by omega
  have hkg := hcells i hil
  obtain ⟨rr, ear, hkc⟩ := hkg
  subst ear
  have hkc := hg.cells hkc
  have hqi := hR i hil
  have hexq : ∃ q, R[i] = q := ⟨_, rfl⟩
  obtain ⟨q, eq⟩ := hexq
  rw [eq] at hkc hqi
  have hPi : (∃ hk : i < R.length, Allowed c5 R[i]) ↔ Allowed c5 q := by
    constructor
    · rintro ⟨hk, k⟩
      rw [← eq]
      exact k
    · intro k
      exact ⟨hil, by rw [eq]; exact k⟩
  conv => whnf
  repeat (refine SeqP.go ?_; conv => whnf)
  refine ⟨rfl, ⟨by omega, by omega⟩, ?_⟩
  conv => whnf
  refine ⟨[int q.a, int q.b, int q.c, int q.d], by rw [offAt_eq]; simpa using hkc, ?_⟩
  conv => whnf
  refine ⟨rfl, _, storeAt_all (vs := [int q.a, int q.b, int q.c, int q.d]) rfl rfl rfl, ?_⟩
  have hg1 := hg.then_lay (.row 96 true [int q.a, int q.b, int q.c, int q.d])
  conv => whnf
  repeat (refine SeqP.go ?_; conv => whnf)
  refine ⟨[int q.a, int q.b, int q.c, int q.d], all_cells (Hp.at_lay_self _ _) rfl, ?_⟩
  conv => whnf
  refine ⟨can74, ?_⟩
  refine CallP.mono (allows_spec c5 q _ hc hqi) ?_
  rintro r2 H2 ⟨⟨b, rfl, hb2⟩, g2⟩
  have hbb := hb.ext ((Grows.lay H (.row 96 true [int q.a, int q.b, int q.c, int q.d])).trans g2)
  cases b with
  | false =>
    conv => whnf
    repeat (refine SeqP.go ?_; conv => whnf)
    refine ⟨((i + 1 : Nat) : Int), wie (by omega) (by omega), ?_⟩
    conv => whnf
    exact Rnd.mk (i + 1, _, l, H2) ⟨by show i + 1 ≤ _; omega, hg1.trans g2, hbb, by show l = posN R c5 (i + 1); rw [posN_skip hil (fun k => hb2.f (by rw [← eq]; exact k))]; exact hu⟩ (by show _ - (i + 1) < _ - i; omega) ⟨rfl, rfl, rfl, rfl, rfl, trivial⟩ (Hp.Le.refl _) rfl
  | true =>
    conv => whnf
    repeat (refine SeqP.go ?_; conv => whnf)
    refine AppP.ints (hbb.ext (Grows.lay _ _)) ((hg1.trans g2).then_lay _) Elems.lay1 (by simp; omega) ?_
    intro v4 H4 hv4 hg4 _
    conv => whnf
    repeat (refine SeqP.go ?_; conv => whnf)
    refine ⟨((i + 1 : Nat) : Int), wie (by omega) (by omega), ?_⟩
    conv => whnf
    exact Rnd.mk (i + 1, v4, l ++ [(i : Int)], H4) ⟨by show i + 1 ≤ _; omega, hg4, hv4, by show l ++ [(i : Int)] = posN R c5 (i + 1); rw [posN_add hil (by rw [eq]; exact hb2.t), hu]⟩ (by show _ - (i + 1) < _ - i; omega) ⟨rfl, rfl, rfl, rfl, rfl, trivial⟩ (Hp.Le.refl _) rfl
end
end Go.Proofs.Ytpiplaicnbapbaa
namespace Go.Proofs.Ytpiplaicnbapbaa
open Go.Rx Go.RowKit
structure K5 where
  a : Int
  b : Int
  c : Int
  d : Int
  e : Int
  deriving DecidableEq
def enc5 (k : K5) : Value := .agg ⟨[int k.a, int k.b, int k.c, int k.d, int k.e]⟩
theorem key5_ok (k : K5) : keyOk E 107 (enc5 k) = true := by
  kernel_rfl
theorem key5_bits (k : K5) : Instr.sameBits 10000 (enc5 k) (enc5 k) = true := by
  obtain ⟨a, b, c, d, e⟩ := k
  unfold enc5
  simp [Instr.sameBits]
end Go.Proofs.Ytpiplaicnbapbaa
namespace Go.Proofs.Ytpiplaicnbapbaa
open Go.Rx Go.RowKit
theorem key5_eq (k k' : K5) : keyEq Try.prog 107 (enc5 k) (enc5 k') = some (decide (k = k')) := by
  obtain ⟨a, b, c, d, e⟩ := k
  obtain ⟨a', b', c', d', e'⟩ := k'
  have e1 : decide ((⟨a, b, c, d, e⟩ : K5) = ⟨a', b', c', d', e'⟩) = (decide (a = a') && decide (b = b') && decide (c = c') && decide (d = d') && decide (e = e')) := by
    rw [Bool.eq_iff_iff]
    simp [and_assoc]
  rw [e1]
  unfold enc5
  have st : ∀ (k : Program → Sem Bool), pureRun Try.prog (.program k) = pureRun Try.prog (k Try.prog) := fun k => rfl
  show _ = some ((a == a') && (b == b') && (c == c') && (d == d') && (e == e'))
  conv => lhs; whnf
  conv => lhs; arg 2; whnf
  conv => lhs; arg 2; arg 1; rw [Std.Legacy.Range.forIn_eq_forIn_range']
  conv => lhs; arg 2; whnf
  repeat (rw [st]; conv => lhs; arg 2; whnf)
  conv => lhs; arg 2; arg 1; whnf
  conv => lhs; arg 2; arg 1; arg 1; whnf
  dsimp only
  cases h1 : (a == a')
  · rfl
  conv => lhs; arg 2; whnf
  repeat (rw [st]; conv => lhs; arg 2; whnf)
  conv => lhs; arg 2; arg 1; whnf
  conv => lhs; arg 2; arg 1; arg 1; whnf
  dsimp only
  cases h2 : (b == b')
  · rfl
  conv => lhs; arg 2; whnf
  repeat (rw [st]; conv => lhs; arg 2; whnf)
  conv => lhs; arg 2; arg 1; whnf
  conv => lhs; arg 2; arg 1; arg 1; whnf
  dsimp only
  cases h3 : (c == c')
  · rfl
  conv => lhs; arg 2; whnf
  repeat (rw [st]; conv => lhs; arg 2; whnf)
  conv => lhs; arg 2; arg 1; whnf
  conv => lhs; arg 2; arg 1; arg 1; whnf
  dsimp only
  cases h4 : (d == d')
  · rfl
  conv => lhs; arg 2; whnf
  repeat (rw [st]; conv => lhs; arg 2; whnf)
  conv => lhs; arg 2; arg 1; whnf
  conv => lhs; arg 2; arg 1; arg 1; whnf
  dsimp only
  cases h5 : (e == e')
  · rfl
  · rfl
theorem key107 : KeyTy E 107 enc5 where
  ok := key5_ok
  eq := key5_eq
  bits := key5_bits
/-- A crowd, as a key. -/
def k5 (l : List Int) : K5 := ⟨gl l 0, gl l 1, gl l 2, gl l 3, gl l 4⟩
theorem enc_k5 {l : List Int} (h : l.length = 5) : enc5 (k5 l) = .agg ⟨l.map int⟩ := by
  match l, h with
  | [a, b, c, d, e], _ => rfl
theorem k5_pad {n : Nat} {c d : List Int} (hc : CrOk n c) (hd : CrOk n d) (hn : n ≤ 5) (e : k5 (pad5 c) = k5 (pad5 d)) : c = d := by
  have h1 := hc.len
  have h2 := hd.len
  unfold k5 at e
  simp only [gl_pad, K5.mk.injEq] at e
  obtain ⟨e0, e1, e2, e3, e4⟩ := e
  apply List.ext_getElem (by omega)
  intro i hi hj
  rw [← gl_at hi, ← gl_at hj]
  have : i = 0 ∨ i = 1 ∨ i = 2 ∨ i = 3 ∨ i = 4 := by omega
  rcases this with x | x | x | x | x <;> subst x <;> assumption
end Go.Proofs.Ytpiplaicnbapbaa
namespace Go.Proofs.Ytpiplaicnbapbaa
open Go.Rx Go.RowKit
theorem ty122 : ∃ i, E.ty 122 = some i ∧ i.desc = .map 3 3 := by
  have hs : (tiOf Try.prog 122).isSome = true := by kernel_rfl
  refine ⟨(tiOf Try.prog 122).get hs, ty_get (by kernel_rfl) (Option.some_get hs).symm, ?_⟩
  kernel_rfl
theorem ty137 : ∃ i, E.ty 137 = some i ∧ i.desc = .map 107 3 := by
  have hs : (tiOf Try.prog 137).isSome = true := by kernel_rfl
  refine ⟨(tiOf Try.prog 137).get hs, ty_get (by kernel_rfl) (Option.some_get hs).symm, ?_⟩
  kernel_rfl
theorem ty3 : ∃ i, E.ty 3 = some i ∧ isI64 i.desc = true ∧ i.zero = some (int 0) := by
  have hs : (tiOf Try.prog 3).isSome = true := by kernel_rfl
  refine ⟨(tiOf Try.prog 3).get hs, ty_get (by kernel_rfl) (Option.some_get hs).symm, ?_, ?_⟩
  · kernel_rfl
  · kernel_rfl
theorem keyI : KeyTy E 3 (fun n : Int => int n) := by
  obtain ⟨i, hi, hd, _⟩ := ty3
  exact keyInt hi hd
abbrev encI : Int → Value := fun n : Int => int n
/-- A key is set where a map literal is made. -/
theorem raw_insert {κ : Type} [DecidableEq κ] {enc : κ → Value} {t kt et : TypeId} {ti : TI} (ht : E.ty t = some ti) (hd : ti.desc = .map kt et) (K : KeyTy E kt enc) {φ : Rx.Frame} {h : Hp} {ty : TypeId} {x j y : Operand} {r : Nat} {k : κ} {v : Value} {f : κ → Option Value} {n : Nat}
    (hx : evφ φ x = mapAt r) (hj : evφ φ j = enc k) (hy : evφ φ y = v) (hm : MapAt h r enc f n) {Q : Value → Hp → Prop}
    (q : ∀ h', MapAt h' r enc (fun k' => if k' = k then some v else f k') (if (f k).isSome then n else n + 1) → Keeps r h h' → Q undef h') : MapP E (.raw (.insert t x j y) ty) φ h Q := by
  have := raw_update (ty := ty) ht hd K hx hj hy hm q
  exact ⟨this.1⟩
/-- The number that a map of crowds keeps for each of the first ones. -/
def IxOf {κ : Type} (key : List Int → κ) (L : List (List Int)) (f : κ → Option Value) : Prop := (∀ i, (hi : i < L.length) → f (key L[i]) = some (int i)) ∧ ∀ k v, f k = some v → ∃ i, ∃ hi : i < L.length, k = key L[i] ∧ v = int i
theorem IxOf.add {κ : Type} [DecidableEq κ] {key : List Int → κ} {L : List (List Int)} {f : κ → Option Value} (h : IxOf key L f) {c : List Int} (hn : f (key c) = none) : IxOf key (L ++ [c]) (fun k' => if k' = key c then some (int L.length) else f k') := by
  refine ⟨fun i hi => ?_, fun k v hk => ?_⟩
  · rw [List.length_append, List.length_singleton] at hi
    by_cases e : i < L.length
    · rw [List.getElem_append_left e]
      dsimp only
      rw [if_neg (fun e2 => by rw [← e2, h.1 i e] at hn; cases hn)]
      exact h.1 i e
    · have e2 : i = L.length := by omega
      subst e2
      simp
  · dsimp only at hk
    by_cases e : k = key c
    · rw [if_pos e] at hk
      cases hk
      exact ⟨L.length, by simp, by simp [e], rfl⟩
    · rw [if_neg e] at hk
      obtain ⟨i, hi, h1, h2⟩ := h.2 k v hk
      exact ⟨i, by rw [List.length_append]; omega, by rw [List.getElem_append_left hi]; exact h1, h2⟩
theorem IxOf.none_iff {κ : Type} {key : List Int → κ} {L : List (List Int)} {f : κ → Option Value} (h : IxOf key L f) {c : List Int} (inj : ∀ d ∈ L, key d = key c → d = c) (hn : f (key c) = none) : c ∉ L := by
  intro hm
  obtain ⟨i, hi, e⟩ := List.getElem_of_mem hm
  have := h.1 i hi
  rw [e, hn] at this
  cases this
theorem IxOf.some_iff {κ : Type} {key : List Int → κ} {L : List (List Int)} {f : κ → Option Value} (h : IxOf key L f) {c : List Int} (inj : ∀ d ∈ L, key d = key c → d = c) {v : Value} (hs : f (key c) = some v) : ∃ i, ∃ hi : i < L.length, L[i] = c ∧ v = int i := by
  obtain ⟨i, hi, h1, h2⟩ := h.2 _ v hs
  exact ⟨i, hi, inj _ (List.getElem_mem _) h1.symm, h2⟩
end Go.Proofs.Ytpiplaicnbapbaa
namespace Go.Proofs.Ytpiplaicnbapbaa
open Go.Rx Go.RowKit
theorem crowds_few {n : Nat} {L : List (List Int)} (hn : n ≤ 5) (h : ∀ d ∈ L, CrOk n d) (hd : L.Nodup) : L.length ≤ 100000 := by
  have h1 := nodup_map (f := fun d => (keyOf d).toNat) hd (fun a ha b hb e => keyOf_inj (h a ha) (h b hb) (by
    have h2 := keyOf_bd hn (h a ha)
    have h3 := keyOf_bd hn (h b hb)
    omega))
  have h2 := nodup_lt 100000 _ h1 (fun x hx => by
    obtain ⟨d, hd2, rfl⟩ := List.mem_map.1 hx
    have := keyOf_bd hn (h d hd2)
    omega)
  rw [List.length_map] at h2
  exact h2
theorem Nx.done {R : List Q4} {L N : List (List Int)} (k : Nx R L N) (hl : N.length = L.length) (hd : L.Nodup) (hR : R.length ≤ 1000) : NxOk R L N := by
  refine ⟨hl, fun i hi x hx => ?_, fun i b he => ?_, fun i hi => ?_⟩
  · have h1 := List.getElem?_eq_getElem (l := L) (i := i) (by omega)
    obtain ⟨kk, e, j, h2, h3, h4⟩ := (k.row i _ _ h1 (List.getElem?_eq_getElem hi)).fwd x hx
    exact ⟨kk, h2, _, e, j, h1, h3, h4⟩
  · have hlt := he.lt
    obtain ⟨d, e, j, h1, h2, h3⟩ := he
    have hi : i < N.length := by omega
    obtain ⟨kk, h4, h5⟩ := (k.row i _ _ h1 (List.getElem?_eq_getElem hi)).bwd j e (step_range h3).2 h3
    have hkk := (List.getElem?_eq_some_iff.1 h4).1
    have : kk = b := (List.getElem?_inj hkk hd).1 (h4.trans h2.symm)
    subst this
    exact ⟨hi, h5⟩
  · have h1 := List.getElem?_eq_getElem (l := L) (i := i) (by omega)
    have := (k.row i _ _ h1 (List.getElem?_eq_getElem hi)).few
    omega
end Go.Proofs.Ytpiplaicnbapbaa
namespace Go.Proofs.Ytpiplaicnbapbaa
open Go.Rx Go.RowKit
abbrev nilS : Value := .slice none 0 0
/-- Memory while the reference reaches crowds: the list, the steps, the rows, the row that grows, the map, the result. -/
structure RRI (hb H : Hp) (lv sv nv rv : Value) (M O X : Nat) (us vs : List Value) (L N : List (List Int)) (S row : List Int) (f : Int → Option Value) (m : Nat) (ov : Value) : Prop where
  gr : Grows hb H
  l : BuiltC hb H 22 1 lv us.length us
  le : EL H us L
  s : BuiltC hb H 3 1 sv S.length (S.map int)
  n : BuiltC hb H 22 1 nv vs.length vs
  ne : EL H vs N
  r : BuiltC hb H 3 1 rv row.length (row.map int)
  m : MapAt H M encI f m
  o : H.at O = some (.row 64 true [nilS, nilS, ov])
  hM : hb.next ≤ M
  hO : hb.next ≤ O
  sep : Sep H [lv, sv, nv, rv, slc M 0 0 0, slc O 0 0 0, slc X 0 0 0] (us ++ vs)
theorem RRI.ext {hb H H' : Hp} {lv sv nv rv : Value} {M O X : Nat} {us vs : List Value} {L N : List (List Int)} {S row : List Int} {f : Int → Option Value} {m : Nat} {ov : Value} (k : RRI hb H lv sv nv rv M O X us vs L N S row f m ov) (g : Grows H H') : RRI hb H' lv sv nv rv M O X us vs L N S row f m ov :=
  ⟨k.gr.trans g, k.l.ext g, k.le.ext g, k.s.ext g, k.n.ext g, k.ne.ext g, k.r.ext g, k.m.ext g, g.at_ _ _ k.o, k.hM, k.hO, k.sep.ext g⟩
theorem ap_at {a : Option Nat} {h h' : Hp} {r : Nat} {o : Rx.Obj} {v : Value} (x : Kx (ad v) h h') (e : h.at r = some o) (k : Ap v (slc r 0 0 0)) : h'.at r = some o := x.at_ e fun e2 => k r e2 rfl
theorem map_kx {h h' : Hp} {M : Nat} {f : Int → Option Value} {m : Nat} {v : Value} (k : MapAt h M encI f m) (x : Kx (ad v) h h') (a : Ap v (slc M 0 0 0)) : MapAt h' M encI f m := by
  obtain ⟨es, c, h1, h2, h3⟩ := k
  exact ⟨es, c, x.at_ h1 (fun e2 => a M e2 rfl), h2, h3⟩
theorem RRI.start {hb H4 : Hp} {X : Nat} {w : Value} {c : List Int} {f : Int → Option Value} (hw : View hb w c) (y : Keeps ((hb.lay (.row 22 true [w])).lay (.row 3 true [int 0])).next (((hb.lay (.row 22 true [w])).lay (.row 3 true [int 0])).lay (.map [] 0)) H4) (hm : MapAt H4 ((hb.lay (.row 22 true [w])).lay (.row 3 true [int 0])).next encI f 1) (hX : X < hb.next) (hwX : ∀ r, ad w = some r → r < X) : RRI hb (H4.lay (.row 64 true [nilS, nilS, nilS])) (slc hb.next 0 1 1) (slc (hb.lay (.row 22 true [w])).next 0 1 1) nilS nilS ((hb.lay (.row 22 true [w])).lay (.row 3 true [int 0])).next H4.next X [w] [] [c] [] [0] [] f 1 nilS := by
  have e1 : (hb.lay (.row 22 true [w])).next = hb.next + 1 := Hp.next_lay _ _
  have e2 : ((hb.lay (.row 22 true [w])).lay (.row 3 true [int 0])).next = hb.next + 2 := by rw [Hp.next_lay, e1]
  have e3 : (((hb.lay (.row 22 true [w])).lay (.row 3 true [int 0])).lay (.map [] 0)).next = hb.next + 3 := by rw [Hp.next_lay, e2]
  have e4 : H4.next = hb.next + 3 := by rw [y.next, e3]
  have e5 : (H4.lay (.row 64 true [nilS, nilS, nilS])).next = hb.next + 4 := by rw [Hp.next_lay, e4]
  have g3 : Grows hb (((hb.lay (.row 22 true [w])).lay (.row 3 true [int 0])).lay (.map [] 0)) := ((Grows.lay _ _).then_lay _).then_lay _
  have g4 : Grows hb H4 := y.grows g3 (by omega)
  have g5 : Grows hb (H4.lay (.row 64 true [nilS, nilS, nilS])) := g4.then_lay _
  have a1 : (((hb.lay (.row 22 true [w])).lay (.row 3 true [int 0])).lay (.map [] 0)).at hb.next = some (.row 22 true [w]) := Hp.at_lay_old _ (Hp.at_lay_old _ (Hp.at_lay_self _ _))
  have a2 : (((hb.lay (.row 22 true [w])).lay (.row 3 true [int 0])).lay (.map [] 0)).at (hb.lay (.row 22 true [w])).next = some (.row 3 true [int 0]) := Hp.at_lay_old _ (Hp.at_lay_self _ _)
  refine ⟨g5, ⟨rfl, .inr ⟨_, rfl, Nat.le_refl _, true, Hp.at_lay_old _ (y.at_ _ _ (by omega) a1)⟩⟩, (EL.nil _).add (hw.ext g5), ⟨rfl, .inr ⟨_, rfl, by omega, true, Hp.at_lay_old _ (y.at_ _ _ (by omega) a2)⟩⟩, BuiltC.nil, EL.nil _, BuiltC.nil, hm.ext (Grows.lay _ _), Hp.at_lay_self _ _, by omega, by omega, ?_⟩
  have s0 : Rx.Sep hb [] [w] := ⟨fun v h => by simp at h, fun u hu r e => by rw [List.mem_singleton.1 hu] at e; exact hw.ad_lt r e, fun i j v u _ h => by simp at h, fun v h => by simp at h⟩
  have s1 := s0.addR (h' := hb.lay (.row 22 true [w])) (by omega) (v' := slc hb.next 0 1 1) (fun r e => by cases e; omega)
  have s2 := s1.addR (h' := (hb.lay (.row 22 true [w])).lay (.row 3 true [int 0])) (by omega) (v' := slc (hb.lay (.row 22 true [w])).next 0 1 1) (fun r e => by cases e; omega)
  have s3 := s2.addR (h' := (hb.lay (.row 22 true [w])).lay (.row 3 true [int 0])) (by omega) (v' := nilS) (fun r e => by cases e)
  have s4 := s3.addR (h' := (hb.lay (.row 22 true [w])).lay (.row 3 true [int 0])) (by omega) (v' := nilS) (fun r e => by cases e)
  have s5 := s4.addR (h' := H4) (by omega) (v' := slc ((hb.lay (.row 22 true [w])).lay (.row 3 true [int 0])).next 0 0 0) (fun r e => by cases e; omega)
  have s6 := s5.addR (h' := H4.lay (.row 64 true [nilS, nilS, nilS])) (by omega) (v' := slc H4.next 0 0 0) (fun r e => by cases e; omega)
  refine s6.addR' (v' := slc X 0 0 0) (fun r e => by cases e; omega) (fun v hv r e e2 => ?_) (fun u hu r e e2 => ?_)
  · cases e2
    simp at hv
    rcases hv with rfl | rfl | rfl | rfl | rfl <;> cases e <;> omega
  · cases e
    rw [List.mem_singleton.1 hu] at e2
    have := hwX X e2
    omega
section
variable {hb H : Hp} {lv sv nv rv : Value} {M O X : Nat} {us vs : List Value} {L N : List (List Int)} {S row : List Int} {f : Int → Option Value} {m : Nat} {ov : Value}
theorem RRI.l_app {u : Value} {l : List Int} {b : Bool} {K : Value → Hp → Prop} (k : RRI hb H lv sv nv rv M O X us vs L N S row f m ov) (hu : View H u l) (hs : Sep H [lv, sv, nv, rv, slc M 0 0 0, slc O 0 0 0, slc X 0 0 0] (us ++ vs ++ [u])) (hl : us.length ≤ 1000000)
    (q : ∀ lv' H', RRI hb H' lv' sv nv rv M O X (us ++ [u]) vs (L ++ [l]) N S row f m ov → K lv' H') : AppP E (H.lay (.row 22 b [u])) 22 1 24 lv (slc H.next 0 1 1) K := by
  have k1 := k.ext (Grows.lay H (.row 22 b [u]))
  have hs1 := hs.ext (Grows.lay H (.row 22 b [u]))
  have hu1 := hu.ext (Grows.lay H (.row 22 b [u]))
  refine AppP.cellsF k1.l k1.gr (elemsC_one hu.oneCell) (by omega) (by omega) (by omega) ?_
  intro v' H' hb' hg' hkeep ⟨r', er, hr'⟩
  have x := Kx.builtC k1.l hkeep
  have hv : ∀ r, ad v' = some r → (H.lay (.row 22 b [u])).next ≤ r ∧ r < H'.next := fun r e => ⟨by rw [er] at e; cases e; exact hr', (hb'.ad_lt r e).2⟩
  have hnx : (H.lay (.row 22 b [u])).next ≤ H'.next := by have := hv r' (by rw [er]; rfl); omega
  have aS := k1.sep.ap 0 1 _ _ (by decide) rfl rfl
  have an := k1.sep.ap 0 2 _ _ (by decide) rfl rfl
  have ar := k1.sep.ap 0 3 _ _ (by decide) rfl rfl
  have aM := k1.sep.ap 0 4 _ _ (by decide) rfl rfl
  have aO := k1.sep.ap 0 5 _ _ (by decide) rfl rfl
  have ae := fun x hx => hs1.ape lv (by simp) x hx
  refine q _ _ ⟨hg', by rw [List.length_append]; exact hb', (k1.le.kx x fun w hw => ae w (by simp [hw])).add (hu1.kx x (ae u (by simp))), k1.s.kx x aS, k1.n.kx x an, k1.ne.kx x (fun w hw => ae w (by simp [hw])), k1.r.kx x ar, map_kx k1.m x aM, ap_at (a := none) x k1.o aO, k.hM, k.hO, ?_⟩
  exact (hs1.move hnx 0 hv).sub fun w hw => by simp at hw ⊢; rcases hw with h | h | h <;> simp [h]
theorem RRI.s_app {z : Int} {b : Bool} {K : Value → Hp → Prop} (k : RRI hb H lv sv nv rv M O X us vs L N S row f m ov) (hl : S.length ≤ 1000000)
    (q : ∀ sv' H', RRI hb H' lv sv' nv rv M O X us vs L N (S ++ [z]) row f m ov → K sv' H') : AppP E (H.lay (.row 3 b [int z])) 3 1 8 sv (slc H.next 0 1 1) K := by
  have k1 := k.ext (Grows.lay H (.row 3 b [int z]))
  refine AppP.cellsF k1.s k1.gr (elemsC_one (u := int z) rfl) (by omega) (by omega) (by omega) ?_
  intro v' H' hb' hg' hkeep ⟨r', er, hr'⟩
  have x := Kx.builtC k1.s hkeep
  have hv : ∀ r, ad v' = some r → (H.lay (.row 3 b [int z])).next ≤ r ∧ r < H'.next := fun r e => ⟨by rw [er] at e; cases e; exact hr', (hb'.ad_lt r e).2⟩
  have hnx : (H.lay (.row 3 b [int z])).next ≤ H'.next := by have := hv r' (by rw [er]; rfl); omega
  have al := k1.sep.ap 1 0 _ _ (by decide) rfl rfl
  have an := k1.sep.ap 1 2 _ _ (by decide) rfl rfl
  have ar := k1.sep.ap 1 3 _ _ (by decide) rfl rfl
  have aM := k1.sep.ap 1 4 _ _ (by decide) rfl rfl
  have aO := k1.sep.ap 1 5 _ _ (by decide) rfl rfl
  have ae := fun x hx => k1.sep.ape sv (by simp) x hx
  refine q _ _ ⟨hg', k1.l.kx x al, k1.le.kx x (fun w hw => ae w (by simp [hw])), by rw [List.length_append, List.map_append]; exact hb', k1.n.kx x an, k1.ne.kx x (fun w hw => ae w (by simp [hw])), k1.r.kx x ar, map_kx k1.m x aM, ap_at (a := none) x k1.o aO, k.hM, k.hO, k1.sep.move hnx 1 hv⟩
theorem RRI.r_app {z : Int} {b : Bool} {K : Value → Hp → Prop} (k : RRI hb H lv sv nv rv M O X us vs L N S row f m ov) (hl : row.length ≤ 1000000)
    (q : ∀ rv' H', RRI hb H' lv sv nv rv' M O X us vs L N S (row ++ [z]) f m ov → K rv' H') : AppP E (H.lay (.row 3 b [int z])) 3 1 8 rv (slc H.next 0 1 1) K := by
  have k1 := k.ext (Grows.lay H (.row 3 b [int z]))
  refine AppP.cellsF k1.r k1.gr (elemsC_one (u := int z) rfl) (by omega) (by omega) (by omega) ?_
  intro v' H' hb' hg' hkeep ⟨r', er, hr'⟩
  have x := Kx.builtC k1.r hkeep
  have hv : ∀ r, ad v' = some r → (H.lay (.row 3 b [int z])).next ≤ r ∧ r < H'.next := fun r e => ⟨by rw [er] at e; cases e; exact hr', (hb'.ad_lt r e).2⟩
  have hnx : (H.lay (.row 3 b [int z])).next ≤ H'.next := by have := hv r' (by rw [er]; rfl); omega
  have al := k1.sep.ap 3 0 _ _ (by decide) rfl rfl
  have aS := k1.sep.ap 3 1 _ _ (by decide) rfl rfl
  have an := k1.sep.ap 3 2 _ _ (by decide) rfl rfl
  have aM := k1.sep.ap 3 4 _ _ (by decide) rfl rfl
  have aO := k1.sep.ap 3 5 _ _ (by decide) rfl rfl
  have ae := fun x hx => k1.sep.ape rv (by simp) x hx
  refine q _ _ ⟨hg', k1.l.kx x al, k1.le.kx x (fun w hw => ae w (by simp [hw])), k1.s.kx x aS, k1.n.kx x an, k1.ne.kx x (fun w hw => ae w (by simp [hw])), by rw [List.length_append, List.map_append]; exact hb', map_kx k1.m x aM, ap_at (a := none) x k1.o aO, k.hM, k.hO, k1.sep.move hnx 3 hv⟩
/-- The row is done and becomes one of the rows. -/
theorem RRI.n_app {b : Bool} {K : Value → Hp → Prop} (k : RRI hb H lv sv nv rv M O X us vs L N S row f m ov) (hl : vs.length ≤ 1000000)
    (q : ∀ nv' H', RRI hb H' lv sv nv' nilS M O X us (vs ++ [rv]) L (N ++ [row]) S [] f m ov → K nv' H') : AppP E (H.lay (.row 22 b [rv])) 22 1 24 nv (slc H.next 0 1 1) K := by
  have k1 := k.ext (Grows.lay H (.row 22 b [rv]))
  have hs1 := k1.sep.fix 3 rfl
  have hu1 := k1.r.view
  refine AppP.cellsF k1.n k1.gr (elemsC_one k.r.view.oneCell) (by omega) (by omega) (by omega) ?_
  intro v' H' hb' hg' hkeep ⟨r', er, hr'⟩
  have x := Kx.builtC k1.n hkeep
  have hv : ∀ r, ad v' = some r → (H.lay (.row 22 b [rv])).next ≤ r ∧ r < H'.next := fun r e => ⟨by rw [er] at e; cases e; exact hr', (hb'.ad_lt r e).2⟩
  have hnx : (H.lay (.row 22 b [rv])).next ≤ H'.next := by have := hv r' (by rw [er]; rfl); omega
  have al := k1.sep.ap 2 0 _ _ (by decide) rfl rfl
  have aS := k1.sep.ap 2 1 _ _ (by decide) rfl rfl
  have ar := k1.sep.ap 2 3 _ _ (by decide) rfl rfl
  have aM := k1.sep.ap 2 4 _ _ (by decide) rfl rfl
  have aO := k1.sep.ap 2 5 _ _ (by decide) rfl rfl
  have ae := fun x hx => k1.sep.ape nv (by simp) x hx
  refine q _ _ ⟨hg', k1.l.kx x al, k1.le.kx x (fun w hw => ae w (by simp [hw])), k1.s.kx x aS, by rw [List.length_append]; exact hb', (k1.ne.kx x fun w hw => ae w (by simp [hw])).add (hu1.kx x ar), BuiltC.nil, map_kx k1.m x aM, ap_at (a := none) x k1.o aO, k.hM, k.hO, ?_⟩
  exact (hs1.move hnx 2 hv).sub fun w hw => by simp at hw ⊢; rcases hw with h | h | h <;> simp [h]
/-- The map has changed. -/
theorem RRI.mapped {H' : Hp} {f' : Int → Option Value} {m' : Nat} (k : RRI hb H lv sv nv rv M O X us vs L N S row f m ov) (y : Keeps M H H') (hm : MapAt H' M encI f' m') : RRI hb H' lv sv nv rv M O X us vs L N S row f' m' ov := by
  have x : Kx (ad (slc M 0 0 0)) H H' := Kx.keeps y
  have ae := fun x hx => k.sep.ape (slc M 0 0 0) (by simp) x hx
  exact ⟨y.grows k.gr k.hM, k.l.kx x (k.sep.ap 4 0 _ _ (by decide) rfl rfl), k.le.kx x (fun w hw => ae w (by simp [hw])), k.s.kx x (k.sep.ap 4 1 _ _ (by decide) rfl rfl), k.n.kx x (k.sep.ap 4 2 _ _ (by decide) rfl rfl), k.ne.kx x (fun w hw => ae w (by simp [hw])), k.r.kx x (k.sep.ap 4 3 _ _ (by decide) rfl rfl), hm, ap_at (a := none) x k.o (k.sep.ap 4 5 _ _ (by decide) rfl rfl), k.hM, k.hO, k.sep.next (by rw [y.next]; exact Nat.le_refl _)⟩
/-- The result's rows are stored. -/
theorem RRI.put (k : RRI hb H lv sv nv rv M O X us vs L N S row f m ov) : storeAt H O 2 [nv] = some (H.set O (.row 64 true [nilS, nilS, nv])) ∧ RRI hb (H.set O (.row 64 true [nilS, nilS, nv])) lv sv nv rv M O X us vs L N S row f m nv := by
  have x : Kx (ad (slc O 0 0 0)) H (H.set O (.row 64 true [nilS, nilS, nv])) := Kx.set _ _ _
  have ae := fun x hx => k.sep.ape (slc O 0 0 0) (by simp) x hx
  have hlt := Hp.lt_of_at k.o
  obtain ⟨an, en, -⟩ := k.n.slice
  refine ⟨storeAt_row k.o (by simp) (by rw [en]; rfl), ⟨k.gr.then_set _ k.hO, k.l.kx x (k.sep.ap 5 0 _ _ (by decide) rfl rfl), k.le.kx x (fun w hw => ae w (by simp [hw])), k.s.kx x (k.sep.ap 5 1 _ _ (by decide) rfl rfl), k.n.kx x (k.sep.ap 5 2 _ _ (by decide) rfl rfl), k.ne.kx x (fun w hw => ae w (by simp [hw])), k.r.kx x (k.sep.ap 5 3 _ _ (by decide) rfl rfl), map_kx k.m x (k.sep.ap 5 4 _ _ (by decide) rfl rfl), Hp.at_set_self _ hlt, k.hM, k.hO, k.sep.next (Nat.le_refl _)⟩⟩
/-- The result is put together. -/
theorem RRI.fin {h : Hp} {cs : List Value} (k : RRI hb H lv sv nv rv M O X us vs L N S row f m nv) (hx : H.at X = some (.row 64 true cs)) (hc : cs.length = 3) (hn : h.next ≤ X) (hg : Grows h H) (hO : h.next ≤ O) : ∃ H1 H2 H3, storeAt H O 0 [lv] = some H1 ∧ storeAt H1 O 1 [sv] = some H2 ∧ cellsAt H2 O 0 3 = some [lv, sv, nv] ∧ storeAt H2 X 0 [lv, sv, nv] = some H3 ∧ H3.at X = some (.row 64 true [lv, sv, nv]) ∧ Grows h H3 ∧ BuiltC hb H3 22 1 lv us.length us ∧ EL H3 us L ∧ BuiltC hb H3 3 1 sv S.length (S.map int) ∧ BuiltC hb H3 22 1 nv vs.length vs ∧ EL H3 vs N := by
  obtain ⟨al, el, -⟩ := k.l.slice
  obtain ⟨as_, es, -⟩ := k.s.slice
  obtain ⟨an, en, -⟩ := k.n.slice
  have o1 : oneCell lv = true := by rw [el]; rfl
  have o2 : oneCell sv = true := by rw [es]; rfl
  have o3 : oneCell nv = true := by rw [en]; rfl
  have hlt := Hp.lt_of_at k.o
  have hltX := Hp.lt_of_at hx
  have aOX := k.sep.ap 5 6 _ _ (by decide) rfl rfl
  have ne : O ≠ X := fun e => aOX O rfl (by rw [e]; rfl)
  have e1 := storeAt_row k.o (o := 0) (v := lv) (by simp) o1
  have at1 : (H.set O (.row 64 true ([nilS, nilS, nv].set 0 lv))).at O = some (.row 64 true [lv, nilS, nv]) := Hp.at_set_self _ hlt
  have e2 := storeAt_row at1 (o := 1) (v := sv) (by simp) o2
  have at2 : ((H.set O (.row 64 true ([nilS, nilS, nv].set 0 lv))).set O (.row 64 true ([lv, nilS, nv].set 1 sv))).at O = some (.row 64 true [lv, sv, nv]) := Hp.at_set_self _ hlt
  have atX : ((H.set O (.row 64 true ([nilS, nilS, nv].set 0 lv))).set O (.row 64 true ([lv, nilS, nv].set 1 sv))).at X = some (.row 64 true cs) := by rw [Hp.at_set_ne _ (fun e => ne e.symm), Hp.at_set_ne _ (fun e => ne e.symm)]; exact hx
  match cs, hc with
  | [c1, c2, c3], _ =>
  have e3 := storeAt_full atX (vs := [lv, sv, nv]) rfl (by simp [o1, o2, o3]) rfl
  have x1 : Kx (ad (slc O 0 0 0)) H ((H.set O (.row 64 true ([nilS, nilS, nv].set 0 lv))).set O (.row 64 true ([lv, nilS, nv].set 1 sv))) := (Kx.set _ _ _).trans (Kx.set _ _ _)
  have x2 : Kx (ad (slc X 0 0 0)) ((H.set O (.row 64 true ([nilS, nilS, nv].set 0 lv))).set O (.row 64 true ([lv, nilS, nv].set 1 sv))) (((H.set O (.row 64 true ([nilS, nilS, nv].set 0 lv))).set O (.row 64 true ([lv, nilS, nv].set 1 sv))).set X (.row 64 true [lv, sv, nv])) := Kx.set _ _ _
  have aO := fun x hx => k.sep.ape (slc O 0 0 0) (by simp) x hx
  have aX := fun x hx => k.sep.ape (slc X 0 0 0) (by simp) x hx
  refine ⟨_, _, _, e1, e2, all_cells at2 rfl, e3, Hp.at_set_self _ hltX, ((hg.then_set _ hO).then_set _ hO).then_set _ hn, ?_, ?_, ?_, ?_, ?_⟩
  · exact (k.l.kx x1 (k.sep.ap 5 0 _ _ (by decide) rfl rfl)).kx x2 (k.sep.ap 6 0 _ _ (by decide) rfl rfl)
  · exact (k.le.kx x1 (fun w hw => aO w (by simp [hw]))).kx x2 (fun w hw => aX w (by simp [hw]))
  · exact (k.s.kx x1 (k.sep.ap 5 1 _ _ (by decide) rfl rfl)).kx x2 (k.sep.ap 6 1 _ _ (by decide) rfl rfl)
  · exact (k.n.kx x1 (k.sep.ap 5 2 _ _ (by decide) rfl rfl)).kx x2 (k.sep.ap 6 2 _ _ (by decide) rfl rfl)
  · exact (k.ne.kx x1 (fun w hw => aO w (by simp [hw]))).kx x2 (fun w hw => aX w (by simp [hw]))
end
end Go.Proofs.Ytpiplaicnbapbaa
namespace Go.Proofs.Ytpiplaicnbapbaa
open Go.Rx Go.RowKit
theorem ty64 : ∃ i, E.ty 64 = some i ∧ i.agg = true ∧ i.size = 3 := by
  have hs : (tiOf Try.prog 64).isSome = true := by kernel_rfl
  refine ⟨(tiOf Try.prog 64).get hs, ty_get (by kernel_rfl) (Option.some_get hs).symm, ?_, ?_⟩
  · kernel_rfl
  · kernel_rfl
structure RS where
  lv : Value
  sv : Value
  nv : Value
  rv : Value
  us : List Value
  vs : List Value
  L : List (List Int)
  N : List (List Int)
  S : List Int
  row : List Int
  f : Int → Option Value
  H : Hp
theorem EL.sl {h0 h : Hp} {e : TypeId} {v : Value} {us : List Value} {L : List (List Int)} (b : BuiltC h0 h e 1 v us.length us) (k : EL h us L) : SL h v L := by
  obtain ⟨hl, hb⟩ := b
  rcases hb with ⟨rfl, h0⟩ | ⟨r, rfl, _, x, hr⟩
  · exact ⟨none, 0, by rw [← k.1, h0], fun j hj => by have := k.1; omega⟩
  · refine ⟨some ⟨r, 0, none⟩, us.length, by rw [← k.1]; rfl, fun j hj => ?_⟩
    have hj' : j < us.length := by have := k.1; omega
    exact ⟨r, 0, none, us[j], rfl, rfl, cellAt_row hr (List.getElem?_eq_getElem hj'), k.2 j _ _ (List.getElem?_eq_getElem hj') (List.getElem?_eq_getElem hj)⟩
theorem SL.kx {h h' : Hp} {r : Nat} {v : Value} {L : List (List Int)} (k : SL h v L) (g : ∀ k o, k ≠ r → h.at k = some o → h'.at k = some o) : True := trivial
attribute [local irreducible] E idxN cellAt cellsAt storeAt callable helems hmoved lookIn findKey keyOk hentries Hp.at Hp.set Hp.lay arBits hupdated setAt CallP YieldP BoolOf IsWrap Rnd LoopP AppP CutP Int.tmod Int.tdiv Int.fdiv
section
variable [Unknowns]
attribute [local irreducible] ResP sameAt finP
theorem RReached_ok : RReachedOk := by
  intro v w p n c h hv hw hP en hc
  obtain ⟨bp, rfl, hbl, b0, -, -, ⟨a3, b3, k3⟩, -⟩ := hv.box
  obtain ⟨ac, cc, rfl⟩ := hw.known
  have hcl := hc.len
  have hn5 : n ≤ 5 := by have := hP.n5; omega
  have hn1 : 1 ≤ n := by have := hP.n1; omega
  have hrl := hP.rl
  have hRq : ∀ x ∈ p.rules, QIn n x := fun x hx => by
    obtain ⟨k, hk, e⟩ := List.getElem_of_mem hx
    have := hP.qin k hk
    rw [en] at this
    rw [← e]
    exact this
  obtain ⟨i122, t122, d122⟩ := ty122
  obtain ⟨i3, t3, _, z3⟩ := ty3
  have nine : ∀ {d : List Int}, CrOk n d → ∀ i, 0 ≤ gl d i ∧ gl d i ≤ 9 := fun hd i => ⟨hd.nn i, hd.le i⟩
  have g0 : Grows h ((h.lay (.row 26 true bp)).lay (.row 64 true [nilS, nilS, nilS])) := (Grows.lay _ _).then_lay _
  have aP : ((h.lay (.row 26 true bp)).lay (.row 64 true [nilS, nilS, nilS])).at h.next = some (.row 26 true bp) := Hp.at_lay_old _ (Hp.at_lay_self _ _)
  have hexX : ∃ X, (h.lay (.row 26 true bp)).next = X ∧ X = h.next + 1 := ⟨_, rfl, Hp.next_lay _ _⟩
  obtain ⟨X, eX, eX2⟩ := hexX
  have aX : ((h.lay (.row 26 true bp)).lay (.row 64 true [nilS, nilS, nilS])).at X = some (.row 64 true [nilS, nilS, nilS]) := by rw [← eX]; exact Hp.at_lay_self _ _
  have hexb : ∃ hb, (h.lay (.row 26 true bp)).lay (.row 64 true [nilS, nilS, nilS]) = hb ∧ hb.next = h.next + 2 := ⟨_, rfl, by rw [Hp.next_lay, Hp.next_lay]⟩
  obtain ⟨hb, ehb, nhb⟩ := hexb
  rw [ehb] at g0 aP aX
  have hwb := hw.ext g0
  refine enter39 (by simp) ?_
  conv => whnf
  refine SeqP.cut (α := Unit) (fun _ => [(4, ptr X 0), (2, ptr h.next 0), (1, .slice ac c.length cc)]) (fun _ H => hb = H) ?_ ?_
  · conv => whnf
    exact ⟨(), ⟨congrArg (fun k => ptr k 0) eX, rfl, rfl, trivial⟩, ehb.symm, rfl⟩
  rintro _ φ0 _ rfl
  conv => whnf
  refine SeqP.go ?_
  conv => whnf
  refine SeqP.go ?_
  conv => whnf
  refine CallP.mono (key_spec _ c _ (hwb.ext (((Grows.lay _ _).then_lay _).then_lay _)).ints (by omega) (nine hc)) ?_
  rintro r1 H1 ⟨rfl, rfl⟩
  conv => whnf
  refine raw_insert t122 d122 keyI (k := keyOf c) (v := int 0) (n := 0) rfl rfl rfl (MapAt.new _) ?_
  intro H4 hm4 y4
  conv => whnf
  refine SeqP.cut (α := Value × Value × Nat × Nat × (Int → Option Value) × Hp) (fun s => [(8, ptr s.2.2.2.1 0), (7, mapAt s.2.2.1), (6, s.2.1), (5, s.1), (4, ptr X 0), (2, ptr h.next 0)]) (fun s H => s.2.2.2.2.2 = H ∧ RRI hb H s.1 s.2.1 nilS nilS s.2.2.1 s.2.2.2.1 X [.slice ac c.length cc] [] [c] [] [0] [] s.2.2.2.2.1 1 nilS ∧ IxOf keyOf [c] s.2.2.2.2.1) ?_ ?_
  · conv => whnf
    refine ⟨(_, _, _, _, _, _), ⟨rfl, rfl, rfl, rfl, rfl, rfl, trivial⟩, ⟨rfl, RRI.start hwb y4 hm4 (by omega) (fun r e => by have := hw.ad_lt r e; omega), ?_⟩, rfl⟩
    have := IxOf.add (key := keyOf) (L := []) (f := fun _ => none) ⟨fun i hi => by simp at hi, fun k v e => by cases e⟩ (c := c) rfl
    exact this
  rintro ⟨lv0, sv0, M, O, f0, H0⟩ φ1 _ ⟨rfl, hi0, hx0⟩
  dsimp only at hi0 hx0 ⊢
  conv => whnf
  refine SeqP.cut (α := RS) (fun s => [(8, ptr O 0), (6, s.sv), (5, s.lv), (4, ptr X 0)]) (fun s H => s.H = H ∧ RRI hb s.H s.lv s.sv s.nv nilS M O X s.us s.vs s.L s.N s.S [] s.f s.L.length s.nv ∧ Gp p.rules n c s.L s.L.length ∧ St p.rules c s.L s.S s.L.length ∧ Nx p.rules s.L s.N ∧ s.N.length = s.L.length) ?_ ?_
  rotate_left
  · rintro ⟨lv, sv, nv, rv, us, vs, L, N, S, row, f, H⟩ φ9 _ ⟨rfl, hi, hg, hs, hn, hN⟩
    dsimp only at hi hg hs hn hN ⊢
    have hfin := hi.fin (h := h) (hi.gr.at_ _ _ aX) rfl (by omega) (g0.trans hi.gr) (by have := hi.hO; omega)
    obtain ⟨H1, H2, H3, e1, e2, e3, e4, e5, g3, q1, q2, q3, q4, q5⟩ := hfin
    have hk1 := hi.l.slice
    obtain ⟨al, rfl, -⟩ := hk1
    have hk2 := hi.s.slice
    obtain ⟨a_s, rfl, -⟩ := hk2
    have hk3 := hi.n.slice
    obtain ⟨an, rfl, -⟩ := hk3
    conv => whnf
    repeat (refine SeqP.go ?_; conv => whnf)
    refine ⟨rfl, _, e1, ?_⟩
    conv => whnf
    repeat (refine SeqP.go ?_; conv => whnf)
    refine ⟨rfl, _, e2, ?_⟩
    conv => whnf
    repeat (refine SeqP.go ?_; conv => whnf)
    refine ⟨_, e3, ?_⟩
    conv => whnf
    refine ⟨rfl, _, e4, ?_⟩
    conv => whnf
    repeat (refine SeqP.go ?_; conv => whnf)
    obtain ⟨i64_, h64, ha64, hs64⟩ := ty64
    refine leave_cell rfl h64 ha64 (by rw [hs64]; exact all_cells e5 rfl) ?_
    exact ⟨⟨_, L, N, rfl, ⟨rfl, rfl, ⟨_, rfl, EL.sl q1 q2⟩, ⟨_, rfl, EL.sl q4 q5⟩, hn.done hN hg.nodup (by omega), hg.done, hg.ok, crowds_few hn5 hg.ok hg.nodup, ⟨_, S, rfl, q3.view, hs⟩⟩⟩, g3⟩
  conv => whnf
  refine SeqP.go ?_
  conv => whnf
  refine loop_inv (α := Nat × RS) (fun s => [(9, int s.1), (8, ptr O 0), (7, mapAt M), (6, s.2.sv), (5, s.2.lv), (4, ptr X 0), (2, ptr h.next 0)]) (fun s => s.2.H) (fun s => RRI hb s.2.H s.2.lv s.2.sv s.2.nv nilS M O X s.2.us s.2.vs s.2.L s.2.N s.2.S [] s.2.f s.2.L.length s.2.nv ∧ Gp p.rules n c s.2.L s.1 ∧ St p.rules c s.2.L s.2.S s.1 ∧ Nx p.rules s.2.L s.2.N ∧ s.2.N.length = s.1 ∧ s.1 ≤ s.2.L.length ∧ IxOf keyOf s.2.L s.2.f) (fun s => 100000 - s.1) (0, ⟨lv0, sv0, nilS, nilS, [.slice ac c.length cc], [], [c], [], [0], [], f0, H0⟩) ⟨hi0, Gp.start hc, St.start, ⟨fun a d row _ e => by simp at e⟩, rfl, Nat.zero_le _, hx0⟩ ⟨rfl, rfl, rfl, rfl, rfl, rfl, rfl, trivial⟩ (Hp.Le.refl _) ?_
  rintro ⟨i, ⟨lv, sv, nv, rv, us, vs, L, N, S, row, f, H⟩⟩ φ2 ⟨hi, hg, hs, hn, hN, hil, hix⟩
  dsimp only at hi hg hs hn hN hil hix ⊢
  have hfew := crowds_few hn5 hg.ok hg.nodup
  have hul := hi.le.1
  have hk1 := hi.l.slice
  obtain ⟨al, rfl, -⟩ := hk1
  conv => whnf
  repeat (refine SeqP.go ?_; conv => whnf)
  refine cmpB (fun c1 => ?_) (fun c1 => ?_)
  rotate_left
  · have : i = L.length := by omega
    subst this
    have hk2 := hi.s.slice
    obtain ⟨a_s, rfl, -⟩ := hk2
    conv => whnf
    repeat (refine SeqP.go ?_; conv => whnf)
    exact ⟨⟨_, _, nv, nilS, us, vs, L, N, S, [], f, H⟩, ⟨rfl, rfl, rfl, rfl, trivial⟩, ⟨rfl, hi, hg, hs, hn, hN⟩, rfl⟩
  have hiL : i < L.length := by omega
  have hexd : ∃ d, L[i]? = some d := ⟨_, List.getElem?_eq_getElem hiL⟩
  obtain ⟨d, hd⟩ := hexd
  have hdm := List.mem_of_getElem? hd
  have hdok := hg.ok d hdm
  conv => whnf
  refine SeqP.cut (α := RS) (fun s => [(9, int i), (8, ptr O 0), (7, mapAt M), (6, s.sv), (5, s.lv), (4, ptr X 0), (2, ptr h.next 0)]) (fun s H => s.H = H ∧ RRI hb s.H s.lv s.sv s.nv nilS M O X s.us s.vs s.L s.N s.S [] s.f s.L.length s.nv ∧ Gp p.rules n c s.L (i + 1) ∧ St p.rules c s.L s.S (i + 1) ∧ Nx p.rules s.L s.N ∧ s.N.length = i + 1 ∧ i + 1 ≤ s.L.length ∧ IxOf keyOf s.L s.f) ?_ ?_
  rotate_left
  · rintro ⟨lv', sv', nv', rv', us', vs', L', N', S', row', f', H'⟩ φ3 _ ⟨rfl, k1, k2, k3, k4, k5, k6, k7⟩
    dsimp only at k1 k2 k3 k4 k5 k6 k7 ⊢
    conv => whnf
    refine ⟨((i + 1 : Nat) : Int), wie (by omega) (by omega), ?_⟩
    conv => whnf
    exact Rnd.mk (i + 1, ⟨lv', sv', nv', rv', us', vs', L', N', S', row', f', H'⟩) ⟨k1, k2, k3, k4, k5, k6, k7⟩ (by show 100000 - (i + 1) < 100000 - i; omega) ⟨rfl, rfl, rfl, rfl, rfl, rfl, rfl, trivial⟩ (Hp.Le.refl _) rfl
  conv => whnf
  refine SeqP.go ?_
  conv => whnf
  refine SeqP.cut (α := RS) (fun s => [(10, s.rv), (9, int i), (8, ptr O 0), (7, mapAt M), (6, s.sv), (5, s.lv), (4, ptr X 0), (2, ptr h.next 0)]) (fun s H => s.H = H ∧ RRI hb s.H s.lv s.sv s.nv s.rv M O X s.us s.vs s.L s.N s.S s.row s.f s.L.length s.nv ∧ Gp p.rules n c s.L i ∧ St p.rules c s.L s.S i ∧ Nx p.rules s.L s.N ∧ s.N.length = i ∧ s.L[i]? = some d ∧ RowOk p.rules s.L d p.rules.length s.row ∧ IxOf keyOf s.L s.f) ?_ ?_
  rotate_left
  · rintro ⟨lv', sv', nv', rv', us', vs', L', N', S', row', f', H'⟩ φ3 _ ⟨rfl, k1, k2, k3, k4, k5, k6, k7, k8⟩
    dsimp only at k1 k2 k3 k4 k5 k6 k7 k8 ⊢
    have hil' := (List.getElem?_eq_some_iff.1 k6).1
    have hfew' := crowds_few hn5 k2.ok k2.nodup
    have hvl := k1.ne.1
    have hk2 := k1.r.slice
    obtain ⟨ar, rfl, -⟩ := hk2
    have hk3 := k1.n.slice
    obtain ⟨an, rfl, -⟩ := hk3
    conv => whnf
    repeat (refine SeqP.go ?_; conv => whnf)
    refine ⟨_, cellAt_row k1.o rfl, ?_⟩
    conv => whnf
    repeat (refine SeqP.go ?_; conv => whnf)
    refine k1.n_app (by omega) ?_
    intro nv2 H2 k1'
    have hput := k1'.put
    have hk4 := k1'.n.slice
    obtain ⟨an2, rfl, -⟩ := hk4
    conv => whnf
    repeat (refine SeqP.go ?_; conv => whnf)
    refine ⟨rfl, _, hput.1, ?_⟩
    conv => whnf
    exact ⟨⟨lv', sv', _, nilS, us', _, L', _, S', [], f', _⟩, ⟨rfl, rfl, rfl, rfl, rfl, rfl, rfl, trivial⟩, ⟨rfl, hput.2, k2.turn k6 (fun k e he => k7.all he), k3.turn hil' k6 k7, k4.add (by rw [k5]; exact k6) k7, by show (N' ++ [row']).length = _; rw [List.length_append, k5]; rfl, hil', k8⟩, rfl⟩
  conv => whnf
  refine SeqP.go ?_
  conv => whnf
  refine loop_inv (α := Nat × RS) (fun s => [(11, int s.1), (10, s.2.rv), (9, int i), (8, ptr O 0), (7, mapAt M), (6, s.2.sv), (5, s.2.lv), (4, ptr X 0), (2, ptr h.next 0)]) (fun s => s.2.H) (fun s => RRI hb s.2.H s.2.lv s.2.sv s.2.nv s.2.rv M O X s.2.us s.2.vs s.2.L s.2.N s.2.S s.2.row s.2.f s.2.L.length s.2.nv ∧ Gp p.rules n c s.2.L i ∧ St p.rules c s.2.L s.2.S i ∧ Nx p.rules s.2.L s.2.N ∧ s.2.N.length = i ∧ s.2.L[i]? = some d ∧ RowOk p.rules s.2.L d s.1 s.2.row ∧ IxOf keyOf s.2.L s.2.f ∧ s.1 ≤ p.rules.length) (fun s => p.rules.length - s.1) (0, ⟨_, sv, nv, nilS, us, vs, L, N, S, [], f, H⟩) ⟨hi, hg, hs, hn, hN, hd, RowOk.start, hix, Nat.zero_le _⟩ ⟨rfl, rfl, rfl, rfl, rfl, rfl, rfl, rfl, rfl, trivial⟩ (Hp.Le.refl _) ?_
  clear hi hg hs hn hN hil hix hfew hul hd hdm c1 hiL
  rintro ⟨r, ⟨lv, sv, nv, rv, us, vs, L, N, S, row, f, H⟩⟩ φ4 ⟨hi, hg, hs, hn, hN, hd, hrow, hix, hr⟩
  dsimp only at hi hg hs hn hN hd hrow hix hr ⊢
  have hfew := crowds_few hn5 hg.ok hg.nodup
  have hul := hi.le.1
  have hiL := (List.getElem?_eq_some_iff.1 hd).1
  have hdm := List.mem_of_getElem? hd
  have haP := hi.gr.at_ _ _ aP
  conv => whnf
  repeat (refine SeqP.go ?_; conv => whnf)
  refine ⟨_, cellAt_row haP b3, ?_⟩
  conv => whnf
  repeat (refine SeqP.go ?_; conv => whnf)
  refine cmpB (fun c2 => ?_) (fun c2 => ?_)
  rotate_left
  · have : r = p.rules.length := by omega
    subst this
    conv => whnf
    repeat (refine SeqP.go ?_; conv => whnf)
    exact ⟨⟨lv, sv, nv, rv, us, vs, L, N, S, row, f, H⟩, ⟨rfl, rfl, rfl, rfl, rfl, rfl, rfl, rfl, trivial⟩, ⟨rfl, hi, hg, hs, hn, hN, hd, hrow, hix⟩, rfl⟩
  have hrl2 : r < p.rules.length := by omega
  conv => whnf
  refine SeqP.cut (α := RS) (fun s => [(11, int r), (10, s.rv), (9, int i), (8, ptr O 0), (7, mapAt M), (6, s.sv), (5, s.lv), (4, ptr X 0), (2, ptr h.next 0)]) (fun s H => s.H = H ∧ RRI hb s.H s.lv s.sv s.nv s.rv M O X s.us s.vs s.L s.N s.S s.row s.f s.L.length s.nv ∧ Gp p.rules n c s.L i ∧ St p.rules c s.L s.S i ∧ Nx p.rules s.L s.N ∧ s.N.length = i ∧ s.L[i]? = some d ∧ RowOk p.rules s.L d (r + 1) s.row ∧ IxOf keyOf s.L s.f) ?_ ?_
  rotate_left
  · rintro ⟨lv', sv', nv', rv', us', vs', L', N', S', row', f', H'⟩ φ3 _ ⟨rfl, k1, k2, k3, k4, k5, k6, k7, k8⟩
    dsimp only at k1 k2 k3 k4 k5 k6 k7 k8 ⊢
    conv => whnf
    refine ⟨((r + 1 : Nat) : Int), wie (by omega) (by omega), ?_⟩
    conv => whnf
    exact Rnd.mk (r + 1, ⟨lv', sv', nv', rv', us', vs', L', N', S', row', f', H'⟩) ⟨k1, k2, k3, k4, k5, k6, k7, k8, hrl2⟩ (by show _ - (r + 1) < _ - r; omega) ⟨rfl, rfl, rfl, rfl, rfl, rfl, rfl, rfl, rfl, trivial⟩ (Hp.Le.refl _) rfl
  have hexu := hi.le.at_ hd
  obtain ⟨u, hu, huv⟩ := hexu
  have hkl := hi.l.load hu
  obtain ⟨rl, rfl, hcl2⟩ := hkl
  have huk := huv.known
  obtain ⟨au, cu, rfl⟩ := huk
  conv => whnf
  refine SeqP.cut (α := Value × Bool × Hp) (fun s => [(13, .bool s.2.1), (12, s.1), (11, int r), (10, rv), (9, int i), (8, ptr O 0), (7, mapAt M), (6, sv), (5, slc rl 0 us.length us.length), (4, ptr X 0), (2, ptr h.next 0)]) (fun s H' => s.2.2 = H' ∧ Grows H s.2.2 ∧ (step p.rules d r = none → s.2.1 = false) ∧ (∀ e, step p.rules d r = some e → s.2.1 = true ∧ Built H s.2.2 3 s.1 e)) ?_ ?_
  · conv => whnf
    repeat (refine SeqP.go ?_; conv => whnf)
    refine ⟨bp, all_cells haP hbl, ?_⟩
    conv => whnf
    refine ⟨rfl, ⟨by omega, by omega⟩, ?_⟩
    conv => whnf
    refine ⟨_, hcl2, ?_⟩
    conv => whnf
    refine CallP.mono (RMeet_spec _ _ p d r n _ (hv.ext (g0.trans hi.gr)) huv hP en hdok) ?_
    rintro r5 H5 ⟨⟨wv, b, rfl, q1, q2⟩, g5⟩
    have hwk : ∃ a m q, wv = .slice a m q := by
      cases hs5 : step p.rules d r with
      | none => exact ⟨_, _, _, (q1 hs5).2⟩
      | some e =>
        obtain ⟨a, e2⟩ := (LV.of (q2 e hs5).2).known
        exact ⟨_, _, _, e2⟩
    obtain ⟨aw, mw, cw, rfl⟩ := hwk
    conv => whnf
    repeat (refine SeqP.go ?_; conv => whnf)
    exact ⟨(_, b, H5), ⟨rfl, rfl, rfl, rfl, rfl, rfl, rfl, rfl, rfl, rfl, rfl, trivial⟩, ⟨rfl, g5, fun e => (q1 e).1, q2⟩, rfl⟩
  rintro ⟨wv, b, H5⟩ φ5 _ ⟨rfl, g5, q1, q2⟩
  dsimp only at g5 q1 q2 ⊢
  have hi5 := hi.ext g5
  cases hst : step p.rules d r with
  | none =>
    have eb := q1 hst
    subst eb
    conv => whnf
    repeat (refine SeqP.go ?_; conv => whnf)
    exact ⟨⟨_, sv, nv, rv, us, vs, L, N, S, row, f, H5⟩, ⟨rfl, rfl, rfl, rfl, rfl, rfl, rfl, rfl, rfl, trivial⟩, ⟨rfl, hi5, hg, hs, hn, hN, hd, hrow.skip hst, hix⟩, rfl⟩
  | some e =>
  have q3 := q2 e hst
  obtain ⟨eb, hbe⟩ := q3
  subst eb
  have heok := step_ok hRq hdok hst
  have hel := heok.len
  have hwk := (LV.of hbe).known
  obtain ⟨aw, rfl⟩ := hwk
  conv => whnf
  refine SeqP.cut (α := Unit) (fun s => [(12, .slice aw e.length e.length), (11, int r), (10, rv), (9, int i), (8, ptr O 0), (7, mapAt M), (6, sv), (5, slc rl 0 us.length us.length), (4, ptr X 0), (2, ptr h.next 0)]) (fun s H' => H5 = H') ?_ ?_
  · conv => whnf
    repeat (refine SeqP.go ?_; conv => whnf)
    exact ⟨(), ⟨rfl, rfl, rfl, rfl, rfl, rfl, rfl, rfl, rfl, rfl, trivial⟩, rfl, rfl⟩
  rintro _ φ6 _ rfl
  have hsl := hs.len
  have hsi : (S.map int)[i]? = some (int (gl S i)) := by
    rw [List.getElem?_map, List.getElem?_eq_getElem (by omega), gl_at (by omega)]
    rfl
  have hks := hi.s.load hsi
  obtain ⟨rs, rfl, -⟩ := hks
  have hwe : View H5 (.slice aw e.length e.length) e := (hbe.c).view
  have hkb := keyOf_bd hn5 heok
  have inj : ∀ x ∈ L, keyOf x = keyOf e → x = e := fun x hx e2 => keyOf_inj (hg.ok x hx) heok e2
  conv => whnf
  refine SeqP.cut (α := Int × Bool) (fun s => [(15, .bool s.2), (14, int s.1), (12, .slice aw e.length e.length), (11, int r), (10, rv), (9, int i), (8, ptr O 0), (7, mapAt M), (6, slc rs 0 S.length S.length), (5, slc rl 0 us.length us.length), (4, ptr X 0), (2, ptr h.next 0)]) (fun s H' => H5 = H' ∧ (s.2 = false → f (keyOf e) = none) ∧ (s.2 = true → ∃ a : Nat, s.1 = a ∧ L[a]? = some e)) ?_ ?_
  · conv => whnf
    repeat (refine SeqP.go ?_; conv => whnf)
    refine CallP.mono (key_spec _ e _ hwe.ints (by omega) (nine heok)) ?_
    rintro r6 H6 ⟨rfl, rfl⟩
    conv => whnf
    cases hf : f (keyOf e) with
    | none =>
      refine raw_look2_none t122 d122 t3 z3 keyI (k := keyOf e) rfl rfl hi5.m hf ?_
      conv => whnf
      repeat (refine SeqP.go ?_; conv => whnf)
      exact ⟨(_, false), ⟨rfl, rfl, rfl, rfl, rfl, rfl, rfl, rfl, rfl, rfl, rfl, rfl, trivial⟩, ⟨rfl, fun _ => rfl, fun e2 => (by cases e2)⟩, rfl⟩
    | some x =>
      have hix2 := hix.some_iff inj hf
      obtain ⟨a, ha, e2, rfl⟩ := hix2
      refine raw_look2_some t122 d122 t3 z3 keyI (k := keyOf e) rfl rfl hi5.m hf ?_
      conv => whnf
      repeat (refine SeqP.go ?_; conv => whnf)
      exact ⟨(_, true), ⟨rfl, rfl, rfl, rfl, rfl, rfl, rfl, rfl, rfl, rfl, rfl, rfl, trivial⟩, ⟨rfl, fun e2 => (by cases e2), fun _ => ⟨a, rfl, by rw [List.getElem?_eq_getElem ha, e2]⟩⟩, rfl⟩
  rintro ⟨kv, b⟩ φ7 _ ⟨rfl, w1, w2⟩
  dsimp only at w1 w2 ⊢
  conv => whnf
  refine SeqP.cut (α := Nat × RS) (fun s => [(14, int s.1), (11, int r), (10, s.2.rv), (9, int i), (8, ptr O 0), (7, mapAt M), (6, s.2.sv), (5, s.2.lv), (4, ptr X 0), (2, ptr h.next 0)]) (fun s H => s.2.H = H ∧ RRI hb s.2.H s.2.lv s.2.sv s.2.nv s.2.rv M O X s.2.us s.2.vs s.2.L s.2.N s.2.S s.2.row s.2.f s.2.L.length s.2.nv ∧ Gp p.rules n c s.2.L i ∧ St p.rules c s.2.L s.2.S i ∧ Nx p.rules s.2.L s.2.N ∧ s.2.N.length = i ∧ s.2.L[i]? = some d ∧ RowOk p.rules s.2.L d r s.2.row ∧ IxOf keyOf s.2.L s.2.f ∧ s.2.L[s.1]? = some e) ?_ ?_
  rotate_left
  · rintro ⟨k, ⟨lv', sv', nv', rv', us', vs', L', N', S', row', f', H'⟩⟩ φ3 _ ⟨rfl, k1, k2, k3, k4, k5, k6, k7, k8, k9⟩
    dsimp only at k1 k2 k3 k4 k5 k6 k7 k8 k9 ⊢
    have hrf := k7.few
    conv => whnf
    repeat (refine SeqP.go ?_; conv => whnf)
    refine k1.r_app (by omega) ?_
    intro rv2 H2 k1'
    conv => whnf
    repeat (refine SeqP.go ?_; conv => whnf)
    exact ⟨⟨lv', sv', nv', rv2, us', vs', L', N', S', _, f', H2⟩, ⟨rfl, rfl, rfl, rfl, rfl, rfl, rfl, rfl, rfl, trivial⟩, ⟨rfl, k1', k2, k3, k4, k5, k6, k7.add hst k9, k8⟩, rfl⟩
  cases b with
  | true =>
    have w3 := w2 rfl
    obtain ⟨a, rfl, ha⟩ := w3
    conv => whnf
    repeat (refine SeqP.go ?_; conv => whnf)
    exact ⟨(a, ⟨_, _, nv, rv, us, vs, L, N, S, row, f, H5⟩), ⟨rfl, rfl, rfl, rfl, rfl, rfl, rfl, rfl, rfl, rfl, trivial⟩, ⟨rfl, hi5, hg, hs, hn, hN, hd, hrow, hix, ha⟩, rfl⟩
  | false =>
    have hf := w1 rfl
    have hnew : e ∉ L := hix.none_iff inj hf
    have hNl : N.length ≤ L.length := by omega
    have hsle := hs.le i (by omega)
    have hsg := hs.way i d hd
    obtain ⟨k0, ek0, -⟩ := hsg
    conv => whnf
    repeat (refine SeqP.go ?_; conv => whnf)
    refine CallP.mono (key_spec _ e _ hwe.ints (by omega) (nine heok)) ?_
    rintro r6 H6 ⟨rfl, rfl⟩
    conv => whnf
    refine raw_update t122 d122 keyI (k := keyOf e) (v := int us.length) rfl rfl rfl hi5.m ?_
    intro H6 hm6 y6
    rw [hf] at hm6
    have hi6 := hi5.mapped y6 hm6
    have hv6 : View H6 (.slice aw e.length e.length) e := hwe.kx (v := slc M 0 0 0) (Kx.keeps y6) (fun x e1 e2 => by
      cases e1
      have h1 := (hbe.ad_lt M e2).1
      have h2 := hi.sep.oldr (slc M 0 0 0) (by simp) M rfl
      omega)
    have hs6 := hi.sep.addE (h' := H6) (by rw [y6.next]; exact g5.next) (u := .slice aw e.length e.length) (fun x e2 => by
      have := hbe.ad_lt x e2
      rw [y6.next]
      exact this)
    conv => whnf
    repeat (refine SeqP.go ?_; conv => whnf)
    refine hi6.l_app hv6 hs6 (by omega) ?_
    intro lv7 H7 hi7
    have hl7 := hi7.s.load hsi
    obtain ⟨rs7, er7, hl7⟩ := hl7
    cases er7
    conv => whnf
    repeat (refine SeqP.go ?_; conv => whnf)
    refine ⟨rfl, ⟨by omega, by omega⟩, ?_⟩
    conv => whnf
    refine ⟨_, hl7, ?_⟩
    conv => whnf
    refine ⟨gl S i + 1, wid (by omega), ?_⟩
    conv => whnf
    refine hi7.s_app (by omega) ?_
    intro sv8 H8 hi8
    conv => whnf
    refine ⟨(us.length, ⟨lv7, sv8, nv, rv, us ++ [.slice aw e.length e.length], vs, L ++ [e], N, S ++ [gl S i + 1], row, (fun k' => if k' = keyOf e then some (int us.length) else f k'), H8⟩), ⟨rfl, rfl, rfl, rfl, rfl, rfl, rfl, rfl, rfl, rfl, trivial⟩, ⟨rfl, ?_, hg.add (by omega) hRq hdm hst hnew, hs.add hiL hd hst, hn.ext hNl _, hN, getE_snoc hd, hrow.ext _, ?_, ?_⟩, rfl⟩
    · show RRI hb H8 _ _ _ _ _ _ _ _ _ (L ++ [e]) _ _ _ _ (L ++ [e]).length _
      rw [List.length_append]
      exact hi8
    · rw [hul]
      exact hix.add hf
    · show (L ++ [e])[us.length]? = some e
      rw [hul, List.getElem?_append_right (Nat.le_refl _)]
      simp
end
end Go.Proofs.Ytpiplaicnbapbaa
namespace Go.Proofs.Ytpiplaicnbapbaa
open Go.Rx Go.RowKit
/-- What a meeting yields. -/
def mv (R : List Q4) (c5 : List Int) (i : Int) : List Value := [int i, cv (after c5 (R.getD i.toNat ⟨0, 0, 0, 0⟩))]
theorem sameV_yield (l : Nat) : sameV 4 (yieldVal l) (yieldVal l) = true := by simp [sameV, yieldVal, sameL]
attribute [local irreducible] E idxN cellAt cellsAt storeAt callable helems hmoved lookIn findKey keyOk hentries Hp.at Hp.set Hp.lay arBits hupdated setAt CallP YieldP BoolOf IsWrap Rnd LoopP AppP CutP Int.tmod Int.tdiv Int.fdiv
section
variable [Unknowns]
attribute [local irreducible] ResP sameAt
theorem meet_iter (P C l : Nat) (bp : List Value) (R : List Q4) (c5 : List Int) (hbase : Hp) (v3 : Value) (b3 : bp[3]? = some v3) (k3 : RV hbase v3 R) (hbl : bp.length = 4) (hrl : R.length ≤ 15) (hc5 : c5.length = 5) (hb : ∀ j, -100 ≤ gl c5 j ∧ gl c5 j ≤ 100) (hR : ∀ k, (hk : k < R.length) → QIn 5 R[k]) (I : Nat → List Nat → Hp → Prop) (S : Hp → Prop) (h : Hp) (ext : ExtI I) (hJ : ∀ k es h, I k es h → Grows hbase h ∧ h.at P = some (.row 25 true bp) ∧ h.at C = some (.row 107 true (c5.map int))) (h0 : I 0 [] h) (hit : IterE E l ((posN R c5 R.length).map (mv R c5)) I S) : CallP E 108 [yieldVal l, ptr P 0, ptr C 0] h (fun _ h' => I ((posN R c5 R.length).map (mv R c5)).length [] h' ∨ S h') := by
  have hJ0 := hJ 0 [] h h0
  obtain ⟨gb, aP, aC⟩ := hJ0
  have hkc := k3.cells
  obtain ⟨a3, rfl, hcells⟩ := hkc
  have hexi : ∃ idx, posN R c5 R.length = idx := ⟨_, rfl⟩
  obtain ⟨idx, ei⟩ := hexi
  have hmem := posN_mem R c5 R.length
  have hil := posN_len R c5 R.length
  rw [ei] at hmem hil hit ⊢
  have hlen : (idx.map (mv R c5)).length = idx.length := List.length_map _
  rw [hlen]
  have yld : ∀ (k : Nat) (es : List Nat) (hk : k < idx.length) (q : Q4) (h : Hp), R.getD idx[k].toNat ⟨0, 0, 0, 0⟩ = q → I k es h → YieldP E l [int idx[k], cv (after c5 q)] h fun v h' => (v = .bool true ∧ I (k + 1) es h' ∧ KE es h h') ∨ (v = .bool false ∧ S h') := by
    intro k es hk q h eq hI
    have := hit k es (by rw [hlen]; exact hk) h hI
    rw [List.getElem_map] at this
    rw [← eq]
    exact this
  refine enter108 (by simp) ?_
  conv => whnf
  refine SeqP.cut (α := Value × Hp) (fun s => [(12, int 0), (11, int idx.length), (10, s.1), (2, ptr C 0), (1, ptr P 0), (0, yieldVal l)]) (fun s H => s.2 = H ∧ Grows h s.2 ∧ Built h s.2 3 s.1 idx) ?_ ?_
  · conv => whnf
    refine ⟨_, cellAt_row aP b3, ?_⟩
    conv => whnf
    refine ⟨c5.map int, all_cells aC (by rw [List.length_map, hc5]), ?_⟩
    conv => whnf
    refine CallP.mono (possible_spec _ R c5 _ (k3.ext gb) hrl hc5 hR) ?_
    rintro r1 H1 ⟨⟨l', hbl', rfl⟩, g1⟩
    rw [ei] at hbl'
    have hkk := (LV.of hbl').known
    obtain ⟨aw, rfl⟩ := hkk
    conv => whnf
    exact ⟨(_, H1), ⟨rfl, rfl, rfl, rfl, rfl, rfl, trivial⟩, ⟨rfl, g1, hbl'⟩, rfl⟩
  rintro ⟨lv, H1⟩ φ1 _ ⟨rfl, g1, hbl1⟩
  dsimp only at g1 hbl1 ⊢
  have hds : ∃ ds : List Nat, (∀ d ∈ ds, h.next ≤ d ∧ d < H1.next) ∧ ∀ H, KE ds H1 H → Built h H 3 lv idx := by
    rcases id hbl1 with ⟨e1, e2⟩ | ⟨r, e1, e2, x, e3⟩
    · exact ⟨[], fun d hd => by simp at hd, fun H _ => .inl ⟨e1, e2⟩⟩
    · exact ⟨[r], fun d hd => by rw [List.mem_singleton.1 hd]; exact ⟨e2, Hp.lt_of_at e3⟩, fun H k => .inr ⟨r, e1, e2, x, k r (by simp) _ e3⟩⟩
  obtain ⟨ds, hd1, hd2⟩ := hds
  have h1 := ext.more 0 [] h H1 ds h0 g1 hd1
  conv => whnf
  refine loop_inv (α := Nat × Hp) (fun s => [(12, int s.1), (11, int idx.length), (10, lv), (2, ptr C 0), (1, ptr P 0), (0, yieldVal l)]) (fun s => s.2) (fun s => s.1 ≤ idx.length ∧ I s.1 (ds ++ []) s.2 ∧ KE ds H1 s.2) (fun s => idx.length - s.1) (0, H1) ⟨Nat.zero_le _, h1, KE.grows (Grows.refl _)⟩ ⟨rfl, rfl, rfl, rfl, rfl, rfl, trivial⟩ (Hp.Le.refl _) ?_
  rintro ⟨k, H⟩ φ2 ⟨hk, hI, hke⟩
  dsimp only at hk hI hke ⊢
  conv => whnf
  repeat (refine SeqP.go ?_; conv => whnf)
  refine cmpB (fun c1 => ?_) (fun c1 => ?_)
  rotate_left
  · have : k = idx.length := by omega
    subst this
    conv => whnf
    repeat (refine SeqP.go ?_; conv => whnf)
    exact .inl (ext.less _ _ _ _ hI)
  have hkl : k < idx.length := by omega
  have hexx : ∃ x, idx[k] = x := ⟨_, rfl⟩
  obtain ⟨x, ex⟩ := hexx
  have hxm := (hmem x).1 (by rw [← ex]; exact List.getElem_mem _)
  obtain ⟨xn, rfl, -, hxR, hall⟩ := hxm
  have hqi := hR xn hxR
  have hkg := hcells xn hxR
  obtain ⟨rr, ear, hkc⟩ := hkg
  subst ear
  have hgd : R.getD (idx[k]).toNat ⟨0, 0, 0, 0⟩ = R[xn] := by
    rw [ex, List.getD_eq_getElem?_getD]
    show (R[xn]?).getD _ = _
    rw [List.getElem?_eq_getElem hxR]; rfl
  have hexq : ∃ q, R[xn] = q := ⟨_, rfl⟩
  obtain ⟨q, eq⟩ := hexq
  rw [eq] at hkc hqi hall hgd
  have yk := fun es h => yld k es hkl q h hgd
  rw [ex] at yk
  have hb2 := (hd2 H hke).c
  have hld := hb2.load (j := k) (w := int xn) (by rw [List.getElem?_map, List.getElem?_eq_getElem hkl, ex]; rfl)
  obtain ⟨rl, rfl, hcl⟩ := hld
  have hJk := hJ _ _ _ hI
  obtain ⟨gbk, aPk, aCk⟩ := hJk
  have hkc2 := gbk.cells hkc
  have ld4 : cellsAt H rr (offAt 0 xn 4) 4 = some [int q.a, int q.b, int q.c, int q.d] := by rw [offAt_eq]; simpa using hkc2
  conv => whnf
  refine SeqP.go ?_
  conv => whnf
  refine SeqP.cut (α := Hp) (fun s => [(12, int k), (11, int idx.length), (10, slc rl 0 idx.length idx.length), (2, ptr C 0), (1, ptr P 0), (0, yieldVal l)]) (fun s H => s = H ∧ I (k + 1) (ds ++ []) s ∧ KE ds H1 s) ?_ ?_
  rotate_left
  · rintro H3 φ3 _ ⟨rfl, hI3, hk3⟩
    conv => whnf
    refine ⟨((k + 1 : Nat) : Int), wie (by omega) (by omega), ?_⟩
    conv => whnf
    exact Rnd.mk (k + 1, H3) ⟨by show k + 1 ≤ _; omega, hI3, hk3⟩ (by show _ - (k + 1) < _ - k; omega) ⟨rfl, rfl, rfl, rfl, rfl, rfl, trivial⟩ (Hp.Le.refl _) rfl
  conv => whnf
  repeat (refine SeqP.go ?_; conv => whnf)
  refine ⟨rfl, ⟨by omega, by omega⟩, ?_⟩
  conv => whnf
  refine ⟨_, hcl, ?_⟩
  conv => whnf
  repeat (refine SeqP.go ?_; conv => whnf)
  refine ⟨c5.map int, all_cells aCk (by rw [List.length_map, hc5]), ?_⟩
  conv => whnf
  refine ⟨_, cellAt_row aPk b3, ?_⟩
  conv => whnf
  refine ⟨rfl, ⟨by omega, by omega⟩, ?_⟩
  conv => whnf
  refine ⟨_, ld4, ?_⟩
  conv => whnf
  refine CallP.mono (after_spec c5 q _ hc5 hb hqi) ?_
  rintro r2 H2 ⟨rfl, g2⟩
  have hI2 := ext.more k _ H H2 [] hI g2 (fun d hd => by simp at hd)
  conv => whnf
  refine YieldP.mono (yk _ H2 hI2) ?_
  rintro v H3 (⟨rfl, hI3, hk3⟩ | ⟨rfl, hS⟩)
  · conv => whnf
    refine ⟨?_, ?_⟩
    · repeat' (first | exact True.intro | (refine And.intro ?_ ?_ <;> (conv => whnf)))
      all_goals first
        | exact sameAt_val (h2 := _) rfl (sameV_int _)
        | exact sameAt_val (h2 := _) rfl (sameV_yield l)
    conv => whnf
    repeat (refine SeqP.go ?_; conv => whnf)
    exact ⟨H3, ⟨rfl, rfl, rfl, rfl, rfl, rfl, trivial⟩, ⟨rfl, hI3, hke.trans ((KE.grows g2).trans fun d hd o e => hk3 d (by simp [hd]) o e)⟩, rfl⟩
  · conv => whnf
    refine ⟨?_, ?_⟩
    · repeat' (first | exact True.intro | (refine And.intro ?_ ?_ <;> (conv => whnf)))
      all_goals first
        | exact sameAt_val (h2 := _) rfl (sameV_int _)
        | exact sameAt_val (h2 := _) rfl (sameV_yield l)
    conv => whnf
    repeat (refine SeqP.go ?_; conv => whnf)
    exact .inr hS
end
section
variable [Unknowns]
attribute [local irreducible] ResP sameAt finP
theorem meetings_spec (bp : List Value) (c5 : List Int) (h : Hp) : CallP E 95 [.agg ⟨bp⟩, cv c5] h (fun r h' => r = .func (.func 108) ⟨[]⟩ ⟨[ptr h.next 0, ptr (h.next + 1) 0]⟩ ∧ h' = (h.lay (.row 25 true bp)).lay (.row 107 true (c5.map int))) := by
  unfold cv
  refine enter95 (by simp) ?_
  conv => whnf
  repeat (refine SeqP.go ?_; conv => whnf)
  have e : (h.lay (.row 25 true bp)).next = h.next + 1 := Hp.next_lay _ _
  exact finP_one rfl rfl ⟨congrArg (fun k => Value.func (.func 108) ⟨[]⟩ ⟨[ptr h.next 0, ptr k 0]⟩) e, rfl⟩
end
end Go.Proofs.Ytpiplaicnbapbaa
namespace Go.Proofs.Ytpiplaicnbapbaa
open Go.Rx Go.RowKit
abbrev pl (d : Nat) : Value := slc d 0 0 0
/-- Crowds in a row. -/
def flat5 : List (List Int) → List Value
  | [] => []
  | d :: L => (pad5 d).map int ++ flat5 L
theorem flat5_app : ∀ (L M : List (List Int)), flat5 (L ++ M) = flat5 L ++ flat5 M
  | [], M => rfl
  | d :: L, M => by show (pad5 d).map int ++ flat5 (L ++ M) = _; rw [flat5_app L M, ← List.append_assoc]; rfl
theorem flat5_len : ∀ (L : List (List Int)), (∀ d ∈ L, d.length ≤ 5) → (flat5 L).length = L.length * 5
  | [], _ => rfl
  | d :: L, h => by
    show ((pad5 d).map int ++ flat5 L).length = _
    rw [List.length_append, List.length_map, pad5_len (h d (by simp)), flat5_len L fun x hx => h x (by simp [hx]), List.length_cons]
    omega
theorem flat5_drop : ∀ (L : List (List Int)) (k : Nat) (h : k < L.length), (∀ d ∈ L, d.length ≤ 5) → ((flat5 L).drop (k * 5)).take 5 = (pad5 L[k]).map int
  | d :: L, 0, _, hd => by
    show (((pad5 d).map int ++ flat5 L).drop (0 * 5)).take 5 = (pad5 d).map int
    rw [Nat.zero_mul, List.drop_zero]
    have hl : ((pad5 d).map int).length = 5 := by rw [List.length_map, pad5_len (hd d (by simp))]
    rw [← hl, List.take_left]
  | d :: L, k + 1, h, hd => by
    have hk : k < L.length := by simpa using h
    show (((pad5 d).map int ++ flat5 L).drop ((k + 1) * 5)).take 5 = (pad5 (L[k]'hk)).map int
    have hl : ((pad5 d).map int).length = 5 := by rw [List.length_map, pad5_len (hd d (by simp))]
    rw [List.drop_append, hl, List.drop_eq_nil_of_le (by omega), List.nil_append, show (k + 1) * 5 - 5 = k * 5 by omega]
    exact flat5_drop L k hk fun x hx => hd x (by simp [hx])
def fnote (A6 Rr : Nat) : Value := .func (.func 94) ⟨[]⟩ ⟨[ptr A6 0, ptr Rr 0]⟩
/-- Memory while the program reaches crowds. -/
structure RPM (h H : Hp) (P X Rr A6 A7 M : Nat) (bp : List Value) (cs bv : Value) (us : List Value) (L B : List (List Int)) (f : K5 → Option Value) (m : Nat) (o1 o2 : Value) (es : List Nat) : Prop where
  gr : Grows h H
  p : H.at P = some (.row 25 true bp)
  x : H.at X = some (.row 104 true [nilS, nilS])
  r : H.at Rr = some (.row 104 true [o1, o2])
  a6 : H.at A6 = some (.row 137 true [mapAt M])
  a7 : H.at A7 = some (.row 121 true [fnote A6 Rr])
  m : MapAt H M enc5 f m
  c : BuiltC h H 107 5 cs L.length (flat5 L)
  b : BuiltC h H 22 1 bv us.length us
  bl : us.length = B.length
  be : ∀ (k : Nat) u l, us[k]? = some u → B[k]? = some l → Built h H 3 u l
  hR : h.next ≤ Rr
  hM : h.next ≤ M
  sep : Rx.Sep H (pl P :: pl X :: pl Rr :: pl A6 :: pl A7 :: pl M :: cs :: bv :: us) (es.map pl)
theorem map_kx5 {h h' : Hp} {M : Nat} {f : K5 → Option Value} {m : Nat} {v : Value} (k : MapAt h M enc5 f m) (x : Kx (ad v) h h') (a : Ap v (pl M)) : MapAt h' M enc5 f m := by
  obtain ⟨es, c, h1, h2, h3⟩ := k
  exact ⟨es, c, x.at_ h1 (fun e2 => a M e2 rfl), h2, h3⟩
section
variable {h H H' : Hp} {P X Rr A6 A7 M : Nat} {bp : List Value} {cs bv : Value} {us : List Value} {L B : List (List Int)} {f : K5 → Option Value} {m : Nat} {o1 o2 : Value} {es : List Nat}
theorem RPM.ext (k : RPM h H P X Rr A6 A7 M bp cs bv us L B f m o1 o2 es) (g : Grows H H') : RPM h H' P X Rr A6 A7 M bp cs bv us L B f m o1 o2 es :=
  ⟨k.gr.trans g, g.at_ _ _ k.p, g.at_ _ _ k.x, g.at_ _ _ k.r, g.at_ _ _ k.a6, g.at_ _ _ k.a7, k.m.ext g, k.c.ext g, k.b.ext g, k.bl, fun j u l h1 h2 => (k.be j u l h1 h2).ext g, k.hR, k.hM, k.sep.ext g⟩
/-- More is left alone: what has been laid since. -/
theorem RPM.more (k : RPM h H P X Rr A6 A7 M bp cs bv us L B f m o1 o2 es) (g : Grows H H') (ds : List Nat) (hd : ∀ d ∈ ds, H.next ≤ d ∧ d < H'.next) : RPM h H' P X Rr A6 A7 M bp cs bv us L B f m o1 o2 (ds ++ es) := by
  refine { k.ext g with sep := ?_ }
  have s := k.sep
  refine ⟨(k.ext g).sep.oldr, fun u hu r e => ?_, s.ap, fun v hv u hu => ?_⟩
  · rw [List.map_append] at hu
    rcases List.mem_append.1 hu with hu | hu
    · obtain ⟨d, h1, rfl⟩ := List.mem_map.1 hu
      cases e
      exact (hd _ h1).2
    · exact (k.ext g).sep.olde u hu r e
  · rw [List.map_append] at hu
    rcases List.mem_append.1 hu with hu | hu
    · obtain ⟨d, h1, rfl⟩ := List.mem_map.1 hu
      intro r e1 e2
      cases e2
      have := s.oldr v hv _ e1
      have := hd _ h1
      omega
    · exact s.ape v hv u hu
theorem RPM.less (k : RPM h H P X Rr A6 A7 M bp cs bv us L B f m o1 o2 es) {es' : List Nat} (s : ∀ d ∈ es', d ∈ es) : RPM h H P X Rr A6 A7 M bp cs bv us L B f m o1 o2 es' := by
  refine { k with sep := k.sep.sub fun u hu => ?_ }
  obtain ⟨d, h1, rfl⟩ := List.mem_map.1 hu
  exact List.mem_map.2 ⟨d, s d h1, rfl⟩
theorem RPM.ke (k : RPM h H P X Rr A6 A7 M bp cs bv us L B f m o1 o2 es) {v : Value} (hv : v ∈ (pl P :: pl X :: pl Rr :: pl A6 :: pl A7 :: pl M :: cs :: bv :: us)) (x : Kx (ad v) H H') : KE es H H' :=
  KE.kx x fun d hd e => k.sep.ape v hv (pl d) (List.mem_map.2 ⟨d, hd, rfl⟩) d e rfl
/-- An object that is none of its own has changed. -/
theorem RPM.other (k : RPM h H P X Rr A6 A7 M bp cs bv us L B f m o1 o2 es) {d : Nat} (hd : d ∈ es) (x : Kx (some d) H H') (g : Grows h H') (hn : H.next ≤ H'.next) : RPM h H' P X Rr A6 A7 M bp cs bv us L B f m o1 o2 es := by
  have x : Kx (ad (pl d)) H H' := x
  have a : ∀ v ∈ (pl P :: pl X :: pl Rr :: pl A6 :: pl A7 :: pl M :: cs :: bv :: us), Ap (pl d) v := fun v hv => (k.sep.ape v hv (pl d) (List.mem_map.2 ⟨d, hd, rfl⟩)).symm
  exact ⟨g, ap_at (a := none) x k.p (a _ (by simp)), ap_at (a := none) x k.x (a _ (by simp)), ap_at (a := none) x k.r (a _ (by simp)), ap_at (a := none) x k.a6 (a _ (by simp)), ap_at (a := none) x k.a7 (a _ (by simp)), map_kx5 k.m x (a _ (by simp)), k.c.kx x (a _ (by simp)), k.b.kx x (a _ (by simp)), k.bl, fun j u l h1 h2 => (k.be j u l h1 h2).kx x (a _ (by simp [List.mem_of_getElem? h1])), k.hR, k.hM, k.sep.next hn⟩
theorem us_ap {v : Value} {i : Nat} {rs es : List Value} (s : Rx.Sep H (pl P :: pl X :: pl Rr :: pl A6 :: pl A7 :: pl M :: cs :: bv :: us) es) (hi : (pl P :: pl X :: pl Rr :: pl A6 :: pl A7 :: pl M :: cs :: bv :: us)[i]? = some v) (h8 : i < 8) {j : Nat} {u : Value} (hu : us[j]? = some u) : Ap v u :=
  s.ap i (j + 8) v u (by omega) hi (by simpa using hu)
theorem RPM.mapped {f' : K5 → Option Value} {m' : Nat} (k : RPM h H P X Rr A6 A7 M bp cs bv us L B f m o1 o2 es) (y : Keeps M H H') (hm : MapAt H' M enc5 f' m') : RPM h H' P X Rr A6 A7 M bp cs bv us L B f' m' o1 o2 es := by
  have x : Kx (ad (pl M)) H H' := Kx.keeps y
  have a := fun j v hj hv => k.sep.ap 5 j (pl M) v hj rfl hv
  exact ⟨y.grows k.gr k.hM, ap_at (a := none) x k.p (a 0 _ (by decide) rfl), ap_at (a := none) x k.x (a 1 _ (by decide) rfl), ap_at (a := none) x k.r (a 2 _ (by decide) rfl), ap_at (a := none) x k.a6 (a 3 _ (by decide) rfl), ap_at (a := none) x k.a7 (a 4 _ (by decide) rfl), hm, k.c.kx x (a 6 _ (by decide) rfl), k.b.kx x (a 7 _ (by decide) rfl), k.bl, fun j u l h1 h2 => (k.be j u l h1 h2).kx x (us_ap (rs := []) k.sep (i := 5) rfl (by decide) h1), k.hR, k.hM, k.sep.next (by rw [y.next]; exact Nat.le_refl _)⟩
/-- The struct's fields are stored. -/
theorem RPM.put (k : RPM h H P X Rr A6 A7 M bp cs bv us L B f m o1 o2 es) (o1' o2' : Value) : RPM h (H.set Rr (.row 104 true [o1', o2'])) P X Rr A6 A7 M bp cs bv us L B f m o1' o2' es := by
  have x : Kx (ad (pl Rr)) H (H.set Rr (.row 104 true [o1', o2'])) := Kx.set _ _ _
  have a := fun j v hj hv => k.sep.ap 2 j (pl Rr) v hj rfl hv
  exact ⟨k.gr.then_set _ k.hR, ap_at (a := none) x k.p (a 0 _ (by decide) rfl), ap_at (a := none) x k.x (a 1 _ (by decide) rfl), Hp.at_set_self _ (Hp.lt_of_at k.r), ap_at (a := none) x k.a6 (a 3 _ (by decide) rfl), ap_at (a := none) x k.a7 (a 4 _ (by decide) rfl), map_kx5 k.m x (a 5 _ (by decide) rfl), k.c.kx x (a 6 _ (by decide) rfl), k.b.kx x (a 7 _ (by decide) rfl), k.bl, fun j u l h1 h2 => (k.be j u l h1 h2).kx x (us_ap (rs := []) k.sep (i := 2) rfl (by decide) h1), k.hR, k.hM, k.sep.next (Nat.le_refl _)⟩
theorem RPM.c_app {d : List Int} {b : Bool} {K : Value → Hp → Prop} (k : RPM h H P X Rr A6 A7 M bp cs bv us L B f m o1 o2 es) (hd : d.length ≤ 5) (hl : L.length ≤ 1000000)
    (q : ∀ cs' H', RPM h H' P X Rr A6 A7 M bp cs' bv us (L ++ [d]) B f m o1 o2 es → KE es H H' → K cs' H') : AppP E (H.lay (.row 107 b ((pad5 d).map int))) 107 5 40 cs (slc H.next 0 1 1) K := by
  have k1 := k.ext (Grows.lay H (.row 107 b ((pad5 d).map int)))
  have hp : ((pad5 d).map int).length = 5 := by rw [List.length_map, pad5_len hd]
  refine AppP.cellsF k1.c k1.gr (m := 1) (new := (pad5 d).map int) ⟨rfl, ?_, by rw [hp], ints_one _⟩ (by omega) (by omega) (by omega) ?_
  · show cellsAt (H.lay (.row 107 b ((pad5 d).map int))) H.next 0 (1 * 5) = _
    exact all_cells (Hp.at_lay_self _ _) hp
  intro v' H' hb' hg' hkeep ⟨r', er, hr'⟩
  have x := Kx.builtC k1.c hkeep
  have hv : ∀ r, ad v' = some r → (H.lay (.row 107 b ((pad5 d).map int))).next ≤ r ∧ r < H'.next := fun r e => ⟨by rw [er] at e; cases e; exact hr', (hb'.ad_lt r e).2⟩
  have hnx : (H.lay (.row 107 b ((pad5 d).map int))).next ≤ H'.next := by have := hv r' (by rw [er]; rfl); omega
  have a := fun j v hj hv => k1.sep.ap 6 j cs v hj rfl hv
  refine q _ _ ⟨hg', ap_at (a := none) x k1.p (a 0 _ (by decide) rfl), ap_at (a := none) x k1.x (a 1 _ (by decide) rfl), ap_at (a := none) x k1.r (a 2 _ (by decide) rfl), ap_at (a := none) x k1.a6 (a 3 _ (by decide) rfl), ap_at (a := none) x k1.a7 (a 4 _ (by decide) rfl), map_kx5 k1.m x (a 5 _ (by decide) rfl), ?_, k1.b.kx x (a 7 _ (by decide) rfl), k1.bl, fun j u l h1 h2 => (k1.be j u l h1 h2).kx x (us_ap (rs := []) k1.sep (i := 6) rfl (by decide) h1), k.hR, k.hM, k1.sep.move hnx 6 hv⟩ ((KE.grows (Grows.lay _ _)).trans (k1.ke (by simp) x))
  rw [List.length_append, flat5_app]
  show BuiltC _ _ _ _ _ _ (flat5 L ++ ((pad5 d).map int ++ []))
  rw [List.append_nil]
  exact hb'
theorem RPM.c_app' {d : List Int} {new : List Value} {b : Bool} {K : Value → Hp → Prop} (k : RPM h H P X Rr A6 A7 M bp cs bv us L B f m o1 o2 es) (hd : d.length ≤ 5) (hl : L.length ≤ 1000000) (ep : (pad5 d).map int = new)
    (q : ∀ cs' H', RPM h H' P X Rr A6 A7 M bp cs' bv us (L ++ [d]) B f m o1 o2 es → KE es H H' → K cs' H') : AppP E (H.lay (.row 107 b new)) 107 5 40 cs (slc H.next 0 1 1) K := by
  subst ep
  exact k.c_app hd hl q
theorem pad5_five {d : List Int} (h : d.length ≤ 5) : ∃ a b c e g : Int, (pad5 d).map int = [int a, int b, int c, int e, int g] := by
  have := pad5_len h
  match pad5 d, this with
  | [a, b, c, e, g], _ => exact ⟨a, b, c, e, g, rfl⟩
theorem RPM.b_app {b : Bool} {K : Value → Hp → Prop} (k : RPM h H P X Rr A6 A7 M bp cs bv us L B f m o1 o2 es) (hl : us.length ≤ 1000000)
    (q : ∀ bv' H', RPM h H' P X Rr A6 A7 M bp cs bv' (us ++ [nilS]) L (B ++ [[]]) f m o1 o2 es → KE es H H' → K bv' H') : AppP E (H.lay (.row 22 b [nilS])) 22 1 24 bv (slc H.next 0 1 1) K := by
  have k1 := k.ext (Grows.lay H (.row 22 b [nilS]))
  refine AppP.cellsF k1.b k1.gr (elemsC_one (u := nilS) rfl) (by omega) (by omega) (by omega) ?_
  intro v' H' hb' hg' hkeep ⟨r', er, hr'⟩
  have x := Kx.builtC k1.b hkeep
  have hv : ∀ r, ad v' = some r → (H.lay (.row 22 b [nilS])).next ≤ r ∧ r < H'.next := fun r e => ⟨by rw [er] at e; cases e; exact hr', (hb'.ad_lt r e).2⟩
  have hnx : (H.lay (.row 22 b [nilS])).next ≤ H'.next := by have := hv r' (by rw [er]; rfl); omega
  have a := fun j v hj hv => k1.sep.ap 7 j bv v hj rfl hv
  refine q _ _ ⟨hg', ap_at (a := none) x k1.p (a 0 _ (by decide) rfl), ap_at (a := none) x k1.x (a 1 _ (by decide) rfl), ap_at (a := none) x k1.r (a 2 _ (by decide) rfl), ap_at (a := none) x k1.a6 (a 3 _ (by decide) rfl), ap_at (a := none) x k1.a7 (a 4 _ (by decide) rfl), map_kx5 k1.m x (a 5 _ (by decide) rfl), k1.c.kx x (a 6 _ (by decide) rfl), by rw [List.length_append]; exact hb', by rw [List.length_append, List.length_append, k1.bl]; rfl, fun j u l h1 h2 => ?_, k.hR, k.hM, ?_⟩ ((KE.grows (Grows.lay _ _)).trans (k1.ke (by simp) x))
  · have hbl := k1.bl
    by_cases hj : j < us.length
    · rw [List.getElem?_append_left hj] at h1
      rw [List.getElem?_append_left (by omega)] at h2
      exact (k1.be j u l h1 h2).kx x (us_ap (rs := []) k1.sep (i := 7) rfl (by decide) h1)
    · have h3 := (List.getElem?_eq_some_iff.1 h1).1
      rw [List.length_append, List.length_singleton] at h3
      have : j = us.length := by omega
      subst this
      rw [List.getElem?_append_right (Nat.le_refl _)] at h1
      rw [hbl, List.getElem?_append_right (Nat.le_refl _)] at h2
      simp at h1 h2
      subst h1; subst h2
      exact .inl ⟨rfl, rfl⟩
  · exact (k1.sep.move hnx 7 hv).addR (Nat.le_refl _) (v' := nilS) (fun r e => by cases e)
theorem set_get {α : Type} {l : List α} {i j : Nat} {x y : α} (h : (l.set i x)[j]? = some y) : (j = i ∧ y = x) ∨ (j ≠ i ∧ l[j]? = some y) := by
  rw [List.getElem?_set] at h
  by_cases e : i = j
  · subst e
    rw [if_pos rfl] at h
    split at h
    · cases h; exact .inl ⟨rfl, rfl⟩
    · cases h
  · rw [if_neg e] at h
    exact .inr ⟨fun x => e x.symm, h⟩
/-- A number more in one of the rows: the row, then the slice of rows. -/
theorem RPM.u_app {i : Nat} {u : Value} {l : List Int} {z : Int} {b : Bool} {K : Value → Hp → Prop} (k : RPM h H P X Rr A6 A7 M bp cs bv us L B f m o1 o2 es) (hu : us[i]? = some u) (hB : B[i]? = some l) (hl : l.length ≤ 10000000)
    (q : ∀ u' H' rb x H2, (∃ a n, u' = .slice a n n) → bv = slc rb 0 us.length us.length → H'.at rb = some (.row 22 x us) → H'.at Rr = some (.row 104 true [o1, o2]) → storeAt H' rb (offAt 0 i 1) [u'] = some H2 → RPM h H2 P X Rr A6 A7 M bp cs bv (us.set i u') L (B.set i (l ++ [z])) f m o1 o2 es → KE es H H' → KE es H' H2 → K u' H') : AppP E (H.lay (.row 3 b [int z])) 3 1 8 u (slc H.next 0 1 1) K := by
  have k1 := k.ext (Grows.lay H (.row 3 b [int z]))
  have hul : i < us.length := (List.getElem?_eq_some_iff.1 hu).1
  have hu1 := k1.be i u l hu hB
  have hu8 : (pl P :: pl X :: pl Rr :: pl A6 :: pl A7 :: pl M :: cs :: bv :: us)[i + 8]? = some u := by simpa using hu
  refine AppP.cellsF hu1.c k1.gr (elemsC_one (u := int z) rfl) (by omega) (by omega) (by omega) ?_
  intro v' H' hb' hg' hkeep ⟨r', er, hr'⟩
  have x := Kx.builtC hu1.c hkeep
  have hv : ∀ r, ad v' = some r → (H.lay (.row 3 b [int z])).next ≤ r ∧ r < H'.next := fun r e => ⟨by rw [er] at e; cases e; exact hr', (hb'.ad_lt r e).2⟩
  have hnx : (H.lay (.row 3 b [int z])).next ≤ H'.next := by have := hv r' (by rw [er]; rfl); omega
  have a := fun j v (hj : j < 8) hv => k1.sep.ap (i + 8) j u v (by omega) hu8 hv
  have b1 := k1.b.kx x (a 7 _ (by decide) rfl)
  have hbx : ∃ rb y, bv = slc rb 0 us.length us.length ∧ H'.at rb = some (.row 22 y us) := by
    obtain ⟨_, ⟨_, e0⟩ | ⟨rb, e1, _, y, e2⟩⟩ := b1
    · omega
    · exact ⟨rb, y, e1, e2⟩
  obtain ⟨rb, y, e1, e2⟩ := hbx
  have ov : oneCell v' = true := by rw [er]; rfl
  have st := storeAt_row (o := i) (v := v') e2 hul ov
  have sep2 := k1.sep.move hnx (i + 8) hv
  have xb : Kx (ad bv) H' (H'.set rb (.row 22 y (us.set i v'))) := by rw [e1]; exact Kx.set _ _ _
  have a2 := fun j v (hj : j ≠ 7) hv => sep2.ap 7 j bv v (fun e => hj e.symm) rfl hv
  have hbl := k1.bl
  refine q v' H' rb y (H'.set rb (.row 22 y (us.set i v'))) ⟨_, _, er⟩ e1 e2 (ap_at (a := none) x k1.r (a 2 _ (by decide) rfl)) (by rw [offAt_eq, Nat.zero_add, Nat.mul_one]; exact st) ⟨?_, ?_, ?_, ?_, ?_, ?_, ?_, ?_, ?_, ?_, ?_, k.hR, k.hM, ?_⟩ ((KE.grows (Grows.lay _ _)).trans (k1.ke (List.mem_of_getElem? hu8) x)) ?_
  · exact hg'.then_set _ (by have := (k1.b.ad_lt rb (by rw [e1]; rfl)).1; exact this)
  · exact ap_at (a := none) xb (ap_at (a := none) x k1.p (a 0 _ (by decide) rfl)) (a2 0 _ (by decide) rfl)
  · exact ap_at (a := none) xb (ap_at (a := none) x k1.x (a 1 _ (by decide) rfl)) (a2 1 _ (by decide) rfl)
  · exact ap_at (a := none) xb (ap_at (a := none) x k1.r (a 2 _ (by decide) rfl)) (a2 2 _ (by decide) rfl)
  · exact ap_at (a := none) xb (ap_at (a := none) x k1.a6 (a 3 _ (by decide) rfl)) (a2 3 _ (by decide) rfl)
  · exact ap_at (a := none) xb (ap_at (a := none) x k1.a7 (a 4 _ (by decide) rfl)) (a2 4 _ (by decide) rfl)
  · exact map_kx5 (map_kx5 k1.m x (a 5 _ (by decide) rfl)) xb (a2 5 _ (by decide) rfl)
  · exact (k1.c.kx x (a 6 _ (by decide) rfl)).kx xb (a2 6 _ (by decide) rfl)
  · refine ⟨by rw [Nat.mul_one], .inr ⟨rb, by rw [List.length_set]; exact e1, (k1.b.ad_lt rb (by rw [e1]; rfl)).1, y, Hp.at_set_self _ (Hp.lt_of_at e2)⟩⟩
  · rw [List.length_set, List.length_set]; exact hbl
  · intro j w ll h1 h2
    rcases set_get h1 with ⟨rfl, rfl⟩ | ⟨hj, h3⟩
    · rw [List.getElem?_set_self (by omega)] at h2
      cases h2
      have e3 : BuiltC h H' 3 1 w (l ++ [z]).length ((l ++ [z]).map int) := by rw [List.length_append, List.map_append]; exact hb'
      exact e3.b.kx xb (a2 (j + 8) w (by omega) (by show (us.set j w)[j]? = some w; rw [List.getElem?_set_self hul]))
    · rw [List.getElem?_set_ne (fun e => hj e.symm)] at h2
      have e3 := (k1.be j w ll h3 h2).kx x (k1.sep.ap (i + 8) (j + 8) u w (by omega) hu8 (by simpa using h3))
      exact e3.kx xb (a2 (j + 8) w (by omega) (by show (us.set i v')[j]? = some w; exact h1))
  · exact sep2.next (Nat.le_refl _)
  · exact KE.kx xb fun d hd e => sep2.ape bv (by simp) (pl d) (List.mem_map.2 ⟨d, hd, rfl⟩) d e rfl
end
end Go.Proofs.Ytpiplaicnbapbaa
namespace Go.Proofs.Ytpiplaicnbapbaa
open Go.Rx Go.RowKit
def kk (d : List Int) : K5 := k5 (pad5 d)
/-- What noting a crowd comes to. -/
def NoteR (h : Hp) (P X Rr A6 A7 M : Nat) (bp : List Value) (L B : List (List Int)) (es : List Nat) (d : List Int) (H H' : Hp) (k : Nat) : Prop := ∃ (cs bv : Value) (us : List Value) (L' B' : List (List Int)) (f : K5 → Option Value), RPM h H' P X Rr A6 A7 M bp cs bv us L' B' f L'.length cs bv es ∧ IxOf kk L' f ∧ KE es H H' ∧ L'[k]? = some d ∧ ((L' = L ∧ B' = B) ∨ (d ∉ L ∧ L' = L ++ [d] ∧ B' = B ++ [[]]))
attribute [local irreducible] E idxN cellAt cellsAt storeAt callable helems hmoved lookIn findKey keyOk hentries Hp.at Hp.set Hp.lay arBits hupdated setAt CallP YieldP BoolOf IsWrap Rnd LoopP AppP CutP Int.tmod Int.tdiv Int.fdiv
section
variable [Unknowns]
attribute [local irreducible] ResP sameAt
theorem note_spec {h H : Hp} {P X Rr A6 A7 M : Nat} {bp : List Value} {cs bv : Value} {us : List Value} {L B : List (List Int)} {f : K5 → Option Value} {es : List Nat} {n : Nat} {d : List Int} (k : RPM h H P X Rr A6 A7 M bp cs bv us L B f L.length cs bv es) (hix : IxOf kk L f) (hL : ∀ x ∈ L, CrOk n x) (hd : CrOk n d) (hn : n ≤ 5) (hlen : L.length ≤ 100000) (hBL : B.length = L.length) : CallP E 94 [cv (pad5 d), ptr A6 0, ptr Rr 0] H (fun r H' => ∃ i : Nat, r = int i ∧ NoteR h P X Rr A6 A7 M bp L B es d H H' i) := by
  have hdl := hd.len
  have hp5 : (pad5 d).length = 5 := pad5_len (by omega)
  have hpl : ((pad5 d).map int).length = 5 := by rw [List.length_map, hp5]
  obtain ⟨i137, t137, d137⟩ := ty137
  obtain ⟨i3, t3, _, z3⟩ := ty3
  have inj : ∀ x ∈ L, kk x = kk d → x = d := fun x hx e2 => k5_pad (hL x hx) hd hn e2
  have ekey : Value.agg ⟨(pad5 d).map int⟩ = enc5 (kk d) := (enc_k5 hp5).symm
  have k1 := k.more (Grows.lay H (.row 107 true ((pad5 d).map int))) [H.next] (fun x hx => by rw [List.mem_singleton.1 hx, Hp.next_lay]; omega)
  have a3 : (H.lay (.row 107 true ((pad5 d).map int))).at H.next = some (.row 107 true ((pad5 d).map int)) := Hp.at_lay_self _ _
  have ke0 : KE es H (H.lay (.row 107 true ((pad5 d).map int))) := KE.grows (Grows.lay _ _)
  unfold cv
  refine enter94 (by simp) ?_
  conv => whnf
  refine SeqP.cut (α := Hp) (fun s => [(4, int 0), (3, ptr H.next 0), (2, ptr Rr 0), (1, ptr A6 0)]) (fun s H' => s = H' ∧ RPM h s P X Rr A6 A7 M bp cs bv us L B f L.length cs bv ([H.next] ++ es) ∧ s.at H.next = some (.row 107 true ((pad5 d).map int)) ∧ KE es H s) ?_ ?_
  · conv => whnf
    exact ⟨_, ⟨rfl, rfl, rfl, rfl, trivial⟩, ⟨rfl, k1, a3, ke0⟩, rfl⟩
  clear k1 a3 ke0
  rintro H1 φ1 _ ⟨rfl, k1, a3, ke1⟩
  conv => whnf
  refine SeqP.cut (α := Int × Bool) (fun s => [(6, .bool s.2), (5, int s.1), (3, ptr H.next 0), (2, ptr Rr 0), (1, ptr A6 0)]) (fun s H' => H1 = H' ∧ (s.2 = false → f (kk d) = none) ∧ (s.2 = true → ∃ a : Nat, s.1 = a ∧ L[a]? = some d)) ?_ ?_
  · conv => whnf
    refine ⟨mapAt M, cellAt_row k1.a6 rfl, ?_⟩
    conv => whnf
    refine ⟨_, all_cells a3 hpl, ?_⟩
    conv => whnf
    cases hf : f (kk d) with
    | none =>
      refine raw_look2_none t137 d137 t3 z3 key107 (k := kk d) rfl (by exact ekey) k1.m hf ?_
      conv => whnf
      exact ⟨(_, false), ⟨rfl, rfl, rfl, rfl, rfl, trivial⟩, ⟨rfl, fun _ => rfl, fun e2 => (by cases e2)⟩, rfl⟩
    | some x =>
      have hix2 := hix.some_iff inj hf
      obtain ⟨a, ha, e2, rfl⟩ := hix2
      refine raw_look2_some t137 d137 t3 z3 key107 (k := kk d) rfl (by exact ekey) k1.m hf ?_
      conv => whnf
      exact ⟨(_, true), ⟨rfl, rfl, rfl, rfl, rfl, trivial⟩, ⟨rfl, fun e2 => (by cases e2), fun _ => ⟨a, rfl, by rw [List.getElem?_eq_getElem ha, e2]⟩⟩, rfl⟩
  rintro ⟨kv, b⟩ φ2 _ ⟨rfl, w1, w2⟩
  dsimp only at w1 w2 ⊢
  conv => whnf
  refine SeqP.cut (α := Nat × Hp) (fun s => [(5, int s.1)]) (fun s H' => s.2 = H' ∧ NoteR h P X Rr A6 A7 M bp L B es d H s.2 s.1) ?_ ?_
  rotate_left
  · rintro ⟨i, H9⟩ φ9 _ ⟨rfl, h9⟩
    dsimp only at h9 ⊢
    conv => whnf
    repeat (refine SeqP.go ?_; conv => whnf)
    exact ⟨i, rfl, h9⟩
  cases b with
  | true =>
    have w3 := w2 rfl
    obtain ⟨a, rfl, ha⟩ := w3
    conv => whnf
    repeat (refine SeqP.go ?_; conv => whnf)
    exact ⟨(a, H1), ⟨rfl, trivial⟩, ⟨rfl, cs, bv, us, L, B, f, k1.less (fun x hx => by simp [hx]), hix, ke1, ha, .inl ⟨rfl, rfl⟩⟩, rfl⟩
  | false =>
    have hf := w1 rfl
    have hnew : d ∉ L := hix.none_iff inj hf
    have hkc := k1.c.slice
    obtain ⟨ac, rfl, -⟩ := hkc
    have hkb := k1.b.slice
    obtain ⟨ab, rfl, -⟩ := hkb
    have hbl := k1.bl
    conv => whnf
    repeat (refine SeqP.go ?_; conv => whnf)
    refine ⟨_, cellAt_row k1.r rfl, ?_⟩
    conv => whnf
    repeat (refine SeqP.go ?_; conv => whnf)
    refine ⟨mapAt M, cellAt_row k1.a6 rfl, ?_⟩
    conv => whnf
    refine ⟨_, all_cells a3 hpl, ?_⟩
    conv => whnf
    refine raw_update t137 d137 key107 (k := kk d) (v := int L.length) rfl (by exact ekey) rfl k1.m ?_
    intro H2 hm2 y2
    rw [hf] at hm2
    have k2 := k1.mapped y2 hm2
    have ke2 : KE ([H.next] ++ es) H1 H2 := k1.ke (v := pl M) (by simp) (Kx.keeps y2)
    have a32 := ke2 H.next (by simp) _ a3
    conv => whnf
    repeat (refine SeqP.go ?_; conv => whnf)
    refine ⟨_, cellAt_row k2.r rfl, ?_⟩
    conv => whnf
    have h5 := pad5_five (d := d) (by omega)
    obtain ⟨v1, v2, v3, v4, v5, e5⟩ := h5
    have a33 := a32
    rw [e5] at a33
    refine ⟨[int v1, int v2, int v3, int v4, int v5], all_cells a33 rfl, ?_⟩
    conv => whnf
    refine k2.c_app' (d := d) (by omega) (by omega) e5 ?_
    intro cs3 H3 k3 ke3
    have hkc3 := k3.c.slice
    obtain ⟨ac3, rfl, -⟩ := hkc3
    conv => whnf
    refine ⟨rfl, _, storeAt_row k3.r (o := 0) (by simp) rfl, ?_⟩
    have k4 := k3.put (.slice ac3 (L ++ [d]).length (L ++ [d]).length) (.slice ab us.length us.length)
    have ke4 : KE ([H.next] ++ es) H3 (H3.set Rr (.row 104 true [.slice ac3 (L ++ [d]).length (L ++ [d]).length, .slice ab us.length us.length])) := k3.ke (v := pl Rr) (by simp) (Kx.set _ _ _)
    conv => whnf
    repeat (refine SeqP.go ?_; conv => whnf)
    refine ⟨_, cellAt_row k4.r rfl, ?_⟩
    conv => whnf
    refine k4.b_app (by omega) ?_
    intro bv5 H5 k5 ke5
    have hkb5 := k5.b.slice
    obtain ⟨ab5, rfl, -⟩ := hkb5
    conv => whnf
    refine ⟨rfl, _, storeAt_row k5.r (o := 1) (by simp) rfl, ?_⟩
    have k6 := k5.put (.slice ac3 (L ++ [d]).length (L ++ [d]).length) (.slice ab5 (us ++ [nilS]).length (us ++ [nilS]).length)
    have ke6 : KE ([H.next] ++ es) H5 (H5.set Rr (.row 104 true [.slice ac3 (L ++ [d]).length (L ++ [d]).length, .slice ab5 (us ++ [nilS]).length (us ++ [nilS]).length])) := k5.ke (v := pl Rr) (by simp) (Kx.set _ _ _)
    conv => whnf
    refine ⟨(L.length, _), ⟨rfl, trivial⟩, ⟨rfl, _, _, _, L ++ [d], B ++ [[]], _, (show RPM _ _ _ _ _ _ _ _ _ _ _ _ _ _ _ (L ++ [d]).length _ _ _ from by rw [List.length_append]; rw [List.length_append] at k6; exact k6.less (fun x hx => by simp [hx])), hix.add hf, ke1.trans ((((ke2.trans ke3).trans ke4).trans (ke5.trans ke6)).mono (fun x hx => by simp [hx])), ?_, .inr ⟨hnew, rfl, rfl⟩⟩, rfl⟩
    rw [List.getElem?_append_right (Nat.le_refl _)]
    simp
end
end Go.Proofs.Ytpiplaicnbapbaa
namespace Go.Proofs.Ytpiplaicnbapbaa
open Go.Rx Go.RowKit
/-- Those before each crowd, while the one with the number i is looked at: the first of its meetings are done. -/
structure BfP (R : List Q4) (L B : List (List Int)) (i : Nat) (d : List Int) (idx : List Int) (r : Nat) : Prop where
  len : B.length = L.length
  fwd : ∀ (j : Nat) (row : List Int), B[j]? = some row → ∀ x ∈ row, ∃ k : Nat, x = (k : Int) ∧ Ed R L k j
  bwd : ∀ (k j : Nat), k < i → Ed R L k j → ∃ row, B[j]? = some row ∧ (k : Int) ∈ row
  cur : ∀ (m : Nat) (x : Int) (e : List Int), m < r → idx[m]? = some x → step R d x = some e → ∃ (j : Nat) (row : List Int), L[j]? = some e ∧ B[j]? = some row ∧ (i : Int) ∈ row
  few : ∀ (j : Nat) (row : List Int), B[j]? = some row → row.length ≤ 15 * i + r
theorem Ed.old {R : List Q4} {L : List (List Int)} {a b : Nat} (h : Ed R L a b) (x : List Int) : Ed R (L ++ [x]) a b := by
  obtain ⟨d, e, i, h1, h2, h3⟩ := h
  exact ⟨d, e, i, getE_snoc h1, getE_snoc h2, h3⟩
theorem BfP.add {R : List Q4} {n : Nat} {c : List Int} {L B : List (List Int)} {i : Nat} {d : List Int} {idx : List Int} {r : Nat} (k : BfP R L B i d idx r) (g : Gp R n c L i) (hi : i ≤ L.length) {x : List Int} (hx : x ∉ L) : BfP R (L ++ [x]) (B ++ [[]]) i d idx r := by
  have hl := k.len
  have snoc : ∀ {j : Nat} {row : List Int}, (B ++ [[]])[j]? = some row → B[j]? = some row ∨ (j = B.length ∧ row = []) := by
    intro j row h
    by_cases e : j < B.length
    · rw [List.getElem?_append_left e] at h; exact .inl h
    · have h1 := (List.getElem?_eq_some_iff.1 h).1
      rw [List.length_append, List.length_singleton] at h1
      have : j = B.length := by omega
      subst this
      rw [List.getElem?_append_right (Nat.le_refl _)] at h
      simp at h
      exact .inr ⟨rfl, h⟩
  refine ⟨by rw [List.length_append, List.length_append, hl]; rfl, fun j row hr y hy => ?_, fun a j ha he => ?_, fun m y e hm hy hs => ?_, fun j row hr => ?_⟩
  · rcases snoc hr with h | ⟨_, rfl⟩
    · obtain ⟨a, h1, h2⟩ := k.fwd j row h y hy
      exact ⟨a, h1, h2.old x⟩
    · simp at hy
  · obtain ⟨d', e, y, h1, h2, h3⟩ := he
    rw [List.getElem?_append_left (by omega)] at h1
    have hm := g.clo a d' ha h1 y e h3
    by_cases hj : j < L.length
    · rw [List.getElem?_append_left hj] at h2
      obtain ⟨row, h4, h5⟩ := k.bwd a j ha ⟨d', e, y, h1, h2, h3⟩
      exact ⟨row, by rw [List.getElem?_append_left (by omega)]; exact h4, h5⟩
    · have h4 := (List.getElem?_eq_some_iff.1 h2).1
      rw [List.length_append, List.length_singleton] at h4
      have : j = L.length := by omega
      subst this
      rw [List.getElem?_append_right (Nat.le_refl _)] at h2
      simp at h2
      subst h2
      exact absurd hm hx
  · obtain ⟨j, row, h1, h2, h3⟩ := k.cur m y e hm hy hs
    have := (List.getElem?_eq_some_iff.1 h2).1
    exact ⟨j, row, getE_snoc h1, by rw [List.getElem?_append_left this]; exact h2, h3⟩
  · rcases snoc hr with h | ⟨_, rfl⟩
    · exact k.few j row h
    · simp
theorem BfP.put {R : List Q4} {L B : List (List Int)} {i : Nat} {d e : List Int} {idx : List Int} {r : Nat} {x : Int} {j : Nat} {row : List Int} (k : BfP R L B i d idx r) (hd : L[i]? = some d) (hx : idx[r]? = some x) (hs : step R d x = some e) (hj : L[j]? = some e) (hB : B[j]? = some row) : BfP R L (B.set j (row ++ [(i : Int)])) i d idx (r + 1) := by
  have hjB := (List.getElem?_eq_some_iff.1 hB).1
  refine ⟨by rw [List.length_set]; exact k.len, fun a row' hr y hy => ?_, fun a b ha he => ?_, fun m y e' hm hy hs' => ?_, fun a row' hr => ?_⟩
  · rcases set_get hr with ⟨rfl, rfl⟩ | ⟨_, h2⟩
    · rcases List.mem_append.1 hy with hy | hy
      · exact k.fwd _ _ hB y hy
      · exact ⟨i, List.mem_singleton.1 hy, d, e, x, hd, hj, hs⟩
    · exact k.fwd _ _ h2 y hy
  · obtain ⟨row', h1, h2⟩ := k.bwd a b ha he
    by_cases eb : b = j
    · subst eb
      rw [hB] at h1
      cases h1
      exact ⟨_, by rw [List.getElem?_set_self hjB], List.mem_append_left _ h2⟩
    · exact ⟨row', by rw [List.getElem?_set_ne (fun e => eb e.symm)]; exact h1, h2⟩
  · have keep : ∀ (a : Nat) (row' : List Int), B[a]? = some row' → (i : Int) ∈ row' → ∃ row2, (B.set j (row ++ [(i : Int)]))[a]? = some row2 ∧ (i : Int) ∈ row2 := by
      intro a row' h1 h2
      by_cases ea : a = j
      · subst ea
        exact ⟨_, by rw [List.getElem?_set_self hjB], by simp⟩
      · exact ⟨row', by rw [List.getElem?_set_ne (fun e => ea e.symm)]; exact h1, h2⟩
    by_cases em : m = r
    · subst em
      rw [hx] at hy
      cases hy
      rw [hs] at hs'
      cases hs'
      exact ⟨j, _, hj, by rw [List.getElem?_set_self hjB], by simp⟩
    · obtain ⟨a, row', h1, h2, h3⟩ := k.cur m y e' (by omega) hy hs'
      obtain ⟨row2, h4, h5⟩ := keep a row' h2 h3
      exact ⟨a, row2, h1, h4, h5⟩
  · rcases set_get hr with ⟨rfl, rfl⟩ | ⟨_, h2⟩
    · have := k.few _ _ hB
      rw [List.length_append, List.length_singleton]
      omega
    · have := k.few _ _ h2
      omega
theorem BfP.turn {R : List Q4} {L B : List (List Int)} {i : Nat} {d d' : List Int} {idx idx' : List Int} (k : BfP R L B i d idx idx.length) (hd : L[i]? = some d) (hn : L.Nodup) (hi : idx.length ≤ 15) (hall : ∀ x e, step R d x = some e → x ∈ idx) : BfP R L B (i + 1) d' idx' 0 := by
  refine ⟨k.len, k.fwd, fun a j ha he => ?_, fun m x e hm => absurd hm (Nat.not_lt_zero _), fun j row hr => by have := k.few j row hr; omega⟩
  by_cases ea : a = i
  · subst ea
    obtain ⟨d1, e, x, h1, h2, h3⟩ := he
    rw [hd] at h1
    cases h1
    obtain ⟨m, hm, em⟩ := List.getElem_of_mem (hall x e h3)
    obtain ⟨j', row, h4, h5, h6⟩ := k.cur m x e hm (by rw [List.getElem?_eq_getElem hm, em]) h3
    have hj := (List.getElem?_eq_some_iff.1 h4).1
    have : j' = j := (List.getElem?_inj hj hn).1 (h4.trans h2.symm)
    subst this
    exact ⟨row, h5, h6⟩
  · exact k.bwd a j (by omega) he
theorem BfP.done {R : List Q4} {L B : List (List Int)} {i : Nat} {d : List Int} {idx : List Int} (k : BfP R L B i d idx 0) (hi : i = L.length) (hL : L.length ≤ 100000) : BfOk R L B := by
  subst hi
  refine ⟨k.len, fun i hi x hx => k.fwd i _ (List.getElem?_eq_getElem hi) x hx, fun a j he => ?_, fun i hi => ?_⟩
  · obtain ⟨row, h1, h2⟩ := k.bwd a j he.lt.1 he
    obtain ⟨hj, e⟩ := List.getElem?_eq_some_iff.1 h1
    exact ⟨hj, by rw [e]; exact h2⟩
  · have := k.few i _ (List.getElem?_eq_getElem hi)
    omega
/-- What a meeting yields is where the rule leads. -/
theorem mv_step {R : List Q4} {n : Nat} {d : List Int} (hd : CrOk n d) (hR : ∀ x ∈ R, QIn n x) {x : Int} (hx : x ∈ posN R (pad5 d) R.length) : ∃ e, step R d x = some e ∧ mv R (pad5 d) x = [int x, cv (pad5 e)] := by
  obtain ⟨k, rfl, -, hk, ha⟩ := (posN_mem R (pad5 d) R.length x).1 hx
  have h1 := step_yes (R := R) (c := d) (i := (k : Int)) ⟨by omega, by omega⟩ (allowed_pad.1 ha)
  refine ⟨_, h1, ?_⟩
  have hq : QIn d.length R[k] := by rw [hd.len]; exact hR _ (List.getElem_mem hk)
  unfold mv
  have e1 : R.getD (k : Int).toNat ⟨0, 0, 0, 0⟩ = R[k] := by
    rw [List.getD_eq_getElem?_getD]
    show (R[k]?).getD _ = _
    rw [List.getElem?_eq_getElem hk]; rfl
  rw [e1, after_pad hq]
  rfl
theorem step_pos {R : List Q4} {d e : List Int} {x : Int} (h : step R d x = some e) : x ∈ posN R (pad5 d) R.length := by
  have hr := step_range h
  refine (posN_mem R (pad5 d) R.length x).2 ⟨x.toNat, by omega, by omega, by omega, ?_⟩
  refine allowed_pad.2 (Classical.byContradiction fun k => ?_)
  rw [step_not hr k] at h
  cases h
end Go.Proofs.Ytpiplaicnbapbaa
