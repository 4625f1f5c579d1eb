/- Contracts of the functions that PKE comes to. -/
import Derived.Test.YtpiplaicnbapbaaPKA
import Derived.Test.YtpiplaicnbapbaaWx21
import Derived.Test.YtpiplaicnbapbaaWx25
set_option maxRecDepth 100000
set_option maxHeartbeats 2000000
set_option linter.unusedVariables false
set_option linter.unusedSectionVars false
set_option linter.unusedSimpArgs false
namespace Go.Proofs.Ytpiplaicnbapbaa
open Go.Rx Go.RowKit
structure Ps (R : List Q4) (L : List (List Int)) (T : Nat → Prop) (ms0 : List Bool) (i : Nat) (ag : Bool) (ms : List Bool) : Prop where
  km : Mk R L T ms
  le : nf ms ≤ nf ms0
  lt : ag = true → nf ms < nf ms0
  st : ag = false → ms = ms0 ∧ Still R L ms0 i
theorem Ps.start {R : List Q4} {L : List (List Int)} {T : Nat → Prop} {ms : List Bool} (h : Mk R L T ms) : Ps R L T ms 0 false ms := ⟨h, Nat.le_refl _, fun e => (by cases e), fun _ => ⟨rfl, fun a k ha => by omega⟩⟩
theorem Ps.mark {R : List Q4} {L : List (List Int)} {T : Nat → Prop} {ms0 ms : List Bool} {i : Nat} {ag : Bool} (h : Ps R L T ms0 i ag ms) (hi : i < L.length) (hf : gb ms i = false) {k : Nat} (e : Ed R L i k) (hk : gb ms k = true) : Ps R L T ms0 i true (ms.set i true) := by
  have hl := h.km.len
  have hn := nf_set (l := ms) (i := i) (by omega) hf
  have := h.le
  exact ⟨h.km.set hi ((h.km.only k hk).back e), by omega, fun _ => by omega, fun e => (by cases e)⟩
theorem Ps.next {R : List Q4} {L : List (List Int)} {T : Nat → Prop} {ms0 ms : List Bool} {i : Nat} {ag : Bool} (h : Ps R L T ms0 i ag ms) (hs : ag = false → ∀ k, Ed R L i k → gb ms0 k = true → gb ms0 i = true) : Ps R L T ms0 (i + 1) ag ms :=
  ⟨h.km, h.le, h.lt, fun e => ⟨(h.st e).1, fun a k ha he hk => by
    by_cases e2 : a = i
    · subst e2; exact hs e k he hk
    · exact (h.st e).2 a k (by omega) he hk⟩⟩
attribute [local irreducible] E idxN cellAt cellsAt storeAt callable helems hmoved lookIn findKey keyOk hentries Hp.at Hp.set Hp.lay arBits hupdated setAt CallP YieldP BoolOf IsWrap Rnd LoopP AppP CutP Int.tmod Int.tdiv Int.fdiv
section
variable [Unknowns]
attribute [local irreducible] ResP sameAt
theorem spread_spec (bx : List Value) (nv bv : Value) (R : List Q4) (L N : List (List Int)) (some_ : List Bool) (h : Hp) (hbx : bx.length = 3) (hone : bx.all oneCell = true) (b2 : bx[2]? = some nv) (hN : SL h nv N) (hNx : NxOk R L N) (hb : BV h bv some_) (hlen : some_.length = L.length) (hL1 : 0 < L.length) (hL2 : L.length ≤ 1000000) : CallP E 83 [.agg ⟨bx⟩, bv] h (fun r h' => (∃ ms, BV h' r ms ∧ ms.length = L.length ∧ ∀ a, gb ms a = true ↔ Lead R L (fun t => gb some_ t = true) a) ∧ Grows h h' ∧ ∃ k, (∃ n, r = slc k 0 n n) ∧ h.next ≤ k) := by
  obtain ⟨an, cn, rfl, hcn⟩ := id hN
  have hNl := hNx.len
  obtain ⟨rb, xb, rfl, hbat⟩ := id hb
  have g0 : Grows h (h.lay (.row 64 true bx)) := Grows.lay _ _
  have a0 : (h.lay (.row 64 true bx)).at h.next = some (.row 64 true bx) := Hp.at_lay_self _ _
  have hT : ∀ t, gb some_ t = true → t < L.length := fun t ht => by have := gb_lt ht; omega
  refine enter83 (by simp) ?_
  conv => whnf
  refine SeqP.go ?_
  conv => whnf
  refine SeqP.go ?_
  conv => whnf
  refine SeqP.cut (α := Nat × Bool × Hp) (fun s => [(5, slc s.1 0 L.length L.length), (2, ptr h.next 0)]) (fun s H => s.2.2 = H ∧ SM h s.1 s.2.1 some_ s.2.2 ∧ s.2.2.at h.next = some (.row 64 true bx) ∧ h.next < s.1) ?_ ?_
  · conv => whnf
    refine AppP.cells (h0 := h.lay (.row 64 true bx)) (e := 4) (s := 1) BuiltC.nil (.refl _) (BV.elems (hb.ext g0)) (by omega) (by omega) ?_
    intro r3 H3 hb3 g3 _
    rw [Nat.zero_add, List.nil_append] at hb3
    obtain ⟨-, hb4⟩ := hb3
    rcases hb4 with ⟨-, e⟩ | ⟨r, rfl, hr, x, hat⟩
    · rw [hlen] at e; omega
    rw [Hp.next_lay] at hr
    conv => whnf
    exact ⟨(r, x, H3), ⟨by rw [hlen]; rfl, rfl, trivial⟩, ⟨rfl, ⟨hat, g0.trans g3, by show h.next ≤ r; omega⟩, g3.at_ _ _ a0, by show h.next < r; omega⟩, rfl⟩
  rintro ⟨r, x, H3⟩ φ1 _ ⟨rfl, hsm, hbox, hrn⟩
  dsimp only at hsm hbox hrn ⊢
  conv => whnf
  refine SeqP.cut (α := List Bool × Hp) (fun s => [(5, slc r 0 L.length L.length)]) (fun s H => s.2 = H ∧ SM h r x s.1 s.2 ∧ Mk R L (fun t => gb some_ t = true) s.1 ∧ Still R L s.1 L.length) ?_ ?_
  rotate_left
  · rintro ⟨ms, H⟩ φ2 _ ⟨rfl, h1, h2, h3⟩
    dsimp only at h1 h2 h3 ⊢
    conv => whnf
    repeat (refine SeqP.go ?_; conv => whnf)
    exact ⟨⟨ms, ⟨r, x, by rw [h2.len]; rfl, h1.at_⟩, h2.len, h2.done hT h3⟩, h1.gr, r, ⟨_, rfl⟩, h1.hr⟩
  conv => whnf
  repeat (refine SeqP.go ?_; conv => whnf)
  refine loop_inv (α := Bool × List Bool × Hp) (fun s => [(6, .bool s.1), (5, slc r 0 L.length L.length), (2, ptr h.next 0)]) (fun s => s.2.2) (fun s => SM h r x s.2.1 s.2.2 ∧ Mk R L (fun t => gb some_ t = true) s.2.1 ∧ (s.1 = false → Still R L s.2.1 L.length) ∧ s.2.2.at h.next = some (.row 64 true bx)) (fun s => 2 * nf s.2.1 + (if s.1 = true then 1 else 0)) (true, some_, H3) ⟨hsm, ⟨hlen, fun t _ ht => ht, fun a ha => Lead.self ha⟩, fun e => (by cases e), hbox⟩ ⟨rfl, rfl, rfl, trivial⟩ (Hp.Le.refl _) ?_
  rintro ⟨ag, ms0, H0⟩ φ3 ⟨hs0, hm0, hst0, hb0⟩
  dsimp only at hs0 hm0 hst0 hb0 ⊢
  cases ag with
  | false =>
    conv => whnf
    repeat (refine SeqP.go ?_; conv => whnf)
    exact ⟨(ms0, H0), ⟨rfl, trivial⟩, ⟨rfl, hs0, hm0, hst0 rfl⟩, rfl⟩
  | true =>
  conv => whnf
  repeat (refine SeqP.go ?_; conv => whnf)
  refine loop_inv (α := Nat × Bool × List Bool × Hp) (fun s => [(7, int s.1), (6, .bool s.2.1), (5, slc r 0 L.length L.length), (2, ptr h.next 0)]) (fun s => s.2.2.2) (fun s => s.1 ≤ L.length ∧ SM h r x s.2.2.1 s.2.2.2 ∧ Ps R L (fun t => gb some_ t = true) ms0 s.1 s.2.1 s.2.2.1 ∧ s.2.2.2.at h.next = some (.row 64 true bx)) (fun s => L.length - s.1) (0, false, ms0, H0) ⟨Nat.zero_le _, hs0, Ps.start hm0, hb0⟩ ⟨rfl, rfl, rfl, rfl, trivial⟩ (Hp.Le.refl _) ?_
  rintro ⟨i, ag, ms, H1⟩ φ4 ⟨hi, hs1, hp1, hb1⟩
  dsimp only at hi hs1 hp1 hb1 ⊢
  conv => whnf
  repeat (refine SeqP.go ?_; conv => whnf)
  refine cmpB (fun c1 => ?_) (fun c1 => ?_)
  rotate_left
  · have : i = L.length := by omega
    subst this
    conv => whnf
    repeat (refine SeqP.go ?_; conv => whnf)
    refine Rnd.mk (ag, ms, H1) ⟨hs1, hp1.km, fun e => ?_, hb1⟩ ?_ ⟨rfl, rfl, rfl, trivial⟩ (Hp.Le.refl _) rfl
    · have := hp1.st e
      rw [this.1]
      exact this.2
    · show 2 * nf ms + (if ag = true then 1 else 0) < 2 * nf ms0 + (if true = true then 1 else 0)
      have := hp1.le
      cases ag with
      | true => have := hp1.lt rfl; simp; omega
      | false => simp; omega
  have hil : i < L.length := by omega
  have hiN : i < N.length := by omega
  have hcN := hN.ext hs1.gr
  obtain ⟨an', cn', ew, hcN⟩ := hcN
  cases ew
  have hcj := hcN i hiN
  clear hcN
  obtain ⟨rn, on, sp, w, ea, hsp, hw1, hw2⟩ := hcj
  subst ea
  have hkk := hw2.known
  obtain ⟨aw, cw, rfl⟩ := hkk
  have hsmall := hNx.small i hiN
  conv => whnf
  refine SeqP.cut (α := Bool × List Bool × Hp) (fun s => [(7, int i), (6, .bool s.1), (5, slc r 0 L.length L.length), (2, ptr h.next 0)]) (fun s H' => s.2.2 = H' ∧ SM h r x s.2.1 s.2.2 ∧ Ps R L (fun t => gb some_ t = true) ms0 (i + 1) s.1 s.2.1 ∧ s.2.2.at h.next = some (.row 64 true bx)) ?_ ?_
  rotate_left
  · rintro ⟨ag', ms', H'⟩ φ5 _ ⟨rfl, e1, e2, e3⟩
    dsimp only at e1 e2 e3 ⊢
    conv => whnf
    refine ⟨((i + 1 : Nat) : Int), wie (by omega) (by omega), ?_⟩
    conv => whnf
    exact Rnd.mk (i + 1, ag', ms', H') ⟨by show i + 1 ≤ _; omega, e1, e2, e3⟩ (by show _ - (i + 1) < _ - i; omega) ⟨rfl, rfl, rfl, rfl, trivial⟩ (Hp.Le.refl _) rfl
  conv => whnf
  repeat (refine SeqP.go ?_; conv => whnf)
  refine loop_inv (α := Nat × Bool × List Bool × Hp) (fun s => [(8, int s.1), (7, int i), (6, .bool s.2.1), (5, slc r 0 L.length L.length), (2, ptr h.next 0)]) (fun s => s.2.2.2) (fun s => s.1 ≤ N[i].length ∧ SM h r x s.2.2.1 s.2.2.2 ∧ Ps R L (fun t => gb some_ t = true) ms0 i s.2.1 s.2.2.1 ∧ s.2.2.2.at h.next = some (.row 64 true bx) ∧ Grows h s.2.2.2 ∧ (s.2.1 = false → ∀ j, (hj : j < N[i].length) → j < s.1 → ∀ k : Nat, N[i][j] = (k : Int) → gb ms0 k = true → gb ms0 i = true)) (fun s => N[i].length - s.1) (0, ag, ms, H1) ⟨Nat.zero_le _, hs1, hp1, hb1, hs1.gr, fun _ j hj hj0 => by omega⟩ ⟨rfl, rfl, rfl, rfl, rfl, trivial⟩ (Hp.Le.refl _) ?_
  rintro ⟨k, ag, ms, H2⟩ φ6 ⟨hk, hs2, hp2, hb2, hg2, hdone⟩
  dsimp only at hk hs2 hp2 hb2 hg2 hdone ⊢
  have hcN := hN.ext hg2
  obtain ⟨an', cn', ew, hcN⟩ := hcN
  cases ew
  have hcj := hcN i hiN
  clear hcN
  obtain ⟨rn', on', sp', w', ea, hsp', hw1', hw2'⟩ := hcj
  cases ea
  have hkk := hw2'.known
  obtain ⟨aw', cw', rfl⟩ := hkk
  have hmsl := hp2.km.len
  have hexb : ∃ b, gb ms i = b := ⟨_, rfl⟩
  obtain ⟨b, eb⟩ := hexb
  have hldi := hs2.load (i := i) (by omega)
  rw [eb] at hldi
  have hldw : cellAt H2 rn (offAt on i 1) = some (.slice aw' N[i].length cw') := by rw [offAt_eq, Nat.add_comm]; simpa using hw1'
  conv => whnf
  repeat (refine SeqP.go ?_; conv => whnf)
  refine ⟨_, cellAt_row hb2 b2, ?_⟩
  conv => whnf
  refine ⟨hsp', ⟨by omega, by omega⟩, ?_⟩
  conv => whnf
  refine ⟨_, hldw, ?_⟩
  conv => whnf
  refine cmpB (fun c2 => ?_) (fun c2 => ?_)
  rotate_left
  · conv => whnf
    repeat (refine SeqP.go ?_; conv => whnf)
    refine ⟨(ag, ms, H2), ⟨rfl, rfl, rfl, rfl, trivial⟩, ⟨rfl, hs2, hp2.next fun e kk he hkk => ?_, hb2⟩, rfl⟩
    obtain ⟨h1, h2⟩ := hNx.bwd i kk he
    obtain ⟨j, hj, ej⟩ := List.getElem_of_mem h2
    exact hdone e j hj (by omega) kk ej hkk
  have hkl : k < N[i].length := by omega
  conv => whnf
  refine ⟨rfl, ⟨by omega, by omega⟩, ?_⟩
  conv => whnf
  refine ⟨_, hldi, ?_⟩
  conv => whnf
  cases b with
  | true =>
    conv => whnf
    repeat (refine SeqP.go ?_; conv => whnf)
    refine ⟨(ag, ms, H2), ⟨rfl, rfl, rfl, rfl, trivial⟩, ⟨rfl, hs2, hp2.next fun e kk he hkk => ?_, hb2⟩, rfl⟩
    rw [← (hp2.st e).1]
    exact eb
  | false =>
  have hci := hw2'.ints
  obtain ⟨ax, cx, ex, hci⟩ := hci
  cases ex
  have hcik := hci k hkl
  clear hci
  obtain ⟨r5, o5, sp5, ea5, hsp5, hc5⟩ := hcik
  subst ea5
  have hfw := hNx.fwd i hiN N[i][k] (List.getElem_mem _)
  obtain ⟨kk, ekk, hed⟩ := hfw
  have hkkl := hed.lt.2
  rw [ekk] at hc5
  have hldk := hs2.load (i := kk) (by omega)
  have hexc : ∃ c, gb ms kk = c := ⟨_, rfl⟩
  obtain ⟨c, ec⟩ := hexc
  rw [ec] at hldk
  conv => whnf
  repeat (refine SeqP.go ?_; conv => whnf)
  refine ⟨_, cellAt_row hb2 b2, ?_⟩
  conv => whnf
  refine ⟨hsp', ⟨by omega, by omega⟩, ?_⟩
  conv => whnf
  refine ⟨_, hldw, ?_⟩
  conv => whnf
  refine ⟨hsp5, ⟨by omega, by omega⟩, ?_⟩
  conv => whnf
  refine ⟨int kk, by rw [offAt_eq, Nat.add_comm]; simpa using hc5, ?_⟩
  conv => whnf
  refine ⟨rfl, ⟨by omega, by omega⟩, ?_⟩
  conv => whnf
  refine ⟨_, hldk, ?_⟩
  conv => whnf
  cases c with
  | true =>
    conv => whnf
    refine ⟨rfl, ⟨by omega, by omega⟩, ?_⟩
    conv => whnf
    refine ⟨rfl, _, hs2.store (i := i) (by omega) true, ?_⟩
    conv => whnf
    repeat (refine SeqP.go ?_; conv => whnf)
    refine ⟨((k + 1 : Nat) : Int), wie (by omega) (by omega), ?_⟩
    conv => whnf
    exact Rnd.mk (k + 1, true, ms.set i true, _) ⟨by show k + 1 ≤ _; omega, hs2.put _, hp2.mark hil eb hed ec, by rw [Hp.at_set_ne _ (by omega)]; exact hb2, (hs2.put _).gr, fun e => (by cases e)⟩ (by show _ - (k + 1) < _ - k; omega) ⟨rfl, rfl, rfl, rfl, rfl, trivial⟩ (Hp.Le.refl _) rfl
  | false =>
    conv => whnf
    repeat (refine SeqP.go ?_; conv => whnf)
    refine ⟨((k + 1 : Nat) : Int), wie (by omega) (by omega), ?_⟩
    conv => whnf
    refine Rnd.mk (k + 1, ag, ms, H2) ⟨by show k + 1 ≤ _; omega, hs2, hp2, hb2, hg2, fun e j hj hj1 k2 ek2 hk2 => ?_⟩ (by show _ - (k + 1) < _ - k; omega) ⟨rfl, rfl, rfl, rfl, rfl, trivial⟩ (Hp.Le.refl _) rfl
    by_cases e3 : j = k
    · subst e3
      rw [ekk] at ek2
      have : kk = k2 := by omega
      subst this
      rw [← (hp2.st e).1, ec] at hk2
      cases hk2
    · exact hdone e j hj (by omega) k2 ek2 hk2
end
end Go.Proofs.Ytpiplaicnbapbaa
namespace Go.Proofs.Ytpiplaicnbapbaa
open Go.Rx Go.RowKit
structure CR (h : Hp) (bx : List Value) (R : List Q4) (n : Nat) (c : List Int) (L N : List (List Int)) : Prop where
  len : bx.length = 3
  one : bx.all oneCell = true
  lv : ∃ v, bx[0]? = some v ∧ SL h v L
  nv : ∃ v, bx[2]? = some v ∧ SL h v N
  nx : NxOk R L N
  gr : Gr R c L
  ok : ∀ d ∈ L, CrOk n d
  few : L.length ≤ 100000
  sv : ∃ v S, bx[1]? = some v ∧ View h v S ∧ St R c L S L.length
theorem CR.ext {h h' : Hp} {bx : List Value} {R : List Q4} {n : Nat} {c : List Int} {L N : List (List Int)} (g : Grows h h') (k : CR h bx R n c L N) : CR h' bx R n c L N := by
  obtain ⟨h1, h2, ⟨v, h3, h4⟩, ⟨w, h5, h6⟩, h7, h8, h9, h10, ⟨u, S, h11, h12, h13⟩⟩ := k
  exact ⟨h1, h2, ⟨v, h3, h4.ext g⟩, ⟨w, h5, h6.ext g⟩, h7, h8, h9, h10, ⟨u, S, h11, h12.ext g, h13⟩⟩
theorem oth_iff {out : List Int} {on : Int} {L : List (List Int)} {a : Nat} {d : List Int} (h : L[a]? = some d) : Oth out on L a ↔ ∃ s, s < out.length ∧ 0 < gl d s ∧ gl out s ≠ on := by
  constructor
  · rintro ⟨e, h1, h2⟩
    rw [h] at h1
    cases h1
    refine Classical.byContradiction fun hn => h2 fun s hs h3 => Classical.byContradiction fun h4 => hn ⟨s, hs, h3, h4⟩
  · rintro ⟨s, h1, h2, h3⟩
    exact ⟨d, h, fun k => h3 (k s h1 h2)⟩
theorem rep_bool (b : Bool) (n : Nat) : times [Value.bool b] n = (List.replicate n b).map .bool := by
  induction n with
  | zero => rfl
  | succ n ih => show Value.bool b :: times [Value.bool b] n = _; rw [ih, List.replicate_succ]; rfl
theorem gb_rep (n a : Nat) : gb (List.replicate n false) a = false := by
  unfold gb
  rw [List.getD_eq_getElem?_getD, List.getElem?_replicate]
  split <;> rfl
attribute [local irreducible] E idxN cellAt cellsAt storeAt callable helems hmoved lookIn findKey keyOk hentries Hp.at Hp.set Hp.lay arBits hupdated setAt CallP YieldP BoolOf IsWrap Rnd LoopP AppP CutP Int.tmod Int.tdiv Int.fdiv
section
variable [Unknowns]
attribute [local irreducible] ResP sameAt
theorem RSettled_spec (v : Value) (p : Prot) (bx : List Value) (on : Int) (n : Nat) (c : List Int) (L N : List (List Int)) (h : Hp) (hv : PV h v p) (hP : POk p) (en : p.n = n) (hx : CR h bx p.rules n c L N) : CallP E 82 [v, .agg ⟨bx⟩, int on] h (fun r h' => (∃ ms, BV h' r ms ∧ ms.length = L.length ∧ ∀ a, gb ms a = true ↔ SetN p.rules p.out on L a) ∧ Grows h h') := by
  obtain ⟨bp, rfl, hbl, b0, ⟨a1, b1, k1⟩, -⟩ := hv.box
  have hol : p.out.length = n := by have := hP.outl; omega
  have hn5 : n ≤ 5 := by have := hP.n5; omega
  rw [en] at b0
  obtain ⟨hxl, hxo, ⟨lv, x0, hL⟩, ⟨nv, x2, hN⟩, hnx, hgr, hok, hfew, -⟩ := id hx
  have hL0 := hgr.pos
  have hLk := id hL
  obtain ⟨al, cl, rfl, -⟩ := hLk
  have g0 : Grows h ((h.lay (.row 26 true bp)).lay (.row 64 true bx)) := (Grows.lay _ _).then_lay _
  have a0 : ((h.lay (.row 26 true bp)).lay (.row 64 true bx)).at h.next = some (.row 26 true bp) := Hp.at_lay_old _ (Hp.at_lay_self _ _)
  have hexX : ∃ X, (h.lay (.row 26 true bp)).next = X ∧ h.next < X := ⟨_, rfl, by rw [Hp.next_lay]; omega⟩
  obtain ⟨X, eX, hX⟩ := hexX
  have a1' : ((h.lay (.row 26 true bp)).lay (.row 64 true bx)).at X = some (.row 64 true bx) := by rw [← eX]; exact Hp.at_lay_self _ _
  have nX : ((h.lay (.row 26 true bp)).lay (.row 64 true bx)).next = X + 1 := by rw [Hp.next_lay, eX]
  refine enter82 (by simp) ?_
  conv => whnf
  refine SeqP.go ?_
  conv => whnf
  refine SeqP.cut (α := Nat × Hp) (fun s => [(7, slc s.1 0 L.length L.length), (4, ptr X 0), (3, ptr h.next 0), (2, int on)]) (fun s H => s.2 = H ∧ SM h s.1 true (List.replicate L.length false) s.2 ∧ s.2.at h.next = some (.row 26 true bp) ∧ s.2.at X = some (.row 64 true bx) ∧ X < s.1) ?_ ?_
  · conv => whnf
    refine ⟨_, cellAt_row (at_nx2 eX.symm a1') x0, ?_⟩
    conv => whnf
    refine ⟨⟨by omega, by omega, by omega, by omega⟩, ?_⟩
    conv => whnf
    refine ⟨(_, _), ⟨rfl, congrArg (fun k => ptr k 0) eX, rfl, rfl, trivial⟩, ⟨rfl, ⟨?_, g0.then_lay _, ?_⟩, Hp.at_lay_old _ a0, Hp.at_lay_old _ a1', ?_⟩, rfl⟩
    · rw [← rep_bool]
      exact Hp.at_lay_self _ _
    · show h.next ≤ ((h.lay (.row 26 true bp)).lay (.row 64 true bx)).next
      omega
    · show X < ((h.lay (.row 26 true bp)).lay (.row 64 true bx)).next
      omega
  rintro ⟨r, H3⟩ φ1 _ ⟨rfl, hsm, hbp3, hbx3, hrX⟩
  dsimp only at hsm hbp3 hbx3 hrX ⊢
  conv => whnf
  refine SeqP.cut (α := List Bool × Hp) (fun s => [(7, slc r 0 L.length L.length), (4, ptr X 0)]) (fun s H => s.2 = H ∧ SM h r true s.1 s.2 ∧ s.1.length = L.length ∧ (∀ a, gb s.1 a = true ↔ Oth p.out on L a) ∧ s.2.at X = some (.row 64 true bx)) ?_ ?_
  · conv => whnf
    repeat (refine SeqP.go ?_; conv => whnf)
    refine loop_inv (α := Nat × List Bool × Hp) (fun s => [(8, int s.1), (7, slc r 0 L.length L.length), (4, ptr X 0), (3, ptr h.next 0), (2, int on)]) (fun s => s.2.2) (fun s => s.1 ≤ L.length ∧ SM h r true s.2.1 s.2.2 ∧ s.2.1.length = L.length ∧ (∀ a, gb s.2.1 a = true ↔ a < s.1 ∧ Oth p.out on L a) ∧ s.2.2.at h.next = some (.row 26 true bp) ∧ s.2.2.at X = some (.row 64 true bx)) (fun s => L.length - s.1) (0, List.replicate L.length false, H3) ⟨Nat.zero_le _, hsm, List.length_replicate, fun a => ⟨fun e => (by rw [gb_rep] at e; cases e), fun e => absurd e.1 (Nat.not_lt_zero _)⟩, hbp3, hbx3⟩ ⟨rfl, rfl, rfl, rfl, rfl, trivial⟩ (Hp.Le.refl _) ?_
    rintro ⟨i, ms, H⟩ φ2 ⟨hi, hs, hml, hms, hbp, hbx⟩
    dsimp only at hi hs hml hms hbp hbx ⊢
    conv => whnf
    repeat (refine SeqP.go ?_; conv => whnf)
    refine ⟨_, cellAt_row hbx x0, ?_⟩
    conv => whnf
    refine cmpB (fun c1 => ?_) (fun c1 => ?_)
    rotate_left
    · have : i = L.length := by omega
      subst this
      conv => whnf
      repeat (refine SeqP.go ?_; conv => whnf)
      refine ⟨(ms, H), ⟨rfl, rfl, trivial⟩, ⟨rfl, hs, hml, fun a => ?_, hbx⟩, rfl⟩
      rw [hms]
      refine ⟨fun k => k.2, fun k => ⟨?_, k⟩⟩
      obtain ⟨d, h1, _⟩ := k
      exact (List.getElem?_eq_some_iff.1 h1).1
    have hil : i < L.length := by omega
    have hexd : ∃ d, L[i] = d ∧ L[i]? = some d := ⟨_, rfl, List.getElem?_eq_getElem hil⟩
    obtain ⟨d, ed, ed2⟩ := hexd
    have hdo := hok d (List.mem_of_getElem? ed2)
    have hoi := oth_iff (out := p.out) (on := on) ed2
    conv => whnf
    refine SeqP.cut (α := List Bool × Hp) (fun s => [(8, int i), (7, slc r 0 L.length L.length), (4, ptr X 0), (3, ptr h.next 0), (2, int on)]) (fun s H' => s.2 = H' ∧ SM h r true s.1 s.2 ∧ s.1.length = L.length ∧ (∀ a, gb s.1 a = true ↔ a < i + 1 ∧ Oth p.out on L a) ∧ s.2.at h.next = some (.row 26 true bp) ∧ s.2.at X = some (.row 64 true bx)) ?_ ?_
    rotate_left
    · rintro ⟨ms', H'⟩ φ3 _ ⟨rfl, e1, e2, e3, e4, e5⟩
      dsimp only at e1 e2 e3 e4 e5 ⊢
      conv => whnf
      refine ⟨((i + 1 : Nat) : Int), wie (by omega) (by omega), ?_⟩
      conv => whnf
      exact Rnd.mk (i + 1, ms', H') ⟨by show i + 1 ≤ _; omega, e1, e2, e3, e4, e5⟩ (by show _ - (i + 1) < _ - i; omega) ⟨rfl, rfl, rfl, rfl, rfl, trivial⟩ (Hp.Le.refl _) rfl
    conv => whnf
    repeat (refine SeqP.go ?_; conv => whnf)
    refine loop_inv (α := Nat × List Bool × Hp) (fun s => [(9, int s.1), (8, int i), (7, slc r 0 L.length L.length), (4, ptr X 0), (3, ptr h.next 0), (2, int on)]) (fun s => s.2.2) (fun s => s.1 ≤ n ∧ SM h r true s.2.1 s.2.2 ∧ s.2.1.length = L.length ∧ (∀ a, a ≠ i → (gb s.2.1 a = true ↔ a < i ∧ Oth p.out on L a)) ∧ (gb s.2.1 i = true ↔ ∃ s', s' < s.1 ∧ 0 < gl d s' ∧ gl p.out s' ≠ on) ∧ s.2.2.at h.next = some (.row 26 true bp) ∧ s.2.2.at X = some (.row 64 true bx)) (fun s => n - s.1) (0, ms, H) ⟨Nat.zero_le _, hs, hml, fun a _ => hms a, ⟨fun e => absurd ((hms i).1 e).1 (Nat.lt_irrefl _), fun ⟨s', h1, _⟩ => absurd h1 (Nat.not_lt_zero _)⟩, hbp, hbx⟩ ⟨rfl, rfl, rfl, rfl, rfl, rfl, trivial⟩ (Hp.Le.refl _) ?_
    clear hs hml hms hbp hbx
    rintro ⟨s, ms, H⟩ φ4 ⟨hsn, hs, hml, hms, hmi, hbp, hbx⟩
    dsimp only at hsn hs hml hms hmi hbp hbx ⊢
    conv => whnf
    repeat (refine SeqP.go ?_; conv => whnf)
    refine ⟨_, cellAt_row hbp b0, ?_⟩
    conv => whnf
    refine cmpB (fun c2 => ?_) (fun c2 => ?_)
    rotate_left
    · have : s = n := by omega
      subst this
      conv => whnf
      repeat (refine SeqP.go ?_; conv => whnf)
      refine ⟨(ms, H), ⟨rfl, rfl, rfl, rfl, rfl, trivial⟩, ⟨rfl, hs, hml, fun a => ?_, hbp, hbx⟩, rfl⟩
      by_cases e : a = i
      · subst e
        rw [hmi, hoi, hol]
        exact ⟨fun k => ⟨Nat.lt_succ_self _, k⟩, fun k => k.2⟩
      · rw [hms a e]
        exact ⟨fun k => ⟨by omega, k.2⟩, fun k => ⟨by omega, k.2⟩⟩
    have hsl : s < n := by omega
    have hcL := hL.ext hs.gr
    obtain ⟨an', cn', ew, hcL⟩ := hcL
    cases ew
    have hcj := hcL i hil
    clear hcL
    obtain ⟨rn, on', sp, w, ea, hsp, hw1, hw2⟩ := hcj
    subst ea
    rw [ed] at hw2
    have hkk := hw2.known
    obtain ⟨aw, cw, rfl⟩ := hkk
    have hci := hw2.ints
    obtain ⟨ax, cx, ex, hci⟩ := hci
    cases ex
    have hdl := hdo.len
    have hcik := hci s (by omega)
    clear hci
    obtain ⟨r5, o5, sp5, ea5, hsp5, hc5⟩ := hcik
    subst ea5
    rw [← gl_at (l := d) (i := s) (by omega)] at hc5
    have hko := (k1.ext hs.gr).ints
    obtain ⟨ay, cy, ey, hko⟩ := hko
    cases ey
    have hkos := hko s (by omega)
    clear hko
    obtain ⟨r6, o6, sp6, ea6, hsp6, hc6⟩ := hkos
    subst ea6
    rw [← gl_at (l := p.out) (i := s) (by omega)] at hc6
    conv => whnf
    repeat (refine SeqP.go ?_; conv => whnf)
    refine ⟨_, cellAt_row hbx x0, ?_⟩
    conv => whnf
    refine ⟨hsp, ⟨by omega, by omega⟩, ?_⟩
    conv => whnf
    refine ⟨.slice (some ⟨r5, o5, sp5⟩) d.length cw, by rw [offAt_eq, Nat.add_comm]; simpa using hw1, ?_⟩
    conv => whnf
    refine ⟨hsp5, ⟨by omega, by omega⟩, ?_⟩
    conv => whnf
    refine ⟨int (gl d s), by rw [offAt_eq, Nat.add_comm]; simpa using hc5, ?_⟩
    conv => whnf
    have same : ¬ (0 < gl d s ∧ gl p.out s ≠ on) → (gb ms i = true ↔ ∃ s', s' < s + 1 ∧ 0 < gl d s' ∧ gl p.out s' ≠ on) := fun hn => by
      rw [hmi]
      constructor
      · rintro ⟨s', h1, h2⟩
        exact ⟨s', by omega, h2⟩
      · rintro ⟨s', h1, h2⟩
        by_cases e : s' = s
        · subst e; exact absurd h2 hn
        · exact ⟨s', by omega, h2⟩
    refine cmpB (fun c3 => ?_) (fun c3 => ?_)
    · conv => whnf
      refine ⟨_, cellAt_row hbp b1, ?_⟩
      conv => whnf
      refine ⟨hsp6, ⟨by omega, by omega⟩, ?_⟩
      conv => whnf
      refine ⟨int (gl p.out s), by rw [offAt_eq, Nat.add_comm]; simpa using hc6, ?_⟩
      conv => whnf
      refine cmpB (fun c4 => ?_) (fun c4 => ?_)
      · conv => whnf
        refine ⟨rfl, ⟨by omega, by omega⟩, ?_⟩
        conv => whnf
        refine ⟨rfl, _, hs.store (i := i) (by omega) true, ?_⟩
        conv => whnf
        repeat (refine SeqP.go ?_; conv => whnf)
        refine ⟨((s + 1 : Nat) : Int), wie (by omega) (by omega), ?_⟩
        conv => whnf
        refine Rnd.mk (s + 1, ms.set i true, _) ⟨by show s + 1 ≤ _; omega, hs.put _, by show (ms.set i true).length = _; rw [List.length_set]; exact hml, fun a ha => ?_, ?_, by rw [Hp.at_set_ne _ (by omega)]; exact hbp, by rw [Hp.at_set_ne _ (by omega)]; exact hbx⟩ (by show _ - (s + 1) < _ - s; omega) ⟨rfl, rfl, rfl, rfl, rfl, rfl, trivial⟩ (Hp.Le.refl _) rfl
        · show gb (ms.set i true) a = true ↔ _
          rw [gb_set (by omega), if_neg ha]
          exact hms a ha
        · show gb (ms.set i true) i = true ↔ _
          rw [gb_set (by omega), if_pos rfl]
          exact ⟨fun _ => ⟨s, Nat.lt_succ_self _, by omega, c4⟩, fun _ => rfl⟩
      · conv => whnf
        repeat (refine SeqP.go ?_; conv => whnf)
        refine ⟨((s + 1 : Nat) : Int), wie (by omega) (by omega), ?_⟩
        conv => whnf
        exact Rnd.mk (s + 1, ms, H) ⟨by show s + 1 ≤ _; omega, hs, hml, hms, same fun k => c4 k.2, hbp, hbx⟩ (by show _ - (s + 1) < _ - s; omega) ⟨rfl, rfl, rfl, rfl, rfl, rfl, trivial⟩ (Hp.Le.refl _) rfl
    · conv => whnf
      repeat (refine SeqP.go ?_; conv => whnf)
      refine ⟨((s + 1 : Nat) : Int), wie (by omega) (by omega), ?_⟩
      conv => whnf
      exact Rnd.mk (s + 1, ms, H) ⟨by show s + 1 ≤ _; omega, hs, hml, hms, same fun k => by omega, hbp, hbx⟩ (by show _ - (s + 1) < _ - s; omega) ⟨rfl, rfl, rfl, rfl, rfl, rfl, trivial⟩ (Hp.Le.refl _) rfl
  rintro ⟨ms, H4⟩ φ5 _ ⟨rfl, hs4, hml4, hms4, hbx4⟩
  dsimp only at hs4 hml4 hms4 hbx4 ⊢
  conv => whnf
  refine SeqP.cut (α := Nat × Bool × List Bool × Hp) (fun s => [(10, slc s.1 0 L.length L.length)]) (fun s H => s.2.2.2 = H ∧ SM h s.1 s.2.1 s.2.2.1 s.2.2.2 ∧ s.2.2.1.length = L.length ∧ (∀ a, gb s.2.2.1 a = true ↔ Lead p.rules L (Oth p.out on L) a)) ?_ ?_
  · conv => whnf
    refine ⟨bx, all_cells hbx4 hxl, ?_⟩
    conv => whnf
    refine CallP.mono (spread_spec bx nv _ p.rules L N ms _ hxl hxo x2 (hN.ext hs4.gr) hnx ⟨r, true, by rw [hml4]; rfl, hs4.at_⟩ hml4 hL0 (by omega)) ?_
    rintro r5 H5 ⟨⟨ms5, hb5, hl5, hm5⟩, g5, k5, ⟨n5, e5⟩, hk5⟩
    obtain ⟨r6, x6, e6, hat6⟩ := hb5
    have hrk : r6 = k5 := by
      rw [e6] at e5
      simp [slc] at e5
      exact e5.1
    subst hrk
    subst e6
    conv => whnf
    refine ⟨(r6, x6, ms5, H5), ⟨by rw [← hl5]; rfl, trivial⟩, ⟨rfl, ⟨hat6, hs4.gr.trans g5, ?_⟩, hl5, fun a => ?_⟩, rfl⟩
    · have := hs4.gr.next
      show h.next ≤ r6
      omega
    · rw [hm5]
      have : (fun t => gb ms t = true) = Oth p.out on L := funext fun t => propext (hms4 t)
      rw [this]
  rintro ⟨k, x6, ms5, H5⟩ φ6 _ ⟨rfl, hs5, hl5, hm5⟩
  dsimp only at hs5 hl5 hm5 ⊢
  conv => whnf
  refine SeqP.cut (α := List Bool × Hp) (fun s => [(10, slc k 0 L.length L.length)]) (fun s H => s.2 = H ∧ SM h k x6 s.1 s.2 ∧ s.1.length = L.length ∧ ∀ a, gb s.1 a = true ↔ SetN p.rules p.out on L a) ?_ ?_
  rotate_left
  · rintro ⟨ms6, H6⟩ φ7 _ ⟨rfl, h1, h2, h3⟩
    dsimp only at h1 h2 h3 ⊢
    conv => whnf
    repeat (refine SeqP.go ?_; conv => whnf)
    exact ⟨⟨ms6, ⟨k, x6, by rw [h2]; rfl, h1.at_⟩, h2, h3⟩, h1.gr⟩
  conv => whnf
  repeat (refine SeqP.go ?_; conv => whnf)
  refine loop_inv (α := Nat × List Bool × Hp) (fun s => [(11, int s.1), (10, slc k 0 L.length L.length)]) (fun s => s.2.2) (fun s => s.1 ≤ L.length ∧ SM h k x6 s.2.1 s.2.2 ∧ s.2.1.length = L.length ∧ (∀ a, a < s.1 → gb s.2.1 a = !gb ms5 a) ∧ (∀ a, s.1 ≤ a → gb s.2.1 a = gb ms5 a)) (fun s => L.length - s.1) (0, ms5, H5) ⟨Nat.zero_le _, hs5, hl5, fun a ha => absurd ha (Nat.not_lt_zero _), fun a _ => rfl⟩ ⟨rfl, rfl, trivial⟩ (Hp.Le.refl _) ?_
  rintro ⟨i, ms6, H6⟩ φ8 ⟨hi, hs6, hl6, hlo, hhi⟩
  dsimp only at hi hs6 hl6 hlo hhi ⊢
  conv => whnf
  repeat (refine SeqP.go ?_; conv => whnf)
  refine cmpB (fun c1 => ?_) (fun c1 => ?_)
  rotate_left
  · have : i = L.length := by omega
    subst this
    conv => whnf
    repeat (refine SeqP.go ?_; conv => whnf)
    refine ⟨(ms6, H6), ⟨rfl, trivial⟩, ⟨rfl, hs6, hl6, fun a => ?_⟩, rfl⟩
    show gb ms6 a = true ↔ _
    unfold SetN
    rw [← hm5 a]
    by_cases ha : a < L.length
    · rw [hlo a ha]
      cases gb ms5 a <;> simp [ha]
    · rw [gb_out (by omega)]
      simp [ha]
  have hil : i < L.length := by omega
  have hexb : ∃ b, gb ms6 i = b := ⟨_, rfl⟩
  obtain ⟨b, eb⟩ := hexb
  have hld := hs6.load (i := i) (by omega)
  rw [eb] at hld
  conv => whnf
  repeat (refine SeqP.go ?_; conv => whnf)
  refine ⟨rfl, ⟨by omega, by omega⟩, ?_⟩
  conv => whnf
  refine ⟨_, hld, ?_⟩
  conv => whnf
  refine ⟨rfl, ⟨by omega, by omega⟩, ?_⟩
  conv => whnf
  refine ⟨rfl, _, hs6.store (i := i) (by omega) (!b), ?_⟩
  conv => whnf
  refine ⟨((i + 1 : Nat) : Int), wie (by omega) (by omega), ?_⟩
  conv => whnf
  refine Rnd.mk (i + 1, ms6.set i (!b), _) ⟨by show i + 1 ≤ _; omega, hs6.put _, by show (ms6.set i (!b)).length = _; rw [List.length_set]; exact hl6, fun a ha => ?_, fun a ha => ?_⟩ (by show _ - (i + 1) < _ - i; omega) ⟨rfl, rfl, trivial⟩ (Hp.Le.refl _) rfl
  · show gb (ms6.set i (!b)) a = _
    rw [gb_set (by omega)]
    split
    · rename_i e
      rw [← hhi a (by omega), e, eb]
    · exact hlo a (by have : a < i + 1 := ha; omega)
  · show gb (ms6.set i (!b)) a = _
    have : i + 1 ≤ a := ha
    rw [gb_set (by omega), if_neg (by omega)]
    exact hhi a (by omega)
end
end Go.Proofs.Ytpiplaicnbapbaa
namespace Go.Proofs.Ytpiplaicnbapbaa
open Go.Rx Go.RowKit
def keyN (l : List Int) : Nat → Int
  | 0 => 0
  | k + 1 => 10 * keyN l k + gl l k
theorem keyN_bd {l : List Int} (h : ∀ i, 0 ≤ gl l i ∧ gl l i ≤ 9) : ∀ k, 0 ≤ keyN l k ∧ keyN l k < 10 ^ k
  | 0 => by simp [keyN]
  | k + 1 => by
    have := keyN_bd h k
    have := h k
    rw [show (10 : Int) ^ (k + 1) = 10 ^ k * 10 from Int.pow_succ ..]
    unfold keyN
    omega
theorem keyN_inj {l m : List Int} (hl : ∀ i, 0 ≤ gl l i ∧ gl l i ≤ 9) (hm : ∀ i, 0 ≤ gl m i ∧ gl m i ≤ 9) : ∀ k, keyN l k = keyN m k → ∀ i, i < k → gl l i = gl m i
  | 0, _, i, hi => by omega
  | k + 1, e, i, hi => by
    unfold keyN at e
    have h1 := hl k
    have h2 := hm k
    by_cases e2 : i = k
    · subst e2; omega
    · exact keyN_inj hl hm k (by omega) i (by omega)
def keyOf (l : List Int) : Int := keyN l l.length
theorem keyOf_inj {n : Nat} {l m : List Int} (hl : CrOk n l) (hm : CrOk n m) (e : keyOf l = keyOf m) : l = m := by
  unfold keyOf at e
  rw [hl.len, hm.len] at e
  have := keyN_inj (fun i => ⟨hl.nn i, hl.le i⟩) (fun i => ⟨hm.nn i, hm.le i⟩) n e
  apply List.ext_getElem (by rw [hl.len, hm.len])
  intro i h1 h2
  have := this i (by rw [hl.len] at h1; exact h1)
  rwa [gl_at h1, gl_at h2] at this
theorem keyOf_bd {n : Nat} {l : List Int} (hn : n ≤ 5) (hl : CrOk n l) : 0 ≤ keyOf l ∧ keyOf l < 100000 := by
  unfold keyOf
  rw [hl.len]
  have := keyN_bd (l := l) (fun i => ⟨hl.nn i, hl.le i⟩) n
  have h2 : (10 : Int) ^ n ≤ 100000 := by
    have : n = 0 ∨ n = 1 ∨ n = 2 ∨ n = 3 ∨ n = 4 ∨ n = 5 := by omega
    rcases this with e | e | e | e | e | e <;> subst e <;> decide
  omega
attribute [local irreducible] E idxN cellAt cellsAt storeAt callable helems hmoved lookIn findKey keyOk hentries Hp.at Hp.set Hp.lay arBits hupdated setAt CallP YieldP BoolOf IsWrap Rnd LoopP AppP CutP Int.tmod Int.tdiv Int.fdiv
section
variable [Unknowns]
attribute [local irreducible] ResP sameAt
theorem key_spec (v : Value) (l : List Int) (h : Hp) (hv : Ints h v l) (hl : l.length ≤ 5) (hd : ∀ i, 0 ≤ gl l i ∧ gl l i ≤ 9) : CallP E 81 [v] h (fun r h' => r = int (keyOf l) ∧ h' = h) := by
  obtain ⟨a, c, rfl, hc⟩ := id hv
  have hbd := keyN_bd hd
  refine enter81 (by simp) ?_
  conv => whnf
  refine SeqP.go ?_
  conv => whnf
  refine SeqP.go ?_
  conv => whnf
  refine SeqP.cut (α := Unit) (fun _ => [(3, int (keyOf l))]) (fun _ H => H = h) ?_ ?_
  rotate_left
  · rintro _ φ9 _ rfl
    conv => whnf
    repeat (refine SeqP.go ?_; conv => whnf)
    exact ⟨rfl, rfl⟩
  conv => whnf
  repeat (refine SeqP.go ?_; conv => whnf)
  refine loop_inv (α := Nat) (fun k => [(4, int k), (3, int (keyN l k)), (0, .slice a l.length c)]) (fun _ => h) (fun k => k ≤ l.length) (fun k => l.length - k) 0 (Nat.zero_le _) ⟨rfl, rfl, rfl, trivial⟩ (Hp.Le.refl _) ?_
  intro k φ hk
  conv => whnf
  repeat (refine SeqP.go ?_; conv => whnf)
  refine cmpB (fun c1 => ?_) (fun c1 => ?_)
  rotate_left
  · have : k = l.length := by omega
    subst this
    conv => whnf
    repeat (refine SeqP.go ?_; conv => whnf)
    exact ⟨(), ⟨rfl, trivial⟩, rfl, rfl⟩
  have hkl : k < l.length := by omega
  have hck := hc k hkl
  clear hc
  obtain ⟨r, o, sp, ea, hsp, hci⟩ := hck
  subst ea
  rw [← gl_at hkl] at hci
  have h1 := hbd k
  have h2 := hd k
  have h5 : keyN l (k + 1) = 10 * keyN l k + gl l k := rfl
  have h4 : (10 : Int) ^ k ≤ 10000 := by
    have : k = 0 ∨ k = 1 ∨ k = 2 ∨ k = 3 ∨ k = 4 := by omega
    rcases this with e | e | e | e | e <;> subst e <;> decide
  conv => whnf
  repeat (refine SeqP.go ?_; conv => whnf)
  refine ⟨10 * keyN l k, wie rfl (by omega), ?_⟩
  conv => whnf
  refine ⟨hsp, ⟨by omega, by omega⟩, ?_⟩
  conv => whnf
  refine ⟨int (gl l k), by rw [offAt_eq, Nat.add_comm]; simpa using hci, ?_⟩
  conv => whnf
  refine ⟨keyN l (k + 1), wie rfl (by omega), ?_⟩
  conv => whnf
  refine ⟨((k + 1 : Nat) : Int), wie (by omega) (by omega), ?_⟩
  conv => whnf
  exact Rnd.mk (k + 1) (by show k + 1 ≤ _; omega) (by show _ - (k + 1) < _ - k; omega) ⟨rfl, rfl, rfl, trivial⟩ (Hp.Le.refl _) rfl
end
end Go.Proofs.Ytpiplaicnbapbaa
namespace Go.Proofs.Ytpiplaicnbapbaa
open Go.Rx Go.RowKit
structure BfOk (R : List Q4) (L : List (List Int)) (B : List (List Int)) : Prop where
  len : B.length = L.length
  fwd : ∀ i, (hi : i < B.length) → ∀ x ∈ B[i], ∃ k : Nat, x = (k : Int) ∧ Ed R L k i
  bwd : ∀ k i, Ed R L k i → ∃ hi : i < B.length, (k : Int) ∈ B[i]
  small : ∀ i, (hi : i < B.length) → B[i].length ≤ 10000000
structure Nums (m : Nat) (l : List Int) : Prop where
  rng : ∀ x ∈ l, ∃ k : Nat, x = (k : Int) ∧ k < m
  once : ∀ i j, i < j → j < l.length → gl l i ≠ gl l j
structure Wk (R : List Q4) (L : List (List Int)) (T : Nat → Prop) (at_ : Nat) (l : List Int) (ms : List Bool) : Prop where
  len : ms.length = L.length
  cnt : l.length + nf ms = L.length
  rng : ∀ x ∈ l, ∃ k : Nat, x = (k : Int) ∧ k < L.length
  same : ∀ k : Nat, gb ms k = true ↔ (k : Int) ∈ l
  lead : ∀ k : Nat, (k : Int) ∈ l → Lead R L T k
  all : ∀ t : Nat, T t → (t : Int) ∈ l
  clo : ∀ j a b : Nat, j < at_ → j < l.length → gl l j = (b : Int) → Ed R L a b → (a : Int) ∈ l
theorem gl_snoc {l : List Int} {x : Int} {j : Nat} (h : j < l.length) : gl (l ++ [x]) j = gl l j := by
  unfold gl
  rw [List.getD_eq_getElem?_getD, List.getD_eq_getElem?_getD, List.getElem?_append_left h]
theorem Wk.add {R : List Q4} {L : List (List Int)} {T : Nat → Prop} {at_ : Nat} {l : List Int} {ms : List Bool} (w : Wk R L T at_ l ms) (ha : at_ ≤ l.length) {k : Nat} (hk : k < L.length) (hf : gb ms k = false) (hl : Lead R L T k) : Wk R L T at_ (l ++ [(k : Int)]) (ms.set k true) := by
  have hlen := w.len
  have hn := nf_set (l := ms) (i := k) (by omega) hf
  have hc := w.cnt
  refine ⟨by rw [List.length_set]; exact w.len, by rw [List.length_append, List.length_singleton]; omega, fun x hx => ?_, fun j => ?_, fun j hj => ?_, fun t ht => List.mem_append_left _ (w.all t ht), fun j a b hj hj2 e he => ?_⟩
  · rcases List.mem_append.1 hx with hx | hx
    · exact w.rng x hx
    · exact ⟨k, List.mem_singleton.1 hx, hk⟩
  · rw [gb_set (by omega), List.mem_append, List.mem_singleton, ← w.same j]
    by_cases e : j = k
    · subst e; simp
    · rw [if_neg e]
      constructor
      · intro h; exact .inl h
      · rintro (h | h)
        · exact h
        · exact absurd (by omega) e
  · rcases List.mem_append.1 hj with hj | hj
    · exact w.lead j hj
    · have := List.mem_singleton.1 hj
      have : j = k := by omega
      rw [this]; exact hl
  · rw [gl_snoc (by omega)] at e
    exact List.mem_append_left _ (w.clo j a b hj (by omega) e he)
theorem Wk.turn {R : List Q4} {L : List (List Int)} {T : Nat → Prop} {at_ : Nat} {l : List Int} {ms : List Bool} (w : Wk R L T at_ l ms) (h : ∀ a b : Nat, gl l at_ = (b : Int) → Ed R L a b → (a : Int) ∈ l) : Wk R L T (at_ + 1) l ms :=
  ⟨w.len, w.cnt, w.rng, w.same, w.lead, w.all, fun j a b hj hj2 e he => by
    by_cases e2 : j = at_
    · subst e2; exact h a b e he
    · exact w.clo j a b (by omega) hj2 e he⟩
theorem Wk.done {R : List Q4} {L : List (List Int)} {T : Nat → Prop} {l : List Int} {ms : List Bool} (w : Wk R L T l.length l ms) (a : Nat) : gb ms a = true ↔ Lead R L T a := by
  rw [w.same]
  refine ⟨w.lead a, fun h => h.least (M := fun a : Nat => (a : Int) ∈ l) w.all fun a b e hb => ?_⟩
  obtain ⟨j, hj, ej⟩ := List.getElem_of_mem hb
  exact w.clo j a b hj hj (by rw [gl_at hj]; exact ej) e
structure Mt (m : Nat) (to : List Int) (k : Nat) (ms : List Bool) : Prop where
  len : ms.length = m
  cnt : k + nf ms = m
  same : ∀ a : Nat, gb ms a = true ↔ ∃ i, i < k ∧ gl to i = (a : Int)
theorem nf_rep (n : Nat) : nf (List.replicate n false) = n := by
  induction n with
  | zero => rfl
  | succ n ih => rw [List.replicate_succ]; simp [nf, ih]; omega
theorem Mt.start (m : Nat) (to : List Int) : Mt m to 0 (List.replicate m false) := ⟨List.length_replicate, by rw [nf_rep]; omega, fun a => ⟨fun e => (by rw [gb_rep] at e; cases e), fun ⟨i, hi, _⟩ => absurd hi (Nat.not_lt_zero _)⟩⟩
theorem Mt.next {m : Nat} {to : List Int} {k : Nat} {ms : List Bool} (w : Mt m to k ms) (ht : Nums m to) (hk : k < to.length) {a : Nat} (ea : gl to k = (a : Int)) (ha : a < m) : Mt m to (k + 1) (ms.set a true) := by
  have hf : gb ms a = false := by
    cases e : gb ms a with
    | false => rfl
    | true =>
      obtain ⟨i, hi, e2⟩ := (w.same a).1 e
      exact absurd (e2.trans ea.symm) (ht.once i k hi hk)
  have hl := w.len
  have hn := nf_set (l := ms) (i := a) (by omega) hf
  have hc := w.cnt
  refine ⟨by rw [List.length_set]; exact hl, by omega, fun b => ?_⟩
  rw [gb_set (by omega)]
  constructor
  · intro e
    split at e
    · rename_i e2; exact ⟨k, Nat.lt_succ_self _, by rw [ea, e2]⟩
    · obtain ⟨i, hi, e2⟩ := (w.same b).1 e
      exact ⟨i, by omega, e2⟩
  · rintro ⟨i, hi, e⟩
    split
    · rfl
    · rename_i e2
      refine (w.same b).2 ⟨i, ?_, e⟩
      by_cases e3 : i = k
      · subst e3; exact absurd (by omega) e2
      · omega
theorem Mt.done {R : List Q4} {L : List (List Int)} {to : List Int} {ms : List Bool} (w : Mt L.length to to.length ms) (ht : Nums L.length to) : Wk R L (fun t => (t : Int) ∈ to) 0 to ms :=
  ⟨w.len, w.cnt, ht.rng, fun k => by
    rw [w.same]
    constructor
    · rintro ⟨i, hi, e⟩
      rw [← e, gl_at hi]
      exact List.getElem_mem _
    · intro h
      obtain ⟨i, hi, e⟩ := List.getElem_of_mem h
      exact ⟨i, hi, by rw [gl_at hi]; exact e⟩, fun k hk => Lead.self hk, fun t ht => ht, fun j a b hj => absurd hj (Nat.not_lt_zero _)⟩
end Go.Proofs.Ytpiplaicnbapbaa
namespace Go.Proofs.Ytpiplaicnbapbaa
open Go.Rx Go.RowKit
def AL (h : Hp) (v : Value) (L : List (List Int)) : Prop := ∃ a c, v = .slice a L.length c ∧ ∀ j, (hj : j < L.length) → ∃ r o, a = some ⟨r, o, none⟩ ∧ cellsAt h r (j * 5 + o) 5 = some ((pad5 L[j]).map int)
theorem AL.ext {h h' : Hp} {v : Value} {L : List (List Int)} (g : Grows h h') (k : AL h v L) : AL h' v L := by
  obtain ⟨a, c, e, hc⟩ := k
  exact ⟨a, c, e, fun j hj => let ⟨r, o, e1, e2⟩ := hc j hj; ⟨r, o, e1, g.cells e2⟩⟩
structure PR (h : Hp) (bx : List Value) (R : List Q4) (n : Nat) (c : List Int) (L B : List (List Int)) : Prop where
  len : bx.length = 2
  one : bx.all oneCell = true
  lv : ∃ v, bx[0]? = some v ∧ AL h v L
  bv : ∃ v, bx[1]? = some v ∧ SL h v B
  bf : BfOk R L B
  gr : Gr R c L
  ok : ∀ d ∈ L, CrOk n d
  few : L.length ≤ 100000
theorem PR.ext {h h' : Hp} {bx : List Value} {R : List Q4} {n : Nat} {c : List Int} {L B : List (List Int)} (g : Grows h h') (k : PR h bx R n c L B) : PR h' bx R n c L B := by
  obtain ⟨h1, h2, ⟨v, h3, h4⟩, ⟨w, h5, h6⟩, h7, h8, h9, h10⟩ := k
  exact ⟨h1, h2, ⟨v, h3, h4.ext g⟩, ⟨w, h5, h6.ext g⟩, h7, h8, h9, h10⟩
structure Up (P : Nat → Prop) (i : Nat) (l : List Int) : Prop where
  rng : ∀ x ∈ l, ∃ k : Nat, x = (k : Int) ∧ k < i
  once : ∀ a b, a < b → b < l.length → gl l a ≠ gl l b
  mem : ∀ k : Nat, (k : Int) ∈ l ↔ k < i ∧ P k
  cnt : l.length ≤ i
theorem Up.start (P : Nat → Prop) : Up P 0 [] := ⟨fun x h => by simp at h, fun a b _ h => by simp at h, fun k => ⟨fun h => by simp at h, fun h => absurd h.1 (Nat.not_lt_zero _)⟩, Nat.le_refl _⟩
theorem Up.skip {P : Nat → Prop} {i : Nat} {l : List Int} (u : Up P i l) (h : ¬ P i) : Up P (i + 1) l :=
  ⟨fun x hx => let ⟨k, e, hk⟩ := u.rng x hx; ⟨k, e, by omega⟩, u.once, fun k => (u.mem k).trans ⟨fun e => ⟨by omega, e.2⟩, fun e => ⟨by
    by_cases e2 : k = i
    · subst e2; exact absurd e.2 h
    · omega, e.2⟩⟩, by have := u.cnt; omega⟩
theorem Up.add {P : Nat → Prop} {i : Nat} {l : List Int} (u : Up P i l) (h : P i) : Up P (i + 1) (l ++ [(i : Int)]) := by
  refine ⟨fun x hx => ?_, fun a b hab hb => ?_, fun k => ?_, by have := u.cnt; rw [List.length_append, List.length_singleton]; omega⟩
  · rcases List.mem_append.1 hx with hx | hx
    · obtain ⟨k, e, hk⟩ := u.rng x hx
      exact ⟨k, e, by omega⟩
    · exact ⟨i, List.mem_singleton.1 hx, by omega⟩
  · rw [List.length_append, List.length_singleton] at hb
    by_cases e : b < l.length
    · rw [gl_snoc e, gl_snoc (by omega)]
      exact u.once a b hab e
    · have e2 : b = l.length := by omega
      subst e2
      rw [gl_snoc hab]
      have e3 : gl (l ++ [(i : Int)]) l.length = (i : Int) := by
        rw [gl_at (by simp)]
        simp
      rw [e3]
      intro e4
      have hm : gl l a ∈ l := by rw [gl_at hab]; exact List.getElem_mem _
      obtain ⟨k, e5, hk⟩ := u.rng _ hm
      omega
  · rw [List.mem_append, List.mem_singleton, u.mem k]
    constructor
    · rintro (e | e)
      · exact ⟨by omega, e.2⟩
      · have : k = i := by omega
        subst this
        exact ⟨by omega, h⟩
    · rintro ⟨e1, e2⟩
      by_cases e3 : k = i
      · exact .inr (by omega)
      · exact .inl ⟨by omega, e2⟩
end Go.Proofs.Ytpiplaicnbapbaa
namespace Go.Proofs.Ytpiplaicnbapbaa
open Go.Rx Go.RowKit
attribute [local irreducible] E idxN cellAt cellsAt storeAt callable helems hmoved lookIn findKey keyOk hentries Hp.at Hp.set Hp.lay arBits hupdated setAt CallP YieldP BoolOf IsWrap Rnd LoopP AppP CutP Int.tmod Int.tdiv Int.fdiv
section
variable [Unknowns]
attribute [local irreducible] ResP sameAt
theorem sameV_slice3 (a : Option Addr) (n m : Nat) : sameV 3 (.slice a n m) (.slice a n m) = true := sameV_slice a n m
end
end Go.Proofs.Ytpiplaicnbapbaa
namespace Go.Proofs.Ytpiplaicnbapbaa
open Go.Rx Go.RowKit
def FirstOf (P : Int → Prop) (s : Int) (b : Bool) : Prop := (P 0 → s = 0 ∧ b = true) ∧ (¬ P 0 → P 1 → s = 1 ∧ b = true) ∧ (¬ P 0 → ¬ P 1 → s = 0 ∧ b = false)
end Go.Proofs.Ytpiplaicnbapbaa
namespace Go.Proofs.Ytpiplaicnbapbaa
open Go.Rx Go.RowKit
def FirstOr (P : Int → Prop) (s : Int) : Prop := (P 0 → s = 0) ∧ (¬ P 0 → P 1 → s = 1) ∧ (¬ P 0 → ¬ P 1 → s = -1)
def RReachedOk [Unknowns] : Prop := ∀ (v w : Value) (p : Prot) (n : Nat) (c : List Int) (h : Hp), PV h v p → View h w c → POk p → p.n = n → CrOk n c → CallP E 39 [v, w] h (fun r h' => (∃ bx L N, r = .agg ⟨bx⟩ ∧ CR h' bx p.rules n c L N) ∧ Grows h h')
attribute [local irreducible] E idxN cellAt cellsAt storeAt callable helems hmoved lookIn findKey keyOk hentries Hp.at Hp.set Hp.lay arBits hupdated setAt CallP YieldP BoolOf IsWrap Rnd LoopP AppP CutP Int.tmod Int.tdiv Int.fdiv
section
variable [Unknowns]
attribute [local irreducible] ResP sameAt
theorem CR.stored {h : Hp} {bx : List Value} {R : List Q4} {n : Nat} {c : List Int} {L N : List (List Int)} (k : CR h bx R n c L N) : ∃ a0 n0 c0 a1 n1 c1 a2 n2 c2, bx = [.slice a0 n0 c0, .slice a1 n1 c1, .slice a2 n2 c2] := by
  obtain ⟨hl, -, ⟨v, x0, hL⟩, ⟨w, x2, hN⟩, -, -, -, -, ⟨u, S, x1, hS, -⟩⟩ := k
  obtain ⟨a0, c0, rfl, -⟩ := hL
  obtain ⟨a2, c2, rfl, -⟩ := hN
  obtain ⟨a1, c1, rfl⟩ := hS.known
  match bx, hl, x0, x1, x2 with
  | [_, _, _], _, x0, x1, x2 =>
    cases x0
    cases x1
    cases x2
    exact ⟨_, _, _, _, _, _, _, _, _, rfl⟩
end
end Go.Proofs.Ytpiplaicnbapbaa
namespace Go.Proofs.Ytpiplaicnbapbaa
open Go.Rx Go.RowKit
attribute [local irreducible] E idxN cellAt cellsAt storeAt callable helems hmoved lookIn findKey keyOk hentries Hp.at Hp.set Hp.lay arBits hupdated setAt CallP YieldP BoolOf IsWrap Rnd LoopP AppP CutP Int.tmod Int.tdiv Int.fdiv
section
variable [Unknowns]
attribute [local irreducible] ResP sameAt
theorem CR.same {h : Hp} {bx : List Value} {R : List Q4} {n : Nat} {c : List Int} {L N : List (List Int)} (k : CR h bx R n c L N) : sameV 4 (.agg ⟨bx⟩) (.agg ⟨bx⟩) = true := by
  obtain ⟨u0, m0, k0, u1, m1, k1, u2, m2, k2, ebx⟩ := k.stored
  subst ebx
  show (Nat.beq 3 3 && (sameV 3 (.slice u0 m0 k0) (.slice u0 m0 k0) && (sameV 3 (.slice u1 m1 k1) (.slice u1 m1 k1) && (sameV 3 (.slice u2 m2 k2) (.slice u2 m2 k2) && true)))) = true
  rw [sameV_slice3, sameV_slice3, sameV_slice3]
  rfl
theorem RDecidesTop_spec (hR : RReachedOk) (v w : Value) (p : Prot) (n : Nat) (c : List Int) (h : Hp) (hv : PV h v p) (hw : View h w c) (hP : POk p) (en : p.n = n) (hc : CrOk n c) : CallP E 42 [v, w] h (fun r h' => (∃ s, r = int s ∧ FirstOr (fun on => DeciC p.rules p.out on c) s) ∧ Grows h h') := by
  obtain ⟨bp, rfl, hbl, -⟩ := hv.box
  obtain ⟨ac, cc, rfl⟩ := hw.known
  have g0 : Grows h (h.lay (.row 26 true bp)) := Grows.lay _ _
  have a0 : (h.lay (.row 26 true bp)).at h.next = some (.row 26 true bp) := Hp.at_lay_self _ _
  refine enter42 (by simp) ?_
  conv => whnf
  refine SeqP.go ?_
  conv => whnf
  refine SeqP.cut (α := List Value × List (List Int) × List (List Int) × Nat × Hp) (fun s => [(5, ptr s.2.2.2.1 0), (2, ptr h.next 0)]) (fun s H => s.2.2.2.2 = H ∧ CR H s.1 p.rules n c s.2.1 s.2.2.1 ∧ Grows h H ∧ H.at h.next = some (.row 26 true bp) ∧ H.at s.2.2.2.1 = some (.row 64 true s.1)) ?_ ?_
  · conv => whnf
    refine ⟨bp, all_cells a0 hbl, ?_⟩
    conv => whnf
    refine CallP.mono (hR _ _ p n c _ (hv.ext g0) (hw.ext g0) hP en hc) ?_
    rintro r1 H1 ⟨⟨bx, L, N, rfl, hx⟩, g1⟩
    have hst := hx.stored
    obtain ⟨u0, m0, k0, u1, m1, k1, u2, m2, k2, ebx⟩ := hst
    subst ebx
    conv => whnf
    refine ⟨rfl, _, storeAt_all (vs := [.slice u0 m0 k0, .slice u1 m1 k1, .slice u2 m2 k2]) rfl rfl rfl, ?_⟩
    conv => whnf
    exact ⟨(_, L, N, H1.next, _), ⟨rfl, rfl, trivial⟩, ⟨rfl, hx.ext (Grows.lay _ _), (g0.trans g1).then_lay _, Hp.at_lay_old _ (g1.at_ _ _ a0), Hp.at_lay_self _ _⟩, rfl⟩
  rintro ⟨bx, L, N, X, H1⟩ φ1 _ ⟨rfl, hx, hg1, hb1, hX1⟩
  dsimp only at hx hg1 hb1 hX1 ⊢
  have hxl := hx.len
  have hfew := hx.few
  have hsame := hx.same
  have hL0 := hx.gr.pos
  obtain ⟨-, hxo, -, ⟨nv, x2, hN⟩, hnx, hgr, hok, -⟩ := id hx
  conv => whnf
  refine SeqP.cut (α := Hp) (fun _ => []) (fun s H => s = H ∧ Grows h s ∧ ¬ DeciC p.rules p.out 0 c ∧ ¬ DeciC p.rules p.out 1 c) ?_ ?_
  rotate_left
  · rintro H φ9 _ ⟨rfl, hg, h1, h2⟩
    conv => whnf
    repeat (refine SeqP.go ?_; conv => whnf)
    exact ⟨⟨_, rfl, fun k => absurd k h1, fun _ k => absurd k h2, fun _ _ => rfl⟩, hg⟩
  conv => whnf
  repeat (refine SeqP.go ?_; conv => whnf)
  refine loop_inv (α := Nat × Hp) (fun s => [(6, int s.1), (5, ptr X 0), (2, ptr h.next 0)]) (fun s => s.2) (fun s => s.1 ≤ 2 ∧ Grows H1 s.2 ∧ (0 < s.1 → ¬ DeciC p.rules p.out 0 c) ∧ (1 < s.1 → ¬ DeciC p.rules p.out 1 c)) (fun s => 2 - s.1) (0, H1) ⟨Nat.zero_le _, .refl _, fun e => absurd e (Nat.lt_irrefl _), fun e => absurd (show 1 < 0 from e) (by decide)⟩ ⟨rfl, rfl, rfl, trivial⟩ (Hp.Le.refl _) ?_
  rintro ⟨i, H⟩ φ ⟨hi, hg, n0, n1⟩
  dsimp only at hi hg n0 n1 ⊢
  conv => whnf
  repeat (refine SeqP.go ?_; conv => whnf)
  refine cmpB (fun c1 => ?_) (fun c1 => ?_)
  rotate_left
  · conv => whnf
    repeat (refine SeqP.go ?_; conv => whnf)
    exact ⟨H, trivial, ⟨rfl, hg1.trans hg, n0 (by omega), n1 (by omega)⟩, rfl⟩
  have gH := hg1.trans hg
  have hi2 : i = 0 ∨ i = 1 := by omega
  conv => whnf
  refine SeqP.cut (α := Hp) (fun s => [(6, int i), (5, ptr X 0), (2, ptr h.next 0)]) (fun s H' => s = H' ∧ Grows H s ∧ ¬ DeciC p.rules p.out i c) ?_ ?_
  rotate_left
  · rintro H2 φ2 _ ⟨rfl, g2, hno⟩
    conv => whnf
    refine ⟨((i + 1 : Nat) : Int), wie (by omega) (by omega), ?_⟩
    conv => whnf
    refine Rnd.mk (i + 1, H2) ⟨by show i + 1 ≤ 2; omega, hg.trans g2, fun _ => ?_, fun e => ?_⟩ (by show 2 - (i + 1) < 2 - i; omega) ⟨rfl, rfl, rfl, trivial⟩ (Hp.Le.refl _) rfl
    · rcases hi2 with e | e
      · subst e; exact hno
      · exact n0 (by omega)
    · have e2 : i = 1 := by have : 1 < i + 1 := e; omega
      subst e2
      exact hno
  conv => whnf
  refine SeqP.cut (α := Nat × Bool × List Bool × Hp) (fun s => [(7, slc s.1 0 L.length L.length), (6, int i), (5, ptr X 0), (2, ptr h.next 0)]) (fun s H' => s.2.2.2 = H' ∧ Grows H s.2.2.2 ∧ s.2.2.2.at s.1 = some (.row 4 s.2.1 (s.2.2.1.map .bool)) ∧ s.2.2.1.length = L.length ∧ ∀ a, gb s.2.2.1 a = true ↔ Lead p.rules L (SetN p.rules p.out i L) a) ?_ ?_
  · have ld : ∀ H', Grows H H' → hval H' (aggOf (cellsAt H' X 0 3)) = .val (.agg ⟨bx⟩) H' := fun H' g => by
      rw [all_cells (g.at_ _ _ (hg.at_ _ _ hX1)) hxl]
      rfl
    conv => whnf
    refine ⟨bx, all_cells (hg.at_ _ _ hX1) hxl, ?_⟩
    conv => whnf
    refine ⟨bp, all_cells (hg.at_ _ _ hb1) hbl, ?_⟩
    conv => whnf
    refine ⟨bx, all_cells (hg.at_ _ _ hX1) hxl, ?_⟩
    conv => whnf
    refine CallP.mono (RSettled_spec _ p bx i n c L N _ (hv.ext gH) hP en (hx.ext hg)) ?_
    rintro r1 H2 ⟨⟨ms, hbm, hml, hms⟩, g2⟩
    conv => whnf
    refine CallP.mono (spread_spec bx nv _ p.rules L N ms _ hxl hxo x2 (hN.ext (hg.trans g2)) hnx hbm hml hL0 (by omega)) ?_
    rintro r2 H3 ⟨⟨ms3, hb3, hl3, hm3⟩, g3, -⟩
    obtain ⟨r4, x4, rfl, hat4⟩ := id hb3
    have g23 := g2.trans g3
    conv => whnf
    refine ⟨?_, ?_⟩
    · repeat' (first | exact True.intro | (refine And.intro ?_ ?_ <;> (conv => whnf)))
      all_goals first
        | exact sameAt_val (h2 := _) (ld _ (Grows.refl _)) hsame
        | exact sameAt_val (h2 := _) (ld _ g2) hsame
        | exact sameAt_val (h2 := _) (ld _ g23) hsame
        | trace_state
    conv => whnf
    refine ⟨(r4, x4, ms3, H3), ⟨by rw [← hl3]; rfl, rfl, rfl, rfl, trivial⟩, ⟨rfl, g23, hat4, hl3, fun a => ?_⟩, rfl⟩
    rw [hm3]
    have : (fun t => gb ms t = true) = SetN p.rules p.out i L := funext fun t => propext (hms t)
    rw [this]
  rintro ⟨r4, x4, ms3, H3⟩ φ3 _ ⟨rfl, g23, hat4, hl3, hm3⟩
  dsimp only at g23 hat4 hl3 hm3 ⊢
  have hdec : (∀ a, a < L.length → gb ms3 a = true) ↔ DeciC p.rules p.out i c := by
    rw [← hgr.decides (out := p.out) (on := i)]
    exact ⟨fun k a ha => (hm3 a).1 (k a ha), fun k a ha => (hm3 a).2 (k a ha)⟩
  conv => whnf
  refine SeqP.go ?_
  conv => whnf
  refine SeqP.cut (α := Bool) (fun b => [(8, .bool b), (6, int i), (5, ptr X 0), (2, ptr h.next 0)]) (fun b H' => H3 = H' ∧ (b = true ↔ DeciC p.rules p.out i c)) ?_ ?_
  rotate_left
  · rintro b φ5 _ ⟨rfl, hb⟩
    cases b with
    | true =>
      have hy := hb.1 rfl
      conv => whnf
      repeat (refine SeqP.go ?_; conv => whnf)
      refine ⟨⟨_, rfl, ?_⟩, gH.trans g23⟩
      rcases hi2 with e | e
      · subst e
        exact ⟨fun _ => rfl, fun k => absurd hy k, fun k => absurd hy k⟩
      · subst e
        exact ⟨fun k => absurd k (n0 (by omega)), fun _ _ => rfl, fun _ k => absurd hy k⟩
    | false =>
      conv => whnf
      repeat (refine SeqP.go ?_; conv => whnf)
      exact ⟨H3, ⟨rfl, rfl, rfl, trivial⟩, ⟨rfl, g23, fun k => by have := hb.2 k; cases this⟩, rfl⟩
  conv => whnf
  repeat (refine SeqP.go ?_; conv => whnf)
  refine loop_inv (α := Nat × Bool) (fun s => [(9, int s.1), (8, .bool s.2), (7, slc r4 0 L.length L.length), (6, int i), (5, ptr X 0), (2, ptr h.next 0)]) (fun _ => H3) (fun s => s.1 ≤ L.length ∧ (s.2 = true ↔ ∀ a, a < s.1 → gb ms3 a = true)) (fun s => L.length - s.1) (0, true) ⟨Nat.zero_le _, ⟨fun _ a ha => absurd ha (Nat.not_lt_zero _), fun _ => rfl⟩⟩ ⟨rfl, rfl, rfl, rfl, rfl, rfl, trivial⟩ (Hp.Le.refl _) ?_
  rintro ⟨k, b⟩ φ6 ⟨hk, hb⟩
  dsimp only at hk hb ⊢
  conv => whnf
  repeat (refine SeqP.go ?_; conv => whnf)
  refine cmpB (fun c2 => ?_) (fun c2 => ?_)
  rotate_left
  · have : k = L.length := by omega
    subst this
    conv => whnf
    repeat (refine SeqP.go ?_; conv => whnf)
    exact ⟨b, ⟨rfl, rfl, rfl, rfl, trivial⟩, ⟨rfl, hb.trans hdec⟩, rfl⟩
  have hkl : k < L.length := by omega
  have hld : cellAt H3 r4 (offAt 0 ((k : Int)).toNat 1) = some (.bool (gb ms3 k)) := by
    rw [offAt_eq]
    refine cellAt_row hat4 ?_
    rw [List.getElem?_map, gb_at (by omega)]
    simp [hl3, hkl]
  have hexb : ∃ d, gb ms3 k = d := ⟨_, rfl⟩
  obtain ⟨d, ed⟩ := hexb
  rw [ed] at hld
  cases b with
  | true =>
    conv => whnf
    repeat (refine SeqP.go ?_; conv => whnf)
    refine ⟨rfl, ⟨by omega, by omega⟩, ?_⟩
    conv => whnf
    refine ⟨_, hld, ?_⟩
    conv => whnf
    refine ⟨((k + 1 : Nat) : Int), wie (by omega) (by omega), ?_⟩
    conv => whnf
    refine Rnd.mk (k + 1, d) ⟨by show k + 1 ≤ _; omega, ?_⟩ (by show _ - (k + 1) < _ - k; omega) ⟨rfl, rfl, rfl, rfl, rfl, rfl, trivial⟩ (Hp.Le.refl _) rfl
    show d = true ↔ ∀ a, a < k + 1 → gb ms3 a = true
    constructor
    · intro e a ha
      by_cases e2 : a = k
      · rw [e2, ed]; exact e
      · exact hb.1 rfl a (by omega)
    · intro e
      rw [← ed]
      exact e k (by omega)
  | false =>
    conv => whnf
    repeat (refine SeqP.go ?_; conv => whnf)
    refine ⟨((k + 1 : Nat) : Int), wie (by omega) (by omega), ?_⟩
    conv => whnf
    refine Rnd.mk (k + 1, false) ⟨by show k + 1 ≤ _; omega, ?_⟩ (by show _ - (k + 1) < _ - k; omega) ⟨rfl, rfl, rfl, rfl, rfl, rfl, trivial⟩ (Hp.Le.refl _) rfl
    show false = true ↔ ∀ a, a < k + 1 → gb ms3 a = true
    refine ⟨fun e => (by cases e), fun e => ?_⟩
    exact hb.2 fun a ha => e a (by omega)
end
end Go.Proofs.Ytpiplaicnbapbaa
namespace Go.Proofs.Ytpiplaicnbapbaa
open Go.Rx Go.RowKit
theorem PV.stored {h : Hp} {bp : List Value} {p : Prot} (k : PV h (.agg ⟨bp⟩) p) : ∃ a1 n1 c1 a2 n2 c2 a3 n3 c3, bp = [int p.n, .slice a1 n1 c1, .slice a2 n2 c2, .slice a3 n3 c3] := by
  obtain ⟨vo, vs, vr, e, h1, h2, h3⟩ := k
  obtain ⟨a1, rfl⟩ := h1.known
  obtain ⟨a2, rfl⟩ := h2.known
  obtain ⟨a3, rfl, -⟩ := h3.slice
  cases e
  exact ⟨_, _, _, _, _, _, _, _, _, rfl⟩
theorem sameV_int3' (n : Int) : sameV 3 (int n) (int n) = true := sameV_int n
theorem sameV_slice3' (a : Option Addr) (n m : Nat) : sameV 3 (.slice a n m) (.slice a n m) = true := sameV_slice a n m
theorem PV.same {h : Hp} {bp : List Value} {p : Prot} (k : PV h (.agg ⟨bp⟩) p) : sameV 4 (.agg ⟨bp⟩) (.agg ⟨bp⟩) = true := by
  obtain ⟨a1, n1, c1, a2, n2, c2, a3, n3, c3, e⟩ := k.stored
  subst e
  show (Nat.beq 4 4 && (sameV 3 (int p.n) (int p.n) && (sameV 3 (.slice a1 n1 c1) (.slice a1 n1 c1) && (sameV 3 (.slice a2 n2 c2) (.slice a2 n2 c2) && (sameV 3 (.slice a3 n3 c3) (.slice a3 n3 c3) && true))))) = true
  rw [sameV_int3', sameV_slice3', sameV_slice3', sameV_slice3']
  rfl
end Go.Proofs.Ytpiplaicnbapbaa
namespace Go.Proofs.Ytpiplaicnbapbaa
open Go.Rx Go.RowKit
structure K5 where
  a : Int
  b : Int
  c : Int
  d : Int
  e : Int
  deriving DecidableEq
def enc5 (k : K5) : Value := .agg ⟨[int k.a, int k.b, int k.c, int k.d, int k.e]⟩
end Go.Proofs.Ytpiplaicnbapbaa
namespace Go.Proofs.Ytpiplaicnbapbaa
open Go.Rx Go.RowKit
def k5 (l : List Int) : K5 := ⟨gl l 0, gl l 1, gl l 2, gl l 3, gl l 4⟩
end Go.Proofs.Ytpiplaicnbapbaa
namespace Go.Proofs.Ytpiplaicnbapbaa
open Go.Rx Go.RowKit
theorem ty122 : ∃ i, E.ty 122 = some i ∧ i.desc = .map 3 3 := by
  have hs : (tiOf Try.prog 122).isSome = true := by kernel_rfl
  refine ⟨(tiOf Try.prog 122).get hs, ty_get (by kernel_rfl) (Option.some_get hs).symm, ?_⟩
  kernel_rfl
theorem ty3 : ∃ i, E.ty 3 = some i ∧ isI64 i.desc = true ∧ i.zero = some (int 0) := by
  have hs : (tiOf Try.prog 3).isSome = true := by kernel_rfl
  refine ⟨(tiOf Try.prog 3).get hs, ty_get (by kernel_rfl) (Option.some_get hs).symm, ?_, ?_⟩
  · kernel_rfl
  · kernel_rfl
theorem keyI : KeyTy E 3 (fun n : Int => int n) := by
  obtain ⟨i, hi, hd, _⟩ := ty3
  exact keyInt hi hd
abbrev encI : Int → Value := fun n : Int => int n
theorem raw_insert {κ : Type} [DecidableEq κ] {enc : κ → Value} {t kt et : TypeId} {ti : TI} (ht : E.ty t = some ti) (hd : ti.desc = .map kt et) (K : KeyTy E kt enc) {φ : Rx.Frame} {h : Hp} {ty : TypeId} {x j y : Operand} {r : Nat} {k : κ} {v : Value} {f : κ → Option Value} {n : Nat}
    (hx : evφ φ x = mapAt r) (hj : evφ φ j = enc k) (hy : evφ φ y = v) (hm : MapAt h r enc f n) {Q : Value → Hp → Prop}
    (q : ∀ h', MapAt h' r enc (fun k' => if k' = k then some v else f k') (if (f k).isSome then n else n + 1) → Keeps r h h' → Q undef h') : MapP E (.raw (.insert t x j y) ty) φ h Q := by
  have := raw_update (ty := ty) ht hd K hx hj hy hm q
  exact ⟨this.1⟩
def IxOf {κ : Type} (key : List Int → κ) (L : List (List Int)) (f : κ → Option Value) : Prop := (∀ i, (hi : i < L.length) → f (key L[i]) = some (int i)) ∧ ∀ k v, f k = some v → ∃ i, ∃ hi : i < L.length, k = key L[i] ∧ v = int i
theorem IxOf.add {κ : Type} [DecidableEq κ] {key : List Int → κ} {L : List (List Int)} {f : κ → Option Value} (h : IxOf key L f) {c : List Int} (hn : f (key c) = none) : IxOf key (L ++ [c]) (fun k' => if k' = key c then some (int L.length) else f k') := by
  refine ⟨fun i hi => ?_, fun k v hk => ?_⟩
  · rw [List.length_append, List.length_singleton] at hi
    by_cases e : i < L.length
    · rw [List.getElem_append_left e]
      dsimp only
      rw [if_neg (fun e2 => by rw [← e2, h.1 i e] at hn; cases hn)]
      exact h.1 i e
    · have e2 : i = L.length := by omega
      subst e2
      simp
  · dsimp only at hk
    by_cases e : k = key c
    · rw [if_pos e] at hk
      cases hk
      exact ⟨L.length, by simp, by simp [e], rfl⟩
    · rw [if_neg e] at hk
      obtain ⟨i, hi, h1, h2⟩ := h.2 k v hk
      exact ⟨i, by rw [List.length_append]; omega, by rw [List.getElem_append_left hi]; exact h1, h2⟩
theorem IxOf.none_iff {κ : Type} {key : List Int → κ} {L : List (List Int)} {f : κ → Option Value} (h : IxOf key L f) {c : List Int} (inj : ∀ d ∈ L, key d = key c → d = c) (hn : f (key c) = none) : c ∉ L := by
  intro hm
  obtain ⟨i, hi, e⟩ := List.getElem_of_mem hm
  have := h.1 i hi
  rw [e, hn] at this
  cases this
theorem IxOf.some_iff {κ : Type} {key : List Int → κ} {L : List (List Int)} {f : κ → Option Value} (h : IxOf key L f) {c : List Int} (inj : ∀ d ∈ L, key d = key c → d = c) {v : Value} (hs : f (key c) = some v) : ∃ i, ∃ hi : i < L.length, L[i] = c ∧ v = int i := by
  obtain ⟨i, hi, h1, h2⟩ := h.2 _ v hs
  exact ⟨i, hi, inj _ (List.getElem_mem _) h1.symm, h2⟩
end Go.Proofs.Ytpiplaicnbapbaa
namespace Go.Proofs.Ytpiplaicnbapbaa
open Go.Rx Go.RowKit
theorem SettC.step {R : List Q4} {out : List Int} {on : Int} {c d : List Int} (h : SettC R out on c) (k : Rs R c d) : SettC R out on d := fun e he => h e (k.trans he)
theorem DeciC.step {R : List Q4} {out : List Int} {on : Int} {c d : List Int} (h : DeciC R out on c) (k : Rs R c d) : DeciC R out on d := fun e he => h e (k.trans he)
theorem some_in {n : Nat} {c : List Int} (h : CrOk n c) : ∃ s, s < n ∧ 0 < gl c s := by
  refine Classical.byContradiction fun hn => ?_
  have hz : ∀ x ∈ c, x = 0 := fun x hx => by
    obtain ⟨i, hi, rfl⟩ := List.getElem_of_mem hx
    have h1 := h.nn i
    rw [gl_at hi] at h1
    have h2 : ¬ 0 < gl c i := fun k => hn ⟨i, by rw [← h.len]; exact hi, k⟩
    rw [gl_at hi] at h2
    omega
  have : c.sum = 0 := by
    clear hn h
    induction c with
    | nil => rfl
    | cons x l ih => rw [List.sum_cons, hz x (by simp), ih fun y hy => hz y (by simp [hy])]; rfl
  have := h.s1
  omega
theorem SettC.uniq {n : Nat} {R : List Q4} {out : List Int} {a b : Int} {c : List Int} (hc : CrOk n c) (ho : out.length = n) (h : SettC R out a c) (k : SettC R out b c) : a = b := by
  obtain ⟨s, hs, hg⟩ := some_in hc
  have h1 := h c (.refl _) s (by omega) hg
  have h2 := k c (.refl _) s (by omega) hg
  omega
theorem DeciC.uniq {n : Nat} {R : List Q4} (hR : ∀ x ∈ R, QIn n x) {out : List Int} {a b : Int} {c : List Int} (hc : CrOk n c) (ho : out.length = n) (h : DeciC R out a c) (k : DeciC R out b c) : a = b := by
  obtain ⟨e, h1, h2⟩ := h c (.refl _)
  obtain ⟨f, h3, h4⟩ := k e h1
  exact SettC.uniq ((h1.trans h3).ok hR hc) ho (h2.step h3) h4
theorem FirstOf.of {P : Int → Prop} {s on : Int} {b : Bool} (h : FirstOf P s b) (hon : on = 0 ∨ on = 1) (k : P on) : b = true := by
  by_cases h0 : P 0
  · exact (h.1 h0).2
  · rcases hon with rfl | rfl
    · exact absurd k h0
    · exact (h.2.1 h0 k).2
end Go.Proofs.Ytpiplaicnbapbaa
namespace Go.Proofs.Ytpiplaicnbapbaa
open Go.Rx Go.RowKit
theorem crs_sum (n : Nat) {start kinds : List Int} (hs : ∀ x ∈ start, 0 ≤ x ∧ x ≤ (n : Int) - 1) : ∀ k, k ≤ start.length → k ≤ kinds.length → (crs n start kinds k).sum = (kinds.take k).sum
  | 0, _, _ => by
    rw [crs_zero, List.take_zero]
    induction n with
    | zero => rfl
    | succ n ih => simp
  | k + 1, h1, h2 => by
    have ih := crs_sum n (kinds := kinds) hs k (by omega) (by omega)
    have hx := hs start[k] (List.getElem_mem _)
    rw [crs_succ n (start := start) (kinds := kinds) (by omega) (by omega), sum_bump (by rw [crs_len]; show start[k].toNat < n; omega), ih, List.take_succ_eq_append_getElem (by omega), List.sum_append]
    simp
theorem crs_ok {n : Nat} {start kinds : List Int} (hs : ∀ x ∈ start, 0 ≤ x ∧ x ≤ (n : Int) - 1) (hC : Cnt kinds start.length) : CrOk n (crs n start kinds kinds.length) := by
  obtain ⟨h1, h2, h3, h4⟩ := hC
  have hl : kinds.length = start.length := by omega
  have e := crs_sum n (kinds := kinds) hs kinds.length (by omega) (Nat.le_refl _)
  rw [List.take_length] at e
  refine ⟨crs_len .., ?_, by rw [e]; exact h3, by rw [e]; exact h4⟩
  have hb := crs_bd (m := n) (start := start) (kinds := kinds) h2 kinds.length (by omega) (Nat.le_refl _)
  exact gl_mem (p := fun x => 0 ≤ x) (fun x hx => (hb x hx).1) (by omega)
def Want (q : Quest) (k : List Int) (on : Int) : Prop := (TrueP q k → on = 1) ∧ (¬ TrueP q k → on = 0)
attribute [local irreducible] E idxN cellAt cellsAt storeAt callable helems hmoved lookIn findKey keyOk hentries Hp.at Hp.set Hp.lay arBits hupdated setAt CallP YieldP BoolOf IsWrap Rnd LoopP AppP CutP Int.tmod Int.tdiv Int.fdiv
section
variable [Unknowns]
attribute [local irreducible] ResP sameAt
theorem RRight_spec (hRR : RReachedOk) (v u w : Value) (p : Prot) (q : Quest) (kinds : List Int) (n : Nat) (h : Hp) (hv : PV h v p) (hq : QV h u q) (hw : Ints h w kinds) (hP : POk p) (en : p.n = n) (hQ : QOk q) (hqs : q.a.length = p.start.length) (hC : Cnt kinds p.start.length) : CallP E 49 [v, u, w] h (fun r h' => (∃ b, r = .bool b ∧ ∀ on, Want q kinds on → BoolOf b (DeciC p.rules p.out on (crs n p.start kinds kinds.length))) ∧ Grows h h') := by
  obtain ⟨bp, rfl, hbl, -⟩ := hv.box
  obtain ⟨bq, rfl, hbq, -⟩ := hq.box
  obtain ⟨ak, ck, rfl, -⟩ := id hw
  have hkl : kinds.length = p.start.length := by have := hC.1; omega
  have hst := hP.sts
  rw [en] at hst
  have hcr : CrOk n (crs n p.start kinds kinds.length) := crs_ok hst hC
  have hon : p.out.length = n := by have := hP.outl; omega
  have hR : ∀ y ∈ p.rules, QIn n y := fun y hy => by
    obtain ⟨k, hk, rfl⟩ := List.getElem_of_mem hy
    rw [← en]
    exact hP.qin k hk
  have g0 : Grows h ((h.lay (.row 26 true bp)).lay (.row 69 true bq)) := (Grows.lay _ _).then_lay _
  have a0 : ((h.lay (.row 26 true bp)).lay (.row 69 true bq)).at h.next = some (.row 26 true bp) := Hp.at_lay_old _ (Hp.at_lay_self _ _)
  have a1 : ((h.lay (.row 26 true bp)).lay (.row 69 true bq)).at (h.lay (.row 26 true bp)).next = some (.row 69 true bq) := Hp.at_lay_self _ _
  refine enter49 (by simp) ?_
  conv => whnf
  refine SeqP.go ?_
  conv => whnf
  refine SeqP.go ?_
  conv => whnf
  refine SeqP.cut (α := Int × Hp) (fun s => [(7, int s.1), (3, ptr h.next 0), (2, .slice ak kinds.length ck)]) (fun s H => s.2 = H ∧ Grows ((h.lay (.row 26 true bp)).lay (.row 69 true bq)) s.2 ∧ Want q kinds s.1) ?_ ?_
  · conv => whnf
    refine ⟨bq, all_cells a1 hbq, ?_⟩
    conv => whnf
    refine CallP.mono (reftrue_spec _ _ q kinds _ (hq.ext g0) (hw.ext g0) hQ (by omega) hC.2.1) ?_
    rintro r1 H1 ⟨⟨b, rfl, hb⟩, g1⟩
    cases b with
    | true =>
      conv => whnf
      repeat (refine SeqP.go ?_; conv => whnf)
      exact ⟨(1, H1), ⟨rfl, rfl, rfl, trivial⟩, ⟨rfl, g1, fun _ => rfl, fun k => absurd hb.t k⟩, rfl⟩
    | false =>
      conv => whnf
      repeat (refine SeqP.go ?_; conv => whnf)
      exact ⟨(0, H1), ⟨rfl, rfl, rfl, trivial⟩, ⟨rfl, g1, fun k => absurd k hb.f, fun _ => rfl⟩, rfl⟩
  rintro ⟨want, H1⟩ φ1 _ ⟨rfl, g1, hwant⟩
  dsimp only at g1 hwant ⊢
  have hw01 : want = 0 ∨ want = 1 := by
    by_cases k : TrueP q kinds
    · exact .inr (hwant.1 k)
    · exact .inl (hwant.2 k)
  have gg := g0.trans g1
  have a01 := g1.at_ _ _ a0
  have ld : ∀ H', Grows H1 H' → hval H' (aggOf (cellsAt H' h.next 0 4)) = .val (.agg ⟨bp⟩) H' := fun H' g => by
    rw [all_cells (g.at_ _ _ a01) hbl]
    rfl
  conv => whnf
  repeat (refine SeqP.go ?_; conv => whnf)
  refine ⟨bp, all_cells a01 hbl, ?_⟩
  conv => whnf
  refine ⟨bp, all_cells a01 hbl, ?_⟩
  conv => whnf
  refine CallP.mono (refcrowd_spec _ _ p kinds _ (hv.ext gg) (hw.ext gg) hP hkl hC.2.1) ?_
  rintro r2 H2 ⟨hr2, g2⟩
  rw [en, Int.toNat_natCast] at hr2
  conv => whnf
  refine CallP.mono (RDecidesTop_spec hRR _ _ p n _ _ (hv.ext (gg.trans g2)) hr2.view hP en hcr) ?_
  rintro r3 H3 ⟨⟨s, rfl, hs⟩, g3⟩
  have g23 := g2.trans g3
  have huniq : ∀ on, Want q kinds on → on = want := fun on ho => by
    by_cases k : TrueP q kinds
    · rw [ho.1 k, hwant.1 k]
    · rw [ho.2 k, hwant.2 k]
  have hiff : s = want ↔ DeciC p.rules p.out want (crs n p.start kinds kinds.length) := by
    by_cases h0 : DeciC p.rules p.out 0 (crs n p.start kinds kinds.length)
    · have e := hs.1 h0
      constructor
      · intro e2; rw [← e2, e]; exact h0
      · intro k; rw [e]; exact h0.uniq hR hcr hon k
    · by_cases h1 : DeciC p.rules p.out 1 (crs n p.start kinds kinds.length)
      · have e := hs.2.1 h0 h1
        constructor
        · intro e2; rw [← e2, e]; exact h1
        · intro k; rw [e]; exact h1.uniq hR hcr hon k
      · have e := hs.2.2 h0 h1
        constructor
        · intro e2; omega
        · intro k
          rcases hw01 with e2 | e2
          · rw [e2] at k; exact absurd k h0
          · rw [e2] at k; exact absurd k h1
  conv => whnf
  refine cmpB (fun c1 => ?_) (fun c1 => ?_)
  · conv => whnf
    refine ⟨?_, ?_⟩
    · repeat' (first | exact True.intro | (refine And.intro ?_ ?_ <;> (conv => whnf)))
      all_goals first
        | exact sameAt_val (h2 := _) rfl (sameV_int _)
        | exact sameAt_val (h2 := _) (ld _ (Grows.refl _)) hv.same
        | exact sameAt_val (h2 := _) (ld _ g2) hv.same
        | exact sameAt_val (h2 := _) (ld _ g23) hv.same
        | trace_state
    conv => whnf
    repeat (refine SeqP.go ?_; conv => whnf)
    exact ⟨⟨true, rfl, fun on ho => by rw [huniq on ho]; exact bo_yes (hiff.1 c1)⟩, gg.trans g23⟩
  · conv => whnf
    refine ⟨?_, ?_⟩
    · repeat' (first | exact True.intro | (refine And.intro ?_ ?_ <;> (conv => whnf)))
      all_goals first
        | exact sameAt_val (h2 := _) rfl (sameV_int _)
        | exact sameAt_val (h2 := _) (ld _ (Grows.refl _)) hv.same
        | exact sameAt_val (h2 := _) (ld _ g2) hv.same
        | exact sameAt_val (h2 := _) (ld _ g23) hv.same
        | trace_state
    conv => whnf
    repeat (refine SeqP.go ?_; conv => whnf)
    exact ⟨⟨false, rfl, fun on ho => by rw [huniq on ho]; exact bo_no fun k => c1 (hiff.2 k)⟩, gg.trans g23⟩
end
end Go.Proofs.Ytpiplaicnbapbaa
namespace Go.Proofs.Ytpiplaicnbapbaa
open Go.Rx Go.RowKit
theorem cnt2 {l : List Int} (h : Cnt l 2) : l = [gl l 0, gl l 1] ∧ 0 ≤ gl l 0 ∧ 0 ≤ gl l 1 ∧ 1 ≤ gl l 0 + gl l 1 ∧ gl l 0 + gl l 1 ≤ 9 := by
  obtain ⟨h1, h2, h3, h4⟩ := h
  match l, h1 with
  | [x, y], _ =>
    have hx := h2 x (by simp)
    have hy := h2 y (by simp)
    simp at h3 h4
    exact ⟨rfl, hx.1, hy.1, by show 1 ≤ x + y; omega, by show x + y ≤ 9; omega⟩
  | [], h => simp at h
  | [_], h => simp at h
  | _ :: _ :: _ :: _, h => simp at h; omega
theorem cnt1 {l : List Int} (h : Cnt l 1) : l = [gl l 0] ∧ 1 ≤ gl l 0 ∧ gl l 0 ≤ 9 := by
  obtain ⟨h1, h2, h3, h4⟩ := h
  match l, h1 with
  | [x], _ =>
    simp at h3 h4
    exact ⟨rfl, by show 1 ≤ x; omega, by show x ≤ 9; omega⟩
  | [], h => simp at h
  | _ :: _ :: _, h => simp at h; omega
end Go.Proofs.Ytpiplaicnbapbaa
namespace Go.Proofs.Ytpiplaicnbapbaa
open Go.Rx Go.RowKit
def Solves (p : Prot) (n : Nat) (q : Quest) (k : List Int) : Prop := ∀ on, Want q k on → DeciC p.rules p.out on (crs n p.start k k.length)
theorem want_ex (q : Quest) (k : List Int) : ∃ on, Want q k on := by
  by_cases h : TrueP q k
  · exact ⟨1, fun _ => rfl, fun x => absurd h x⟩
  · exact ⟨0, fun x => absurd x h, fun _ => rfl⟩
end Go.Proofs.Ytpiplaicnbapbaa
namespace Go.Proofs.Ytpiplaicnbapbaa
open Go.Rx Go.RowKit
structure Ka (m : Nat) (a b : Nat) (K : List (List Int)) : Prop where
  mem : ∀ l, l ∈ K ↔ Cnt l m ∧ (gl l 0 < a ∨ (gl l 0 = a ∧ ((m = 2 ∧ gl l 1 < b) ∨ (m = 1 ∧ 0 < b))))
  len : K.length ≤ 10 * a + b
def pick (m : Nat) (a b : Nat) : List Int := [(a : Int), (b : Int)].take m
theorem Ka.no {m a b : Nat} {K : List (List Int)} (hm : m = 1 ∨ m = 2) (k : Ka m a b K) (h : ¬ (Cnt (pick m a b) m ∧ (m = 2 ∨ b = 0))) : Ka m a (b + 1) K := by
  refine ⟨fun l => ?_, by have := k.len; omega⟩
  rw [k.mem]
  constructor
  · rintro ⟨e1, e2⟩
    exact ⟨e1, by omega⟩
  · rintro ⟨e1, e2⟩
    rcases hm with rfl | rfl
    · refine ⟨e1, ?_⟩
      by_cases e3 : gl l 0 = a ∧ b = 0
      · obtain ⟨e4, -⟩ := cnt1 e1
        rw [e3.1] at e4
        refine absurd ⟨?_, .inr e3.2⟩ h
        show Cnt [(a : Int)] 1
        rw [← e4]
        exact e1
      · omega
    · refine ⟨e1, ?_⟩
      by_cases e3 : gl l 0 = a ∧ gl l 1 = b
      · obtain ⟨e4, -⟩ := cnt2 e1
        rw [e3.1, e3.2] at e4
        refine absurd ⟨?_, .inl rfl⟩ h
        show Cnt [(a : Int), (b : Int)] 2
        rw [← e4]
        exact e1
      · omega
theorem Ka.turn {m a : Nat} {K : List (List Int)} (hm : m = 1 ∨ m = 2) (k : Ka m a 10 K) : Ka m (a + 1) 0 K := by
  refine ⟨fun l => ?_, by have := k.len; omega⟩
  rw [k.mem]
  constructor
  · rintro ⟨e1, e2⟩
    exact ⟨e1, by omega⟩
  · rintro ⟨e1, e2⟩
    refine ⟨e1, ?_⟩
    rcases hm with rfl | rfl
    · omega
    · have := cnt2 e1
      have h6 := (gl_mem (p := fun x => 0 ≤ x ∧ x ≤ 9) e1.2.1 (by omega) 1).2
      omega
theorem Ka.start (m : Nat) : Ka m 0 0 [] := by
  refine ⟨fun l => ⟨fun k => by simp at k, fun k => ?_⟩, Nat.zero_le _⟩
  have h5 := (gl_mem (p := fun x => 0 ≤ x ∧ x ≤ 9) k.1.2.1 (by omega) 0).1
  have h6 := (gl_mem (p := fun x => 0 ≤ x ∧ x ≤ 9) k.1.2.1 (by omega) 1).1
  have := k.2
  omega
theorem Ka.all {m : Nat} {K : List (List Int)} (k : Ka m 10 0 K) (l : List Int) : l ∈ K ↔ Cnt l m := by
  rw [k.mem]
  refine ⟨fun k => k.1, fun k => ⟨k, .inl ?_⟩⟩
  have := (gl_mem (p := fun x => 0 ≤ x ∧ x ≤ 9) k.2.1 (by omega) 0).2
  omega
end Go.Proofs.Ytpiplaicnbapbaa
namespace Go.Proofs.Ytpiplaicnbapbaa
open Go.Rx Go.RowKit
theorem crowds_few {n : Nat} {L : List (List Int)} (hn : n ≤ 5) (h : ∀ d ∈ L, CrOk n d) (hd : L.Nodup) : L.length ≤ 100000 := by
  have h1 := nodup_map (f := fun d => (keyOf d).toNat) hd (fun a ha b hb e => keyOf_inj (h a ha) (h b hb) (by
    have h2 := keyOf_bd hn (h a ha)
    have h3 := keyOf_bd hn (h b hb)
    omega))
  have h2 := nodup_lt 100000 _ h1 (fun x hx => by
    obtain ⟨d, hd2, rfl⟩ := List.mem_map.1 hx
    have := keyOf_bd hn (h d hd2)
    omega)
  rw [List.length_map] at h2
  exact h2
theorem Nx.done {R : List Q4} {L N : List (List Int)} (k : Nx R L N) (hl : N.length = L.length) (hd : L.Nodup) (hR : R.length ≤ 1000) : NxOk R L N := by
  refine ⟨hl, fun i hi x hx => ?_, fun i b he => ?_, fun i hi => ?_⟩
  · have h1 := List.getElem?_eq_getElem (l := L) (i := i) (by omega)
    obtain ⟨kk, e, j, h2, h3, h4⟩ := (k.row i _ _ h1 (List.getElem?_eq_getElem hi)).fwd x hx
    exact ⟨kk, h2, _, e, j, h1, h3, h4⟩
  · have hlt := he.lt
    obtain ⟨d, e, j, h1, h2, h3⟩ := he
    have hi : i < N.length := by omega
    obtain ⟨kk, h4, h5⟩ := (k.row i _ _ h1 (List.getElem?_eq_getElem hi)).bwd j e (step_range h3).2 h3
    have hkk := (List.getElem?_eq_some_iff.1 h4).1
    have : kk = b := (List.getElem?_inj hkk hd).1 (h4.trans h2.symm)
    subst this
    exact ⟨hi, h5⟩
  · have h1 := List.getElem?_eq_getElem (l := L) (i := i) (by omega)
    have := (k.row i _ _ h1 (List.getElem?_eq_getElem hi)).few
    omega
end Go.Proofs.Ytpiplaicnbapbaa
namespace Go.Proofs.Ytpiplaicnbapbaa
open Go.Rx Go.RowKit
abbrev nilS : Value := .slice none 0 0
structure RRI (hb H : Hp) (lv sv nv rv : Value) (M O X : Nat) (us vs : List Value) (L N : List (List Int)) (S row : List Int) (f : Int → Option Value) (m : Nat) (ov : Value) : Prop where
  gr : Grows hb H
  l : BuiltC hb H 22 1 lv us.length us
  le : EL H us L
  s : BuiltC hb H 3 1 sv S.length (S.map int)
  n : BuiltC hb H 22 1 nv vs.length vs
  ne : EL H vs N
  r : BuiltC hb H 3 1 rv row.length (row.map int)
  m : MapAt H M encI f m
  o : H.at O = some (.row 64 true [nilS, nilS, ov])
  hM : hb.next ≤ M
  hO : hb.next ≤ O
  sep : Sep H [lv, sv, nv, rv, slc M 0 0 0, slc O 0 0 0, slc X 0 0 0] (us ++ vs)
theorem RRI.ext {hb H H' : Hp} {lv sv nv rv : Value} {M O X : Nat} {us vs : List Value} {L N : List (List Int)} {S row : List Int} {f : Int → Option Value} {m : Nat} {ov : Value} (k : RRI hb H lv sv nv rv M O X us vs L N S row f m ov) (g : Grows H H') : RRI hb H' lv sv nv rv M O X us vs L N S row f m ov :=
  ⟨k.gr.trans g, k.l.ext g, k.le.ext g, k.s.ext g, k.n.ext g, k.ne.ext g, k.r.ext g, k.m.ext g, g.at_ _ _ k.o, k.hM, k.hO, k.sep.ext g⟩
theorem ap_at {a : Option Nat} {h h' : Hp} {r : Nat} {o : Rx.Obj} {v : Value} (x : Kx (ad v) h h') (e : h.at r = some o) (k : Ap v (slc r 0 0 0)) : h'.at r = some o := x.at_ e fun e2 => k r e2 rfl
theorem map_kx {h h' : Hp} {M : Nat} {f : Int → Option Value} {m : Nat} {v : Value} (k : MapAt h M encI f m) (x : Kx (ad v) h h') (a : Ap v (slc M 0 0 0)) : MapAt h' M encI f m := by
  obtain ⟨es, c, h1, h2, h3⟩ := k
  exact ⟨es, c, x.at_ h1 (fun e2 => a M e2 rfl), h2, h3⟩
theorem RRI.start {hb H4 : Hp} {X : Nat} {w : Value} {c : List Int} {f : Int → Option Value} (hw : View hb w c) (y : Keeps ((hb.lay (.row 22 true [w])).lay (.row 3 true [int 0])).next (((hb.lay (.row 22 true [w])).lay (.row 3 true [int 0])).lay (.map [] 0)) H4) (hm : MapAt H4 ((hb.lay (.row 22 true [w])).lay (.row 3 true [int 0])).next encI f 1) (hX : X < hb.next) (hwX : ∀ r, ad w = some r → r < X) : RRI hb (H4.lay (.row 64 true [nilS, nilS, nilS])) (slc hb.next 0 1 1) (slc (hb.lay (.row 22 true [w])).next 0 1 1) nilS nilS ((hb.lay (.row 22 true [w])).lay (.row 3 true [int 0])).next H4.next X [w] [] [c] [] [0] [] f 1 nilS := by
  have e1 : (hb.lay (.row 22 true [w])).next = hb.next + 1 := Hp.next_lay _ _
  have e2 : ((hb.lay (.row 22 true [w])).lay (.row 3 true [int 0])).next = hb.next + 2 := by rw [Hp.next_lay, e1]
  have e3 : (((hb.lay (.row 22 true [w])).lay (.row 3 true [int 0])).lay (.map [] 0)).next = hb.next + 3 := by rw [Hp.next_lay, e2]
  have e4 : H4.next = hb.next + 3 := by rw [y.next, e3]
  have e5 : (H4.lay (.row 64 true [nilS, nilS, nilS])).next = hb.next + 4 := by rw [Hp.next_lay, e4]
  have g3 : Grows hb (((hb.lay (.row 22 true [w])).lay (.row 3 true [int 0])).lay (.map [] 0)) := ((Grows.lay _ _).then_lay _).then_lay _
  have g4 : Grows hb H4 := y.grows g3 (by omega)
  have g5 : Grows hb (H4.lay (.row 64 true [nilS, nilS, nilS])) := g4.then_lay _
  have a1 : (((hb.lay (.row 22 true [w])).lay (.row 3 true [int 0])).lay (.map [] 0)).at hb.next = some (.row 22 true [w]) := Hp.at_lay_old _ (Hp.at_lay_old _ (Hp.at_lay_self _ _))
  have a2 : (((hb.lay (.row 22 true [w])).lay (.row 3 true [int 0])).lay (.map [] 0)).at (hb.lay (.row 22 true [w])).next = some (.row 3 true [int 0]) := Hp.at_lay_old _ (Hp.at_lay_self _ _)
  refine ⟨g5, ⟨rfl, .inr ⟨_, rfl, Nat.le_refl _, true, Hp.at_lay_old _ (y.at_ _ _ (by omega) a1)⟩⟩, (EL.nil _).add (hw.ext g5), ⟨rfl, .inr ⟨_, rfl, by omega, true, Hp.at_lay_old _ (y.at_ _ _ (by omega) a2)⟩⟩, BuiltC.nil, EL.nil _, BuiltC.nil, hm.ext (Grows.lay _ _), Hp.at_lay_self _ _, by omega, by omega, ?_⟩
  have s0 : Rx.Sep hb [] [w] := ⟨fun v h => by simp at h, fun u hu r e => by rw [List.mem_singleton.1 hu] at e; exact hw.ad_lt r e, fun i j v u _ h => by simp at h, fun v h => by simp at h⟩
  have s1 := s0.addR (h' := hb.lay (.row 22 true [w])) (by omega) (v' := slc hb.next 0 1 1) (fun r e => by cases e; omega)
  have s2 := s1.addR (h' := (hb.lay (.row 22 true [w])).lay (.row 3 true [int 0])) (by omega) (v' := slc (hb.lay (.row 22 true [w])).next 0 1 1) (fun r e => by cases e; omega)
  have s3 := s2.addR (h' := (hb.lay (.row 22 true [w])).lay (.row 3 true [int 0])) (by omega) (v' := nilS) (fun r e => by cases e)
  have s4 := s3.addR (h' := (hb.lay (.row 22 true [w])).lay (.row 3 true [int 0])) (by omega) (v' := nilS) (fun r e => by cases e)
  have s5 := s4.addR (h' := H4) (by omega) (v' := slc ((hb.lay (.row 22 true [w])).lay (.row 3 true [int 0])).next 0 0 0) (fun r e => by cases e; omega)
  have s6 := s5.addR (h' := H4.lay (.row 64 true [nilS, nilS, nilS])) (by omega) (v' := slc H4.next 0 0 0) (fun r e => by cases e; omega)
  refine s6.addR' (v' := slc X 0 0 0) (fun r e => by cases e; omega) (fun v hv r e e2 => ?_) (fun u hu r e e2 => ?_)
  · cases e2
    simp at hv
    rcases hv with rfl | rfl | rfl | rfl | rfl <;> cases e <;> omega
  · cases e
    rw [List.mem_singleton.1 hu] at e2
    have := hwX X e2
    omega
section
variable {hb H : Hp} {lv sv nv rv : Value} {M O X : Nat} {us vs : List Value} {L N : List (List Int)} {S row : List Int} {f : Int → Option Value} {m : Nat} {ov : Value}
theorem RRI.l_app {u : Value} {l : List Int} {b : Bool} {K : Value → Hp → Prop} (k : RRI hb H lv sv nv rv M O X us vs L N S row f m ov) (hu : View H u l) (hs : Sep H [lv, sv, nv, rv, slc M 0 0 0, slc O 0 0 0, slc X 0 0 0] (us ++ vs ++ [u])) (hl : us.length ≤ 1000000)
    (q : ∀ lv' H', RRI hb H' lv' sv nv rv M O X (us ++ [u]) vs (L ++ [l]) N S row f m ov → K lv' H') : AppP E (H.lay (.row 22 b [u])) 22 1 24 lv (slc H.next 0 1 1) K := by
  have k1 := k.ext (Grows.lay H (.row 22 b [u]))
  have hs1 := hs.ext (Grows.lay H (.row 22 b [u]))
  have hu1 := hu.ext (Grows.lay H (.row 22 b [u]))
  refine AppP.cellsF k1.l k1.gr (elemsC_one hu.oneCell) (by omega) (by omega) (by omega) ?_
  intro v' H' hb' hg' hkeep ⟨r', er, hr'⟩
  have x := Kx.builtC k1.l hkeep
  have hv : ∀ r, ad v' = some r → (H.lay (.row 22 b [u])).next ≤ r ∧ r < H'.next := fun r e => ⟨by rw [er] at e; cases e; exact hr', (hb'.ad_lt r e).2⟩
  have hnx : (H.lay (.row 22 b [u])).next ≤ H'.next := by have := hv r' (by rw [er]; rfl); omega
  have aS := k1.sep.ap 0 1 _ _ (by decide) rfl rfl
  have an := k1.sep.ap 0 2 _ _ (by decide) rfl rfl
  have ar := k1.sep.ap 0 3 _ _ (by decide) rfl rfl
  have aM := k1.sep.ap 0 4 _ _ (by decide) rfl rfl
  have aO := k1.sep.ap 0 5 _ _ (by decide) rfl rfl
  have ae := fun x hx => hs1.ape lv (by simp) x hx
  refine q _ _ ⟨hg', by rw [List.length_append]; exact hb', (k1.le.kx x fun w hw => ae w (by simp [hw])).add (hu1.kx x (ae u (by simp))), k1.s.kx x aS, k1.n.kx x an, k1.ne.kx x (fun w hw => ae w (by simp [hw])), k1.r.kx x ar, map_kx k1.m x aM, ap_at (a := none) x k1.o aO, k.hM, k.hO, ?_⟩
  exact (hs1.move hnx 0 hv).sub fun w hw => by simp at hw ⊢; rcases hw with h | h | h <;> simp [h]
theorem RRI.s_app {z : Int} {b : Bool} {K : Value → Hp → Prop} (k : RRI hb H lv sv nv rv M O X us vs L N S row f m ov) (hl : S.length ≤ 1000000)
    (q : ∀ sv' H', RRI hb H' lv sv' nv rv M O X us vs L N (S ++ [z]) row f m ov → K sv' H') : AppP E (H.lay (.row 3 b [int z])) 3 1 8 sv (slc H.next 0 1 1) K := by
  have k1 := k.ext (Grows.lay H (.row 3 b [int z]))
  refine AppP.cellsF k1.s k1.gr (elemsC_one (u := int z) rfl) (by omega) (by omega) (by omega) ?_
  intro v' H' hb' hg' hkeep ⟨r', er, hr'⟩
  have x := Kx.builtC k1.s hkeep
  have hv : ∀ r, ad v' = some r → (H.lay (.row 3 b [int z])).next ≤ r ∧ r < H'.next := fun r e => ⟨by rw [er] at e; cases e; exact hr', (hb'.ad_lt r e).2⟩
  have hnx : (H.lay (.row 3 b [int z])).next ≤ H'.next := by have := hv r' (by rw [er]; rfl); omega
  have al := k1.sep.ap 1 0 _ _ (by decide) rfl rfl
  have an := k1.sep.ap 1 2 _ _ (by decide) rfl rfl
  have ar := k1.sep.ap 1 3 _ _ (by decide) rfl rfl
  have aM := k1.sep.ap 1 4 _ _ (by decide) rfl rfl
  have aO := k1.sep.ap 1 5 _ _ (by decide) rfl rfl
  have ae := fun x hx => k1.sep.ape sv (by simp) x hx
  refine q _ _ ⟨hg', k1.l.kx x al, k1.le.kx x (fun w hw => ae w (by simp [hw])), by rw [List.length_append, List.map_append]; exact hb', k1.n.kx x an, k1.ne.kx x (fun w hw => ae w (by simp [hw])), k1.r.kx x ar, map_kx k1.m x aM, ap_at (a := none) x k1.o aO, k.hM, k.hO, k1.sep.move hnx 1 hv⟩
theorem RRI.r_app {z : Int} {b : Bool} {K : Value → Hp → Prop} (k : RRI hb H lv sv nv rv M O X us vs L N S row f m ov) (hl : row.length ≤ 1000000)
    (q : ∀ rv' H', RRI hb H' lv sv nv rv' M O X us vs L N S (row ++ [z]) f m ov → K rv' H') : AppP E (H.lay (.row 3 b [int z])) 3 1 8 rv (slc H.next 0 1 1) K := by
  have k1 := k.ext (Grows.lay H (.row 3 b [int z]))
  refine AppP.cellsF k1.r k1.gr (elemsC_one (u := int z) rfl) (by omega) (by omega) (by omega) ?_
  intro v' H' hb' hg' hkeep ⟨r', er, hr'⟩
  have x := Kx.builtC k1.r hkeep
  have hv : ∀ r, ad v' = some r → (H.lay (.row 3 b [int z])).next ≤ r ∧ r < H'.next := fun r e => ⟨by rw [er] at e; cases e; exact hr', (hb'.ad_lt r e).2⟩
  have hnx : (H.lay (.row 3 b [int z])).next ≤ H'.next := by have := hv r' (by rw [er]; rfl); omega
  have al := k1.sep.ap 3 0 _ _ (by decide) rfl rfl
  have aS := k1.sep.ap 3 1 _ _ (by decide) rfl rfl
  have an := k1.sep.ap 3 2 _ _ (by decide) rfl rfl
  have aM := k1.sep.ap 3 4 _ _ (by decide) rfl rfl
  have aO := k1.sep.ap 3 5 _ _ (by decide) rfl rfl
  have ae := fun x hx => k1.sep.ape rv (by simp) x hx
  refine q _ _ ⟨hg', k1.l.kx x al, k1.le.kx x (fun w hw => ae w (by simp [hw])), k1.s.kx x aS, k1.n.kx x an, k1.ne.kx x (fun w hw => ae w (by simp [hw])), by rw [List.length_append, List.map_append]; exact hb', map_kx k1.m x aM, ap_at (a := none) x k1.o aO, k.hM, k.hO, k1.sep.move hnx 3 hv⟩
theorem RRI.n_app {b : Bool} {K : Value → Hp → Prop} (k : RRI hb H lv sv nv rv M O X us vs L N S row f m ov) (hl : vs.length ≤ 1000000)
    (q : ∀ nv' H', RRI hb H' lv sv nv' nilS M O X us (vs ++ [rv]) L (N ++ [row]) S [] f m ov → K nv' H') : AppP E (H.lay (.row 22 b [rv])) 22 1 24 nv (slc H.next 0 1 1) K := by
  have k1 := k.ext (Grows.lay H (.row 22 b [rv]))
  have hs1 := k1.sep.fix 3 rfl
  have hu1 := k1.r.view
  refine AppP.cellsF k1.n k1.gr (elemsC_one k.r.view.oneCell) (by omega) (by omega) (by omega) ?_
  intro v' H' hb' hg' hkeep ⟨r', er, hr'⟩
  have x := Kx.builtC k1.n hkeep
  have hv : ∀ r, ad v' = some r → (H.lay (.row 22 b [rv])).next ≤ r ∧ r < H'.next := fun r e => ⟨by rw [er] at e; cases e; exact hr', (hb'.ad_lt r e).2⟩
  have hnx : (H.lay (.row 22 b [rv])).next ≤ H'.next := by have := hv r' (by rw [er]; rfl); omega
  have al := k1.sep.ap 2 0 _ _ (by decide) rfl rfl
  have aS := k1.sep.ap 2 1 _ _ (by decide) rfl rfl
  have ar := k1.sep.ap 2 3 _ _ (by decide) rfl rfl
  have aM := k1.sep.ap 2 4 _ _ (by decide) rfl rfl
  have aO := k1.sep.ap 2 5 _ _ (by decide) rfl rfl
  have ae := fun x hx => k1.sep.ape nv (by simp) x hx
  refine q _ _ ⟨hg', k1.l.kx x al, k1.le.kx x (fun w hw => ae w (by simp [hw])), k1.s.kx x aS, by rw [List.length_append]; exact hb', (k1.ne.kx x fun w hw => ae w (by simp [hw])).add (hu1.kx x ar), BuiltC.nil, map_kx k1.m x aM, ap_at (a := none) x k1.o aO, k.hM, k.hO, ?_⟩
  exact (hs1.move hnx 2 hv).sub fun w hw => by simp at hw ⊢; rcases hw with h | h | h <;> simp [h]
theorem RRI.mapped {H' : Hp} {f' : Int → Option Value} {m' : Nat} (k : RRI hb H lv sv nv rv M O X us vs L N S row f m ov) (y : Keeps M H H') (hm : MapAt H' M encI f' m') : RRI hb H' lv sv nv rv M O X us vs L N S row f' m' ov := by
  have x : Kx (ad (slc M 0 0 0)) H H' := Kx.keeps y
  have ae := fun x hx => k.sep.ape (slc M 0 0 0) (by simp) x hx
  exact ⟨y.grows k.gr k.hM, k.l.kx x (k.sep.ap 4 0 _ _ (by decide) rfl rfl), k.le.kx x (fun w hw => ae w (by simp [hw])), k.s.kx x (k.sep.ap 4 1 _ _ (by decide) rfl rfl), k.n.kx x (k.sep.ap 4 2 _ _ (by decide) rfl rfl), k.ne.kx x (fun w hw => ae w (by simp [hw])), k.r.kx x (k.sep.ap 4 3 _ _ (by decide) rfl rfl), hm, ap_at (a := none) x k.o (k.sep.ap 4 5 _ _ (by decide) rfl rfl), k.hM, k.hO, k.sep.next (by rw [y.next]; exact Nat.le_refl _)⟩
theorem RRI.put (k : RRI hb H lv sv nv rv M O X us vs L N S row f m ov) : storeAt H O 2 [nv] = some (H.set O (.row 64 true [nilS, nilS, nv])) ∧ RRI hb (H.set O (.row 64 true [nilS, nilS, nv])) lv sv nv rv M O X us vs L N S row f m nv := by
  have x : Kx (ad (slc O 0 0 0)) H (H.set O (.row 64 true [nilS, nilS, nv])) := Kx.set _ _ _
  have ae := fun x hx => k.sep.ape (slc O 0 0 0) (by simp) x hx
  have hlt := Hp.lt_of_at k.o
  obtain ⟨an, en, -⟩ := k.n.slice
  refine ⟨storeAt_row k.o (by simp) (by rw [en]; rfl), ⟨k.gr.then_set _ k.hO, k.l.kx x (k.sep.ap 5 0 _ _ (by decide) rfl rfl), k.le.kx x (fun w hw => ae w (by simp [hw])), k.s.kx x (k.sep.ap 5 1 _ _ (by decide) rfl rfl), k.n.kx x (k.sep.ap 5 2 _ _ (by decide) rfl rfl), k.ne.kx x (fun w hw => ae w (by simp [hw])), k.r.kx x (k.sep.ap 5 3 _ _ (by decide) rfl rfl), map_kx k.m x (k.sep.ap 5 4 _ _ (by decide) rfl rfl), Hp.at_set_self _ hlt, k.hM, k.hO, k.sep.next (Nat.le_refl _)⟩⟩
theorem RRI.fin {h : Hp} {cs : List Value} (k : RRI hb H lv sv nv rv M O X us vs L N S row f m nv) (hx : H.at X = some (.row 64 true cs)) (hc : cs.length = 3) (hn : h.next ≤ X) (hg : Grows h H) (hO : h.next ≤ O) : ∃ H1 H2 H3, storeAt H O 0 [lv] = some H1 ∧ storeAt H1 O 1 [sv] = some H2 ∧ cellsAt H2 O 0 3 = some [lv, sv, nv] ∧ storeAt H2 X 0 [lv, sv, nv] = some H3 ∧ H3.at X = some (.row 64 true [lv, sv, nv]) ∧ Grows h H3 ∧ BuiltC hb H3 22 1 lv us.length us ∧ EL H3 us L ∧ BuiltC hb H3 3 1 sv S.length (S.map int) ∧ BuiltC hb H3 22 1 nv vs.length vs ∧ EL H3 vs N := by
  obtain ⟨al, el, -⟩ := k.l.slice
  obtain ⟨as_, es, -⟩ := k.s.slice
  obtain ⟨an, en, -⟩ := k.n.slice
  have o1 : oneCell lv = true := by rw [el]; rfl
  have o2 : oneCell sv = true := by rw [es]; rfl
  have o3 : oneCell nv = true := by rw [en]; rfl
  have hlt := Hp.lt_of_at k.o
  have hltX := Hp.lt_of_at hx
  have aOX := k.sep.ap 5 6 _ _ (by decide) rfl rfl
  have ne : O ≠ X := fun e => aOX O rfl (by rw [e]; rfl)
  have e1 := storeAt_row k.o (o := 0) (v := lv) (by simp) o1
  have at1 : (H.set O (.row 64 true ([nilS, nilS, nv].set 0 lv))).at O = some (.row 64 true [lv, nilS, nv]) := Hp.at_set_self _ hlt
  have e2 := storeAt_row at1 (o := 1) (v := sv) (by simp) o2
  have at2 : ((H.set O (.row 64 true ([nilS, nilS, nv].set 0 lv))).set O (.row 64 true ([lv, nilS, nv].set 1 sv))).at O = some (.row 64 true [lv, sv, nv]) := Hp.at_set_self _ hlt
  have atX : ((H.set O (.row 64 true ([nilS, nilS, nv].set 0 lv))).set O (.row 64 true ([lv, nilS, nv].set 1 sv))).at X = some (.row 64 true cs) := by rw [Hp.at_set_ne _ (fun e => ne e.symm), Hp.at_set_ne _ (fun e => ne e.symm)]; exact hx
  match cs, hc with
  | [c1, c2, c3], _ =>
  have e3 := storeAt_full atX (vs := [lv, sv, nv]) rfl (by simp [o1, o2, o3]) rfl
  have x1 : Kx (ad (slc O 0 0 0)) H ((H.set O (.row 64 true ([nilS, nilS, nv].set 0 lv))).set O (.row 64 true ([lv, nilS, nv].set 1 sv))) := (Kx.set _ _ _).trans (Kx.set _ _ _)
  have x2 : Kx (ad (slc X 0 0 0)) ((H.set O (.row 64 true ([nilS, nilS, nv].set 0 lv))).set O (.row 64 true ([lv, nilS, nv].set 1 sv))) (((H.set O (.row 64 true ([nilS, nilS, nv].set 0 lv))).set O (.row 64 true ([lv, nilS, nv].set 1 sv))).set X (.row 64 true [lv, sv, nv])) := Kx.set _ _ _
  have aO := fun x hx => k.sep.ape (slc O 0 0 0) (by simp) x hx
  have aX := fun x hx => k.sep.ape (slc X 0 0 0) (by simp) x hx
  refine ⟨_, _, _, e1, e2, all_cells at2 rfl, e3, Hp.at_set_self _ hltX, ((hg.then_set _ hO).then_set _ hO).then_set _ hn, ?_, ?_, ?_, ?_, ?_⟩
  · exact (k.l.kx x1 (k.sep.ap 5 0 _ _ (by decide) rfl rfl)).kx x2 (k.sep.ap 6 0 _ _ (by decide) rfl rfl)
  · exact (k.le.kx x1 (fun w hw => aO w (by simp [hw]))).kx x2 (fun w hw => aX w (by simp [hw]))
  · exact (k.s.kx x1 (k.sep.ap 5 1 _ _ (by decide) rfl rfl)).kx x2 (k.sep.ap 6 1 _ _ (by decide) rfl rfl)
  · exact (k.n.kx x1 (k.sep.ap 5 2 _ _ (by decide) rfl rfl)).kx x2 (k.sep.ap 6 2 _ _ (by decide) rfl rfl)
  · exact (k.ne.kx x1 (fun w hw => aO w (by simp [hw]))).kx x2 (fun w hw => aX w (by simp [hw]))
end
end Go.Proofs.Ytpiplaicnbapbaa
namespace Go.Proofs.Ytpiplaicnbapbaa
open Go.Rx Go.RowKit
theorem ty64 : ∃ i, E.ty 64 = some i ∧ i.agg = true ∧ i.size = 3 := by
  have hs : (tiOf Try.prog 64).isSome = true := by kernel_rfl
  refine ⟨(tiOf Try.prog 64).get hs, ty_get (by kernel_rfl) (Option.some_get hs).symm, ?_, ?_⟩
  · kernel_rfl
  · kernel_rfl
structure RS where
  lv : Value
  sv : Value
  nv : Value
  rv : Value
  us : List Value
  vs : List Value
  L : List (List Int)
  N : List (List Int)
  S : List Int
  row : List Int
  f : Int → Option Value
  H : Hp
theorem EL.sl {h0 h : Hp} {e : TypeId} {v : Value} {us : List Value} {L : List (List Int)} (b : BuiltC h0 h e 1 v us.length us) (k : EL h us L) : SL h v L := by
  obtain ⟨hl, hb⟩ := b
  rcases hb with ⟨rfl, h0⟩ | ⟨r, rfl, _, x, hr⟩
  · exact ⟨none, 0, by rw [← k.1, h0], fun j hj => by have := k.1; omega⟩
  · refine ⟨some ⟨r, 0, none⟩, us.length, by rw [← k.1]; rfl, fun j hj => ?_⟩
    have hj' : j < us.length := by have := k.1; omega
    exact ⟨r, 0, none, us[j], rfl, rfl, cellAt_row hr (List.getElem?_eq_getElem hj'), k.2 j _ _ (List.getElem?_eq_getElem hj') (List.getElem?_eq_getElem hj)⟩
theorem SL.kx {h h' : Hp} {r : Nat} {v : Value} {L : List (List Int)} (k : SL h v L) (g : ∀ k o, k ≠ r → h.at k = some o → h'.at k = some o) : True := trivial
attribute [local irreducible] E idxN cellAt cellsAt storeAt callable helems hmoved lookIn findKey keyOk hentries Hp.at Hp.set Hp.lay arBits hupdated setAt CallP YieldP BoolOf IsWrap Rnd LoopP AppP CutP Int.tmod Int.tdiv Int.fdiv
section
variable [Unknowns]
attribute [local irreducible] ResP sameAt finP
theorem RReached_ok : RReachedOk := by
  intro v w p n c h hv hw hP en hc
  obtain ⟨bp, rfl, hbl, b0, -, -, ⟨a3, b3, k3⟩, -⟩ := hv.box
  obtain ⟨ac, cc, rfl⟩ := hw.known
  have hcl := hc.len
  have hn5 : n ≤ 5 := by have := hP.n5; omega
  have hn1 : 1 ≤ n := by have := hP.n1; omega
  have hrl := hP.rl
  have hRq : ∀ x ∈ p.rules, QIn n x := fun x hx => by
    obtain ⟨k, hk, e⟩ := List.getElem_of_mem hx
    have := hP.qin k hk
    rw [en] at this
    rw [← e]
    exact this
  obtain ⟨i122, t122, d122⟩ := ty122
  obtain ⟨i3, t3, _, z3⟩ := ty3
  have nine : ∀ {d : List Int}, CrOk n d → ∀ i, 0 ≤ gl d i ∧ gl d i ≤ 9 := fun hd i => ⟨hd.nn i, hd.le i⟩
  have g0 : Grows h ((h.lay (.row 26 true bp)).lay (.row 64 true [nilS, nilS, nilS])) := (Grows.lay _ _).then_lay _
  have aP : ((h.lay (.row 26 true bp)).lay (.row 64 true [nilS, nilS, nilS])).at h.next = some (.row 26 true bp) := Hp.at_lay_old _ (Hp.at_lay_self _ _)
  have hexX : ∃ X, (h.lay (.row 26 true bp)).next = X ∧ X = h.next + 1 := ⟨_, rfl, Hp.next_lay _ _⟩
  obtain ⟨X, eX, eX2⟩ := hexX
  have aX : ((h.lay (.row 26 true bp)).lay (.row 64 true [nilS, nilS, nilS])).at X = some (.row 64 true [nilS, nilS, nilS]) := by rw [← eX]; exact Hp.at_lay_self _ _
  have hexb : ∃ hb, (h.lay (.row 26 true bp)).lay (.row 64 true [nilS, nilS, nilS]) = hb ∧ hb.next = h.next + 2 := ⟨_, rfl, by rw [Hp.next_lay, Hp.next_lay]⟩
  obtain ⟨hb, ehb, nhb⟩ := hexb
  rw [ehb] at g0 aP aX
  have hwb := hw.ext g0
  refine enter39 (by simp) ?_
  conv => whnf
  refine SeqP.cut (α := Unit) (fun _ => [(4, ptr X 0), (2, ptr h.next 0), (1, .slice ac c.length cc)]) (fun _ H => hb = H) ?_ ?_
  · conv => whnf
    exact ⟨(), ⟨congrArg (fun k => ptr k 0) eX, rfl, rfl, trivial⟩, ehb.symm, rfl⟩
  rintro _ φ0 _ rfl
  conv => whnf
  refine SeqP.go ?_
  conv => whnf
  refine SeqP.go ?_
  conv => whnf
  refine CallP.mono (key_spec _ c _ (hwb.ext (((Grows.lay _ _).then_lay _).then_lay _)).ints (by omega) (nine hc)) ?_
  rintro r1 H1 ⟨rfl, rfl⟩
  conv => whnf
  refine raw_insert t122 d122 keyI (k := keyOf c) (v := int 0) (n := 0) rfl rfl rfl (MapAt.new _) ?_
  intro H4 hm4 y4
  conv => whnf
  refine SeqP.cut (α := Value × Value × Nat × Nat × (Int → Option Value) × Hp) (fun s => [(8, ptr s.2.2.2.1 0), (7, mapAt s.2.2.1), (6, s.2.1), (5, s.1), (4, ptr X 0), (2, ptr h.next 0)]) (fun s H => s.2.2.2.2.2 = H ∧ RRI hb H s.1 s.2.1 nilS nilS s.2.2.1 s.2.2.2.1 X [.slice ac c.length cc] [] [c] [] [0] [] s.2.2.2.2.1 1 nilS ∧ IxOf keyOf [c] s.2.2.2.2.1) ?_ ?_
  · conv => whnf
    refine ⟨(_, _, _, _, _, _), ⟨rfl, rfl, rfl, rfl, rfl, rfl, trivial⟩, ⟨rfl, RRI.start hwb y4 hm4 (by omega) (fun r e => by have := hw.ad_lt r e; omega), ?_⟩, rfl⟩
    have := IxOf.add (key := keyOf) (L := []) (f := fun _ => none) ⟨fun i hi => by simp at hi, fun k v e => by cases e⟩ (c := c) rfl
    exact this
  rintro ⟨lv0, sv0, M, O, f0, H0⟩ φ1 _ ⟨rfl, hi0, hx0⟩
  dsimp only at hi0 hx0 ⊢
  conv => whnf
  refine SeqP.cut (α := RS) (fun s => [(8, ptr O 0), (6, s.sv), (5, s.lv), (4, ptr X 0)]) (fun s H => s.H = H ∧ RRI hb s.H s.lv s.sv s.nv nilS M O X s.us s.vs s.L s.N s.S [] s.f s.L.length s.nv ∧ Gp p.rules n c s.L s.L.length ∧ St p.rules c s.L s.S s.L.length ∧ Nx p.rules s.L s.N ∧ s.N.length = s.L.length) ?_ ?_
  rotate_left
  · rintro ⟨lv, sv, nv, rv, us, vs, L, N, S, row, f, H⟩ φ9 _ ⟨rfl, hi, hg, hs, hn, hN⟩
    dsimp only at hi hg hs hn hN ⊢
    have hfin := hi.fin (h := h) (hi.gr.at_ _ _ aX) rfl (by omega) (g0.trans hi.gr) (by have := hi.hO; omega)
    obtain ⟨H1, H2, H3, e1, e2, e3, e4, e5, g3, q1, q2, q3, q4, q5⟩ := hfin
    have hk1 := hi.l.slice
    obtain ⟨al, rfl, -⟩ := hk1
    have hk2 := hi.s.slice
    obtain ⟨a_s, rfl, -⟩ := hk2
    have hk3 := hi.n.slice
    obtain ⟨an, rfl, -⟩ := hk3
    conv => whnf
    repeat (refine SeqP.go ?_; conv => whnf)
    refine ⟨rfl, _, e1, ?_⟩
    conv => whnf
    repeat (refine SeqP.go ?_; conv => whnf)
    refine ⟨rfl, _, e2, ?_⟩
    conv => whnf
    repeat (refine SeqP.go ?_; conv => whnf)
    refine ⟨_, e3, ?_⟩
    conv => whnf
    refine ⟨rfl, _, e4, ?_⟩
    conv => whnf
    repeat (refine SeqP.go ?_; conv => whnf)
    obtain ⟨i64_, h64, ha64, hs64⟩ := ty64
    refine leave_cell rfl h64 ha64 (by rw [hs64]; exact all_cells e5 rfl) ?_
    exact ⟨⟨_, L, N, rfl, ⟨rfl, rfl, ⟨_, rfl, EL.sl q1 q2⟩, ⟨_, rfl, EL.sl q4 q5⟩, hn.done hN hg.nodup (by omega), hg.done, hg.ok, crowds_few hn5 hg.ok hg.nodup, ⟨_, S, rfl, q3.view, hs⟩⟩⟩, g3⟩
  conv => whnf
  refine SeqP.go ?_
  conv => whnf
  refine loop_inv (α := Nat × RS) (fun s => [(9, int s.1), (8, ptr O 0), (7, mapAt M), (6, s.2.sv), (5, s.2.lv), (4, ptr X 0), (2, ptr h.next 0)]) (fun s => s.2.H) (fun s => RRI hb s.2.H s.2.lv s.2.sv s.2.nv nilS M O X s.2.us s.2.vs s.2.L s.2.N s.2.S [] s.2.f s.2.L.length s.2.nv ∧ Gp p.rules n c s.2.L s.1 ∧ St p.rules c s.2.L s.2.S s.1 ∧ Nx p.rules s.2.L s.2.N ∧ s.2.N.length = s.1 ∧ s.1 ≤ s.2.L.length ∧ IxOf keyOf s.2.L s.2.f) (fun s => 100000 - s.1) (0, ⟨lv0, sv0, nilS, nilS, [.slice ac c.length cc], [], [c], [], [0], [], f0, H0⟩) ⟨hi0, Gp.start hc, St.start, ⟨fun a d row _ e => by simp at e⟩, rfl, Nat.zero_le _, hx0⟩ ⟨rfl, rfl, rfl, rfl, rfl, rfl, rfl, trivial⟩ (Hp.Le.refl _) ?_
  rintro ⟨i, ⟨lv, sv, nv, rv, us, vs, L, N, S, row, f, H⟩⟩ φ2 ⟨hi, hg, hs, hn, hN, hil, hix⟩
  dsimp only at hi hg hs hn hN hil hix ⊢
  have hfew := crowds_few hn5 hg.ok hg.nodup
  have hul := hi.le.1
  have hk1 := hi.l.slice
  obtain ⟨al, rfl, -⟩ := hk1
  conv => whnf
  repeat (refine SeqP.go ?_; conv => whnf)
  refine cmpB (fun c1 => ?_) (fun c1 => ?_)
  rotate_left
  · have : i = L.length := by omega
    subst this
    have hk2 := hi.s.slice
    obtain ⟨a_s, rfl, -⟩ := hk2
    conv => whnf
    repeat (refine SeqP.go ?_; conv => whnf)
    exact ⟨⟨_, _, nv, nilS, us, vs, L, N, S, [], f, H⟩, ⟨rfl, rfl, rfl, rfl, trivial⟩, ⟨rfl, hi, hg, hs, hn, hN⟩, rfl⟩
  have hiL : i < L.length := by omega
  have hexd : ∃ d, L[i]? = some d := ⟨_, List.getElem?_eq_getElem hiL⟩
  obtain ⟨d, hd⟩ := hexd
  have hdm := List.mem_of_getElem? hd
  have hdok := hg.ok d hdm
  conv => whnf
  refine SeqP.cut (α := RS) (fun s => [(9, int i), (8, ptr O 0), (7, mapAt M), (6, s.sv), (5, s.lv), (4, ptr X 0), (2, ptr h.next 0)]) (fun s H => s.H = H ∧ RRI hb s.H s.lv s.sv s.nv nilS M O X s.us s.vs s.L s.N s.S [] s.f s.L.length s.nv ∧ Gp p.rules n c s.L (i + 1) ∧ St p.rules c s.L s.S (i + 1) ∧ Nx p.rules s.L s.N ∧ s.N.length = i + 1 ∧ i + 1 ≤ s.L.length ∧ IxOf keyOf s.L s.f) ?_ ?_
  rotate_left
  · rintro ⟨lv', sv', nv', rv', us', vs', L', N', S', row', f', H'⟩ φ3 _ ⟨rfl, k1, k2, k3, k4, k5, k6, k7⟩
    dsimp only at k1 k2 k3 k4 k5 k6 k7 ⊢
    conv => whnf
    refine ⟨((i + 1 : Nat) : Int), wie (by omega) (by omega), ?_⟩
    conv => whnf
    exact Rnd.mk (i + 1, ⟨lv', sv', nv', rv', us', vs', L', N', S', row', f', H'⟩) ⟨k1, k2, k3, k4, k5, k6, k7⟩ (by show 100000 - (i + 1) < 100000 - i; omega) ⟨rfl, rfl, rfl, rfl, rfl, rfl, rfl, trivial⟩ (Hp.Le.refl _) rfl
  conv => whnf
  refine SeqP.go ?_
  conv => whnf
  refine SeqP.cut (α := RS) (fun s => [(10, s.rv), (9, int i), (8, ptr O 0), (7, mapAt M), (6, s.sv), (5, s.lv), (4, ptr X 0), (2, ptr h.next 0)]) (fun s H => s.H = H ∧ RRI hb s.H s.lv s.sv s.nv s.rv M O X s.us s.vs s.L s.N s.S s.row s.f s.L.length s.nv ∧ Gp p.rules n c s.L i ∧ St p.rules c s.L s.S i ∧ Nx p.rules s.L s.N ∧ s.N.length = i ∧ s.L[i]? = some d ∧ RowOk p.rules s.L d p.rules.length s.row ∧ IxOf keyOf s.L s.f) ?_ ?_
  rotate_left
  · rintro ⟨lv', sv', nv', rv', us', vs', L', N', S', row', f', H'⟩ φ3 _ ⟨rfl, k1, k2, k3, k4, k5, k6, k7, k8⟩
    dsimp only at k1 k2 k3 k4 k5 k6 k7 k8 ⊢
    have hil' := (List.getElem?_eq_some_iff.1 k6).1
    have hfew' := crowds_few hn5 k2.ok k2.nodup
    have hvl := k1.ne.1
    have hk2 := k1.r.slice
    obtain ⟨ar, rfl, -⟩ := hk2
    have hk3 := k1.n.slice
    obtain ⟨an, rfl, -⟩ := hk3
    conv => whnf
    repeat (refine SeqP.go ?_; conv => whnf)
    refine ⟨_, cellAt_row k1.o rfl, ?_⟩
    conv => whnf
    repeat (refine SeqP.go ?_; conv => whnf)
    refine k1.n_app (by omega) ?_
    intro nv2 H2 k1'
    have hput := k1'.put
    have hk4 := k1'.n.slice
    obtain ⟨an2, rfl, -⟩ := hk4
    conv => whnf
    repeat (refine SeqP.go ?_; conv => whnf)
    refine ⟨rfl, _, hput.1, ?_⟩
    conv => whnf
    exact ⟨⟨lv', sv', _, nilS, us', _, L', _, S', [], f', _⟩, ⟨rfl, rfl, rfl, rfl, rfl, rfl, rfl, trivial⟩, ⟨rfl, hput.2, k2.turn k6 (fun k e he => k7.all he), k3.turn hil' k6 k7, k4.add (by rw [k5]; exact k6) k7, by show (N' ++ [row']).length = _; rw [List.length_append, k5]; rfl, hil', k8⟩, rfl⟩
  conv => whnf
  refine SeqP.go ?_
  conv => whnf
  refine loop_inv (α := Nat × RS) (fun s => [(11, int s.1), (10, s.2.rv), (9, int i), (8, ptr O 0), (7, mapAt M), (6, s.2.sv), (5, s.2.lv), (4, ptr X 0), (2, ptr h.next 0)]) (fun s => s.2.H) (fun s => RRI hb s.2.H s.2.lv s.2.sv s.2.nv s.2.rv M O X s.2.us s.2.vs s.2.L s.2.N s.2.S s.2.row s.2.f s.2.L.length s.2.nv ∧ Gp p.rules n c s.2.L i ∧ St p.rules c s.2.L s.2.S i ∧ Nx p.rules s.2.L s.2.N ∧ s.2.N.length = i ∧ s.2.L[i]? = some d ∧ RowOk p.rules s.2.L d s.1 s.2.row ∧ IxOf keyOf s.2.L s.2.f ∧ s.1 ≤ p.rules.length) (fun s => p.rules.length - s.1) (0, ⟨_, sv, nv, nilS, us, vs, L, N, S, [], f, H⟩) ⟨hi, hg, hs, hn, hN, hd, RowOk.start, hix, Nat.zero_le _⟩ ⟨rfl, rfl, rfl, rfl, rfl, rfl, rfl, rfl, rfl, trivial⟩ (Hp.Le.refl _) ?_
  clear hi hg hs hn hN hil hix hfew hul hd hdm c1 hiL
  rintro ⟨r, ⟨lv, sv, nv, rv, us, vs, L, N, S, row, f, H⟩⟩ φ4 ⟨hi, hg, hs, hn, hN, hd, hrow, hix, hr⟩
  dsimp only at hi hg hs hn hN hd hrow hix hr ⊢
  have hfew := crowds_few hn5 hg.ok hg.nodup
  have hul := hi.le.1
  have hiL := (List.getElem?_eq_some_iff.1 hd).1
  have hdm := List.mem_of_getElem? hd
  have haP := hi.gr.at_ _ _ aP
  conv => whnf
  repeat (refine SeqP.go ?_; conv => whnf)
  refine ⟨_, cellAt_row haP b3, ?_⟩
  conv => whnf
  repeat (refine SeqP.go ?_; conv => whnf)
  refine cmpB (fun c2 => ?_) (fun c2 => ?_)
  rotate_left
  · have : r = p.rules.length := by omega
    subst this
    conv => whnf
    repeat (refine SeqP.go ?_; conv => whnf)
    exact ⟨⟨lv, sv, nv, rv, us, vs, L, N, S, row, f, H⟩, ⟨rfl, rfl, rfl, rfl, rfl, rfl, rfl, rfl, trivial⟩, ⟨rfl, hi, hg, hs, hn, hN, hd, hrow, hix⟩, rfl⟩
  have hrl2 : r < p.rules.length := by omega
  conv => whnf
  refine SeqP.cut (α := RS) (fun s => [(11, int r), (10, s.rv), (9, int i), (8, ptr O 0), (7, mapAt M), (6, s.sv), (5, s.lv), (4, ptr X 0), (2, ptr h.next 0)]) (fun s H => s.H = H ∧ RRI hb s.H s.lv s.sv s.nv s.rv M O X s.us s.vs s.L s.N s.S s.row s.f s.L.length s.nv ∧ Gp p.rules n c s.L i ∧ St p.rules c s.L s.S i ∧ Nx p.rules s.L s.N ∧ s.N.length = i ∧ s.L[i]? = some d ∧ RowOk p.rules s.L d (r + 1) s.row ∧ IxOf keyOf s.L s.f) ?_ ?_
  rotate_left
  · rintro ⟨lv', sv', nv', rv', us', vs', L', N', S', row', f', H'⟩ φ3 _ ⟨rfl, k1, k2, k3, k4, k5, k6, k7, k8⟩
    dsimp only at k1 k2 k3 k4 k5 k6 k7 k8 ⊢
    conv => whnf
    refine ⟨((r + 1 : Nat) : Int), wie (by omega) (by omega), ?_⟩
    conv => whnf
    exact Rnd.mk (r + 1, ⟨lv', sv', nv', rv', us', vs', L', N', S', row', f', H'⟩) ⟨k1, k2, k3, k4, k5, k6, k7, k8, hrl2⟩ (by show _ - (r + 1) < _ - r; omega) ⟨rfl, rfl, rfl, rfl, rfl, rfl, rfl, rfl, rfl, trivial⟩ (Hp.Le.refl _) rfl
  have hexu := hi.le.at_ hd
  obtain ⟨u, hu, huv⟩ := hexu
  have hkl := hi.l.load hu
  obtain ⟨rl, rfl, hcl2⟩ := hkl
  have huk := huv.known
  obtain ⟨au, cu, rfl⟩ := huk
  conv => whnf
  refine SeqP.cut (α := Value × Bool × Hp) (fun s => [(13, .bool s.2.1), (12, s.1), (11, int r), (10, rv), (9, int i), (8, ptr O 0), (7, mapAt M), (6, sv), (5, slc rl 0 us.length us.length), (4, ptr X 0), (2, ptr h.next 0)]) (fun s H' => s.2.2 = H' ∧ Grows H s.2.2 ∧ (step p.rules d r = none → s.2.1 = false) ∧ (∀ e, step p.rules d r = some e → s.2.1 = true ∧ Built H s.2.2 3 s.1 e)) ?_ ?_
  · conv => whnf
    repeat (refine SeqP.go ?_; conv => whnf)
    refine ⟨bp, all_cells haP hbl, ?_⟩
    conv => whnf
    refine ⟨rfl, ⟨by omega, by omega⟩, ?_⟩
    conv => whnf
    refine ⟨_, hcl2, ?_⟩
    conv => whnf
    refine CallP.mono (RMeet_spec _ _ p d r n _ (hv.ext (g0.trans hi.gr)) huv hP en hdok) ?_
    rintro r5 H5 ⟨⟨wv, b, rfl, q1, q2⟩, g5⟩
    have hwk : ∃ a m q, wv = .slice a m q := by
      cases hs5 : step p.rules d r with
      | none => exact ⟨_, _, _, (q1 hs5).2⟩
      | some e =>
        obtain ⟨a, e2⟩ := (LV.of (q2 e hs5).2).known
        exact ⟨_, _, _, e2⟩
    obtain ⟨aw, mw, cw, rfl⟩ := hwk
    conv => whnf
    repeat (refine SeqP.go ?_; conv => whnf)
    exact ⟨(_, b, H5), ⟨rfl, rfl, rfl, rfl, rfl, rfl, rfl, rfl, rfl, rfl, rfl, trivial⟩, ⟨rfl, g5, fun e => (q1 e).1, q2⟩, rfl⟩
  rintro ⟨wv, b, H5⟩ φ5 _ ⟨rfl, g5, q1, q2⟩
  dsimp only at g5 q1 q2 ⊢
  have hi5 := hi.ext g5
  cases hst : step p.rules d r with
  | none =>
    have eb := q1 hst
    subst eb
    conv => whnf
    repeat (refine SeqP.go ?_; conv => whnf)
    exact ⟨⟨_, sv, nv, rv, us, vs, L, N, S, row, f, H5⟩, ⟨rfl, rfl, rfl, rfl, rfl, rfl, rfl, rfl, rfl, trivial⟩, ⟨rfl, hi5, hg, hs, hn, hN, hd, hrow.skip hst, hix⟩, rfl⟩
  | some e =>
  have q3 := q2 e hst
  obtain ⟨eb, hbe⟩ := q3
  subst eb
  have heok := step_ok hRq hdok hst
  have hel := heok.len
  have hwk := (LV.of hbe).known
  obtain ⟨aw, rfl⟩ := hwk
  conv => whnf
  refine SeqP.cut (α := Unit) (fun s => [(12, .slice aw e.length e.length), (11, int r), (10, rv), (9, int i), (8, ptr O 0), (7, mapAt M), (6, sv), (5, slc rl 0 us.length us.length), (4, ptr X 0), (2, ptr h.next 0)]) (fun s H' => H5 = H') ?_ ?_
  · conv => whnf
    repeat (refine SeqP.go ?_; conv => whnf)
    exact ⟨(), ⟨rfl, rfl, rfl, rfl, rfl, rfl, rfl, rfl, rfl, rfl, trivial⟩, rfl, rfl⟩
  rintro _ φ6 _ rfl
  have hsl := hs.len
  have hsi : (S.map int)[i]? = some (int (gl S i)) := by
    rw [List.getElem?_map, List.getElem?_eq_getElem (by omega), gl_at (by omega)]
    rfl
  have hks := hi.s.load hsi
  obtain ⟨rs, rfl, -⟩ := hks
  have hwe : View H5 (.slice aw e.length e.length) e := (hbe.c).view
  have hkb := keyOf_bd hn5 heok
  have inj : ∀ x ∈ L, keyOf x = keyOf e → x = e := fun x hx e2 => keyOf_inj (hg.ok x hx) heok e2
  conv => whnf
  refine SeqP.cut (α := Int × Bool) (fun s => [(15, .bool s.2), (14, int s.1), (12, .slice aw e.length e.length), (11, int r), (10, rv), (9, int i), (8, ptr O 0), (7, mapAt M), (6, slc rs 0 S.length S.length), (5, slc rl 0 us.length us.length), (4, ptr X 0), (2, ptr h.next 0)]) (fun s H' => H5 = H' ∧ (s.2 = false → f (keyOf e) = none) ∧ (s.2 = true → ∃ a : Nat, s.1 = a ∧ L[a]? = some e)) ?_ ?_
  · conv => whnf
    repeat (refine SeqP.go ?_; conv => whnf)
    refine CallP.mono (key_spec _ e _ hwe.ints (by omega) (nine heok)) ?_
    rintro r6 H6 ⟨rfl, rfl⟩
    conv => whnf
    cases hf : f (keyOf e) with
    | none =>
      refine raw_look2_none t122 d122 t3 z3 keyI (k := keyOf e) rfl rfl hi5.m hf ?_
      conv => whnf
      repeat (refine SeqP.go ?_; conv => whnf)
      exact ⟨(_, false), ⟨rfl, rfl, rfl, rfl, rfl, rfl, rfl, rfl, rfl, rfl, rfl, rfl, trivial⟩, ⟨rfl, fun _ => rfl, fun e2 => (by cases e2)⟩, rfl⟩
    | some x =>
      have hix2 := hix.some_iff inj hf
      obtain ⟨a, ha, e2, rfl⟩ := hix2
      refine raw_look2_some t122 d122 t3 z3 keyI (k := keyOf e) rfl rfl hi5.m hf ?_
      conv => whnf
      repeat (refine SeqP.go ?_; conv => whnf)
      exact ⟨(_, true), ⟨rfl, rfl, rfl, rfl, rfl, rfl, rfl, rfl, rfl, rfl, rfl, rfl, trivial⟩, ⟨rfl, fun e2 => (by cases e2), fun _ => ⟨a, rfl, by rw [List.getElem?_eq_getElem ha, e2]⟩⟩, rfl⟩
  rintro ⟨kv, b⟩ φ7 _ ⟨rfl, w1, w2⟩
  dsimp only at w1 w2 ⊢
  conv => whnf
  refine SeqP.cut (α := Nat × RS) (fun s => [(14, int s.1), (11, int r), (10, s.2.rv), (9, int i), (8, ptr O 0), (7, mapAt M), (6, s.2.sv), (5, s.2.lv), (4, ptr X 0), (2, ptr h.next 0)]) (fun s H => s.2.H = H ∧ RRI hb s.2.H s.2.lv s.2.sv s.2.nv s.2.rv M O X s.2.us s.2.vs s.2.L s.2.N s.2.S s.2.row s.2.f s.2.L.length s.2.nv ∧ Gp p.rules n c s.2.L i ∧ St p.rules c s.2.L s.2.S i ∧ Nx p.rules s.2.L s.2.N ∧ s.2.N.length = i ∧ s.2.L[i]? = some d ∧ RowOk p.rules s.2.L d r s.2.row ∧ IxOf keyOf s.2.L s.2.f ∧ s.2.L[s.1]? = some e) ?_ ?_
  rotate_left
  · rintro ⟨k, ⟨lv', sv', nv', rv', us', vs', L', N', S', row', f', H'⟩⟩ φ3 _ ⟨rfl, k1, k2, k3, k4, k5, k6, k7, k8, k9⟩
    dsimp only at k1 k2 k3 k4 k5 k6 k7 k8 k9 ⊢
    have hrf := k7.few
    conv => whnf
    repeat (refine SeqP.go ?_; conv => whnf)
    refine k1.r_app (by omega) ?_
    intro rv2 H2 k1'
    conv => whnf
    repeat (refine SeqP.go ?_; conv => whnf)
    exact ⟨⟨lv', sv', nv', rv2, us', vs', L', N', S', _, f', H2⟩, ⟨rfl, rfl, rfl, rfl, rfl, rfl, rfl, rfl, rfl, trivial⟩, ⟨rfl, k1', k2, k3, k4, k5, k6, k7.add hst k9, k8⟩, rfl⟩
  cases b with
  | true =>
    have w3 := w2 rfl
    obtain ⟨a, rfl, ha⟩ := w3
    conv => whnf
    repeat (refine SeqP.go ?_; conv => whnf)
    exact ⟨(a, ⟨_, _, nv, rv, us, vs, L, N, S, row, f, H5⟩), ⟨rfl, rfl, rfl, rfl, rfl, rfl, rfl, rfl, rfl, rfl, trivial⟩, ⟨rfl, hi5, hg, hs, hn, hN, hd, hrow, hix, ha⟩, rfl⟩
  | false =>
    have hf := w1 rfl
    have hnew : e ∉ L := hix.none_iff inj hf
    have hNl : N.length ≤ L.length := by omega
    have hsle := hs.le i (by omega)
    have hsg := hs.way i d hd
    obtain ⟨k0, ek0, -⟩ := hsg
    conv => whnf
    repeat (refine SeqP.go ?_; conv => whnf)
    refine CallP.mono (key_spec _ e _ hwe.ints (by omega) (nine heok)) ?_
    rintro r6 H6 ⟨rfl, rfl⟩
    conv => whnf
    refine raw_update t122 d122 keyI (k := keyOf e) (v := int us.length) rfl rfl rfl hi5.m ?_
    intro H6 hm6 y6
    rw [hf] at hm6
    have hi6 := hi5.mapped y6 hm6
    have hv6 : View H6 (.slice aw e.length e.length) e := hwe.kx (v := slc M 0 0 0) (Kx.keeps y6) (fun x e1 e2 => by
      cases e1
      have h1 := (hbe.ad_lt M e2).1
      have h2 := hi.sep.oldr (slc M 0 0 0) (by simp) M rfl
      omega)
    have hs6 := hi.sep.addE (h' := H6) (by rw [y6.next]; exact g5.next) (u := .slice aw e.length e.length) (fun x e2 => by
      have := hbe.ad_lt x e2
      rw [y6.next]
      exact this)
    conv => whnf
    repeat (refine SeqP.go ?_; conv => whnf)
    refine hi6.l_app hv6 hs6 (by omega) ?_
    intro lv7 H7 hi7
    have hl7 := hi7.s.load hsi
    obtain ⟨rs7, er7, hl7⟩ := hl7
    cases er7
    conv => whnf
    repeat (refine SeqP.go ?_; conv => whnf)
    refine ⟨rfl, ⟨by omega, by omega⟩, ?_⟩
    conv => whnf
    refine ⟨_, hl7, ?_⟩
    conv => whnf
    refine ⟨gl S i + 1, wid (by omega), ?_⟩
    conv => whnf
    refine hi7.s_app (by omega) ?_
    intro sv8 H8 hi8
    conv => whnf
    refine ⟨(us.length, ⟨lv7, sv8, nv, rv, us ++ [.slice aw e.length e.length], vs, L ++ [e], N, S ++ [gl S i + 1], row, (fun k' => if k' = keyOf e then some (int us.length) else f k'), H8⟩), ⟨rfl, rfl, rfl, rfl, rfl, rfl, rfl, rfl, rfl, rfl, trivial⟩, ⟨rfl, ?_, hg.add (by omega) hRq hdm hst hnew, hs.add hiL hd hst, hn.ext hNl _, hN, getE_snoc hd, hrow.ext _, ?_, ?_⟩, rfl⟩
    · show RRI hb H8 _ _ _ _ _ _ _ _ _ (L ++ [e]) _ _ _ _ (L ++ [e]).length _
      rw [List.length_append]
      exact hi8
    · rw [hul]
      exact hix.add hf
    · show (L ++ [e])[us.length]? = some e
      rw [hul, List.getElem?_append_right (Nat.le_refl _)]
      simp
end
end Go.Proofs.Ytpiplaicnbapbaa
