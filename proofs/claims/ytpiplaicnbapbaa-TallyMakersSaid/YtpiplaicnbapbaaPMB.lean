/- Contracts of the functions that PME comes to. -/
import Derived.Test.YtpiplaicnbapbaaPMA
import Derived.Test.YtpiplaicnbapbaaWx21
import Derived.Test.YtpiplaicnbapbaaWx25
set_option maxRecDepth 100000
set_option maxHeartbeats 2000000
set_option linter.unusedVariables false
set_option linter.unusedSectionVars false
set_option linter.unusedSimpArgs false
namespace Go.Proofs.Ytpiplaicnbapbaa
open Go.Rx Go.RowKit
def SL (h : Hp) (v : Value) (LL : List (List Int)) : Prop := ∃ a c, v = .slice a LL.length c ∧ ∀ j, (hj : j < LL.length) → ∃ r o sp w, a = some ⟨r, o, sp⟩ ∧ voidSp sp = false ∧ cellAt h r (j + o) = some w ∧ View h w LL[j]
theorem SL.ext {h h' : Hp} {v : Value} {LL : List (List Int)} (g : Grows h h') (k : SL h v LL) : SL h' v LL := by
  obtain ⟨a, c, e, hc⟩ := k
  exact ⟨a, c, e, fun j hj => let ⟨r, o, sp, w, e1, e2, e3, e4⟩ := hc j hj; ⟨r, o, sp, w, e1, e2, g.cell e3, e4.ext g⟩⟩
abbrev gb (l : List Bool) (i : Nat) : Bool := l.getD i false
theorem gb_at {l : List Bool} {i : Nat} (h : i < l.length) : gb l i = l[i] := by
  unfold gb; rw [List.getD_eq_getElem?_getD, List.getElem?_eq_getElem h]; rfl
theorem gb_set {l : List Bool} {i : Nat} (h : i < l.length) (b : Bool) (j : Nat) : gb (l.set i b) j = if j = i then b else gb l j := by
  unfold gb
  rw [List.getD_eq_getElem?_getD, List.getElem?_set, List.getD_eq_getElem?_getD]
  by_cases e : i = j
  · subst e; rw [if_pos rfl, if_pos h, if_pos rfl]; rfl
  · rw [if_neg e, if_neg (fun x => e x.symm)]
def nf : List Bool → Nat
  | [] => 0
  | b :: l => (if b = true then 0 else 1) + nf l
theorem nf_set : ∀ {l : List Bool} {i : Nat}, i < l.length → gb l i = false → nf (l.set i true) + 1 = nf l
  | [], i, h, _ => by simp at h
  | b :: l, 0, _, e => by
    have : b = false := by simpa [gb] using e
    subst this
    simp [nf]
    omega
  | b :: l, i + 1, h, e => by
    have := nf_set (l := l) (i := i) (by simpa using h) (by simpa [gb] using e)
    simp only [List.set_cons_succ, nf]
    omega
structure SM (h : Hp) (r : Nat) (x : Bool) (ms : List Bool) (H : Hp) : Prop where
  at_ : H.at r = some (.row 4 x (ms.map .bool))
  gr : Grows h H
  hr : h.next ≤ r
theorem SM.put {h : Hp} {r : Nat} {x : Bool} {ms : List Bool} {H : Hp} (k : SM h r x ms H) (ms' : List Bool) : SM h r x ms' (H.set r (.row 4 x (ms'.map .bool))) := ⟨Hp.at_set_self _ (Hp.lt_of_at k.at_), k.gr.then_set _ k.hr, k.hr⟩
theorem SM.load {h : Hp} {r : Nat} {x : Bool} {ms : List Bool} {H : Hp} (k : SM h r x ms H) {i : Nat} (hi : i < ms.length) : cellAt H r (offAt 0 i 1) = some (.bool (gb ms i)) := by
  rw [offAt_eq]
  refine cellAt_row k.at_ ?_
  rw [List.getElem?_map, gb_at hi]
  simp [hi]
theorem SM.store {h : Hp} {r : Nat} {x : Bool} {ms : List Bool} {H : Hp} (k : SM h r x ms H) {i : Nat} (hi : i < ms.length) (b : Bool) : storeAt H r (offAt 0 i 1) [.bool b] = some (H.set r (.row 4 x ((ms.set i b).map .bool))) := by
  have := storeAt_row k.at_ (o := i) (v := .bool b) (by rw [List.length_map]; exact hi) rfl
  rw [show (ms.map Value.bool).set i (.bool b) = (ms.set i b).map .bool from by rw [List.map_set]] at this
  rw [offAt_eq]
  simpa using this
def BV (h : Hp) (v : Value) (ms : List Bool) : Prop := ∃ r x, v = slc r 0 ms.length ms.length ∧ h.at r = some (.row 4 x (ms.map .bool))
theorem BV.ext {h h' : Hp} {v : Value} {ms : List Bool} (g : Grows h h') (k : BV h v ms) : BV h' v ms := by
  obtain ⟨r, x, e, h1⟩ := k
  exact ⟨r, x, e, g.at_ _ _ h1⟩
theorem bools_one (l : List Bool) : (l.map Value.bool).all oneCell = true := by
  rw [List.all_eq_true]
  intro v hv
  obtain ⟨n, _, rfl⟩ := List.mem_map.1 hv
  rfl
theorem BV.elems {h : Hp} {v : Value} {ms : List Bool} (k : BV h v ms) : ElemsC h 1 v ms.length (ms.map .bool) := by
  obtain ⟨r, x, rfl, h1⟩ := k
  refine ⟨rfl, ?_, by rw [List.length_map, Nat.mul_one], bools_one _⟩
  show cellsAt h r 0 (ms.length * 1) = _
  rw [cellsAt_row h1 (by rw [List.length_map]; omega), List.drop_zero, List.take_of_length_le (by rw [List.length_map]; omega)]
structure NxOk (R : List Q4) (L : List (List Int)) (N : List (List Int)) : Prop where
  len : N.length = L.length
  fwd : ∀ i, (hi : i < N.length) → ∀ x ∈ N[i], ∃ k : Nat, x = (k : Int) ∧ Ed R L i k
  bwd : ∀ i k, Ed R L i k → ∃ hi : i < N.length, (k : Int) ∈ N[i]
  small : ∀ i, (hi : i < N.length) → N[i].length ≤ 1000
structure Mk (R : List Q4) (L : List (List Int)) (T : Nat → Prop) (ms : List Bool) : Prop where
  len : ms.length = L.length
  all : ∀ t, t < L.length → T t → gb ms t = true
  only : ∀ a, gb ms a = true → Lead R L T a
theorem Mk.set {R : List Q4} {L : List (List Int)} {T : Nat → Prop} {ms : List Bool} (k : Mk R L T ms) {i : Nat} (hi : i < L.length) (h : Lead R L T i) : Mk R L T (ms.set i true) := by
  have hl := k.len
  refine ⟨by rw [List.length_set]; exact hl, fun t ht hT => ?_, fun a ha => ?_⟩
  · rw [gb_set (by omega)]
    split
    · rfl
    · exact k.all t ht hT
  · rw [gb_set (by omega)] at ha
    split at ha
    · rename_i e; rw [e]; exact h
    · exact k.only a ha
def Still (R : List Q4) (L : List (List Int)) (ms : List Bool) (n : Nat) : Prop := ∀ a k, a < n → Ed R L a k → gb ms k = true → gb ms a = true
theorem Mk.done {R : List Q4} {L : List (List Int)} {T : Nat → Prop} {ms : List Bool} (k : Mk R L T ms) (hT : ∀ t, T t → t < L.length) (hs : Still R L ms L.length) (a : Nat) : gb ms a = true ↔ Lead R L T a :=
  ⟨k.only a, fun h => h.least (M := fun a => gb ms a = true) (fun t ht => k.all t (hT t ht) ht) fun a b e hb => hs a b e.lt.1 e hb⟩
end Go.Proofs.Ytpiplaicnbapbaa
namespace Go.Proofs.Ytpiplaicnbapbaa
open Go.Rx Go.RowKit
structure Ps (R : List Q4) (L : List (List Int)) (T : Nat → Prop) (ms0 : List Bool) (i : Nat) (ag : Bool) (ms : List Bool) : Prop where
  km : Mk R L T ms
  le : nf ms ≤ nf ms0
  lt : ag = true → nf ms < nf ms0
  st : ag = false → ms = ms0 ∧ Still R L ms0 i
theorem Ps.start {R : List Q4} {L : List (List Int)} {T : Nat → Prop} {ms : List Bool} (h : Mk R L T ms) : Ps R L T ms 0 false ms := ⟨h, Nat.le_refl _, fun e => (by cases e), fun _ => ⟨rfl, fun a k ha => by omega⟩⟩
theorem Ps.next {R : List Q4} {L : List (List Int)} {T : Nat → Prop} {ms0 ms : List Bool} {i : Nat} {ag : Bool} (h : Ps R L T ms0 i ag ms) (hs : ag = false → ∀ k, Ed R L i k → gb ms0 k = true → gb ms0 i = true) : Ps R L T ms0 (i + 1) ag ms :=
  ⟨h.km, h.le, h.lt, fun e => ⟨(h.st e).1, fun a k ha he hk => by
    by_cases e2 : a = i
    · subst e2; exact hs e k he hk
    · exact (h.st e).2 a k (by omega) he hk⟩⟩
end Go.Proofs.Ytpiplaicnbapbaa
namespace Go.Proofs.Ytpiplaicnbapbaa
open Go.Rx Go.RowKit
structure CR (h : Hp) (bx : List Value) (R : List Q4) (n : Nat) (c : List Int) (L N : List (List Int)) : Prop where
  len : bx.length = 3
  one : bx.all oneCell = true
  lv : ∃ v, bx[0]? = some v ∧ SL h v L
  nv : ∃ v, bx[2]? = some v ∧ SL h v N
  nx : NxOk R L N
  gr : Gr R c L
  ok : ∀ d ∈ L, CrOk n d
  few : L.length ≤ 100000
  sv : ∃ v S, bx[1]? = some v ∧ View h v S ∧ St R c L S L.length
theorem CR.ext {h h' : Hp} {bx : List Value} {R : List Q4} {n : Nat} {c : List Int} {L N : List (List Int)} (g : Grows h h') (k : CR h bx R n c L N) : CR h' bx R n c L N := by
  obtain ⟨h1, h2, ⟨v, h3, h4⟩, ⟨w, h5, h6⟩, h7, h8, h9, h10, ⟨u, S, h11, h12, h13⟩⟩ := k
  exact ⟨h1, h2, ⟨v, h3, h4.ext g⟩, ⟨w, h5, h6.ext g⟩, h7, h8, h9, h10, ⟨u, S, h11, h12.ext g, h13⟩⟩
theorem rep_bool (b : Bool) (n : Nat) : times [Value.bool b] n = (List.replicate n b).map .bool := by
  induction n with
  | zero => rfl
  | succ n ih => show Value.bool b :: times [Value.bool b] n = _; rw [ih, List.replicate_succ]; rfl
theorem gb_rep (n a : Nat) : gb (List.replicate n false) a = false := by
  unfold gb
  rw [List.getD_eq_getElem?_getD, List.getElem?_replicate]
  split <;> rfl
end Go.Proofs.Ytpiplaicnbapbaa
namespace Go.Proofs.Ytpiplaicnbapbaa
open Go.Rx Go.RowKit
def keyN (l : List Int) : Nat → Int
  | 0 => 0
  | k + 1 => 10 * keyN l k + gl l k
theorem keyN_bd {l : List Int} (h : ∀ i, 0 ≤ gl l i ∧ gl l i ≤ 9) : ∀ k, 0 ≤ keyN l k ∧ keyN l k < 10 ^ k
  | 0 => by simp [keyN]
  | k + 1 => by
    have := keyN_bd h k
    have := h k
    rw [show (10 : Int) ^ (k + 1) = 10 ^ k * 10 from Int.pow_succ ..]
    unfold keyN
    omega
theorem keyN_inj {l m : List Int} (hl : ∀ i, 0 ≤ gl l i ∧ gl l i ≤ 9) (hm : ∀ i, 0 ≤ gl m i ∧ gl m i ≤ 9) : ∀ k, keyN l k = keyN m k → ∀ i, i < k → gl l i = gl m i
  | 0, _, i, hi => by omega
  | k + 1, e, i, hi => by
    unfold keyN at e
    have h1 := hl k
    have h2 := hm k
    by_cases e2 : i = k
    · subst e2; omega
    · exact keyN_inj hl hm k (by omega) i (by omega)
def keyOf (l : List Int) : Int := keyN l l.length
theorem keyOf_inj {n : Nat} {l m : List Int} (hl : CrOk n l) (hm : CrOk n m) (e : keyOf l = keyOf m) : l = m := by
  unfold keyOf at e
  rw [hl.len, hm.len] at e
  have := keyN_inj (fun i => ⟨hl.nn i, hl.le i⟩) (fun i => ⟨hm.nn i, hm.le i⟩) n e
  apply List.ext_getElem (by rw [hl.len, hm.len])
  intro i h1 h2
  have := this i (by rw [hl.len] at h1; exact h1)
  rwa [gl_at h1, gl_at h2] at this
theorem keyOf_bd {n : Nat} {l : List Int} (hn : n ≤ 5) (hl : CrOk n l) : 0 ≤ keyOf l ∧ keyOf l < 100000 := by
  unfold keyOf
  rw [hl.len]
  have := keyN_bd (l := l) (fun i => ⟨hl.nn i, hl.le i⟩) n
  have h2 : (10 : Int) ^ n ≤ 100000 := by
    have : n = 0 ∨ n = 1 ∨ n = 2 ∨ n = 3 ∨ n = 4 ∨ n = 5 := by omega
    rcases this with e | e | e | e | e | e <;> subst e <;> decide
  omega
attribute [local irreducible] E idxN cellAt cellsAt storeAt callable helems hmoved lookIn findKey keyOk hentries Hp.at Hp.set Hp.lay arBits hupdated setAt CallP YieldP BoolOf IsWrap Rnd LoopP AppP CutP Int.tmod Int.tdiv Int.fdiv
section
variable [Unknowns]
attribute [local irreducible] ResP sameAt
theorem isAll_spec (v : Value) (p : Prot) (d : List Int) (on : Int) (n : Nat) (h : Hp) (hv : PV h v p) (hP : POk p) (en : p.n = n) (hd : d.length = n) : CallP E 107 [v, cv (pad5 d), int on] h (fun r h' => (∃ b, r = .bool b ∧ BoolOf b (AllOut p.out on d)) ∧ Grows h h') := by
  obtain ⟨bp, rfl, hbl, b0, ⟨a1, b1, k1⟩, -⟩ := hv.box
  have hol : p.out.length = n := by have := hP.outl; omega
  have hn5 : n ≤ 5 := by have := hP.n5; omega
  have g0 : Grows h ((h.lay (.row 25 true bp)).lay (.row 107 true ((pad5 d).map int))) := (Grows.lay _ _).then_lay _
  have a0 : ((h.lay (.row 25 true bp)).lay (.row 107 true ((pad5 d).map int))).at h.next = some (.row 25 true bp) := Hp.at_lay_old _ (Hp.at_lay_self _ _)
  have a2 : ((h.lay (.row 25 true bp)).lay (.row 107 true ((pad5 d).map int))).at (h.lay (.row 25 true bp)).next = some (.row 107 true ((pad5 d).map int)) := Hp.at_lay_self _ _
  have hp5 := pad5_len (c := d) (by omega)
  have hko := (k1.ext g0).ints
  obtain ⟨ay, cy, ey, hko⟩ := hko
  cases ey
  unfold cv
  refine enter107 (by simp) ?_
  conv => whnf
  refine SeqP.go ?_
  conv => whnf
  refine SeqP.cut (α := Unit) (fun _ => []) (fun _ H => H = (h.lay (.row 25 true bp)).lay (.row 107 true ((pad5 d).map int)) ∧ AllOut p.out on d) ?_ ?_
  rotate_left
  · rintro _ φ9 _ ⟨rfl, ha⟩
    conv => whnf
    repeat (refine SeqP.go ?_; conv => whnf)
    exact ⟨⟨true, rfl, bo_yes ha⟩, g0⟩
  conv => whnf
  repeat (refine SeqP.go ?_; conv => whnf)
  refine ⟨_, cellAt_row a0 b1, ?_⟩
  conv => whnf
  refine loop_inv (α := Nat) (fun k => [(12, int k), (11, int p.out.length), (10, .slice a1 p.out.length p.out.length), (4, ptr (h.lay (.row 25 true bp)).next 0), (2, int on)]) (fun _ => (h.lay (.row 25 true bp)).lay (.row 107 true ((pad5 d).map int))) (fun k => k ≤ n ∧ ∀ s, s < k → 0 < gl d s → gl p.out s = on) (fun k => n - k) 0 ⟨Nat.zero_le _, fun s hs => by omega⟩ ⟨rfl, rfl, rfl, rfl, rfl, trivial⟩ (Hp.Le.refl _) ?_
  rintro k φ ⟨hk, hin⟩
  conv => whnf
  repeat (refine SeqP.go ?_; conv => whnf)
  refine cmpB (fun c1 => ?_) (fun c1 => ?_)
  rotate_left
  · conv => whnf
    repeat (refine SeqP.go ?_; conv => whnf)
    exact ⟨(), trivial, ⟨rfl, fun s hs => hin s (by omega)⟩, rfl⟩
  have hkl : k < p.out.length := by omega
  have hck := hko k hkl
  obtain ⟨r, o, sp, ea, hsp, hci⟩ := hck
  subst ea
  rw [← gl_at hkl] at hci
  have hld := row_load a2 (i := k) (by omega)
  rw [gl_pad] at hld
  have hlo : (0 < gl d k → gl p.out k = on) → ∀ s, s < k + 1 → 0 < gl d s → gl p.out s = on := fun e s hs => by
    by_cases e2 : s = k
    · subst e2; exact e
    · exact hin s (by omega)
  conv => whnf
  repeat (refine SeqP.go ?_; conv => whnf)
  refine ⟨hsp, ⟨by omega, by omega⟩, ?_⟩
  conv => whnf
  refine ⟨int (gl p.out k), by rw [offAt_eq, Nat.add_comm]; simpa using hci, ?_⟩
  conv => whnf
  repeat (refine SeqP.go ?_; conv => whnf)
  refine ⟨⟨by omega, by omega⟩, ?_⟩
  conv => whnf
  refine ⟨int (gl d k), by rw [offAt_eq]; simpa using hld, ?_⟩
  conv => whnf
  refine cmpB (fun c2 => ?_) (fun c2 => ?_)
  · conv => whnf
    refine cmpB (fun c3 => ?_) (fun c3 => ?_)
    · conv => whnf
      repeat (refine SeqP.go ?_; conv => whnf)
      exact ⟨⟨false, rfl, bo_no fun e => c3 (e k hkl (by omega))⟩, g0⟩
    · conv => whnf
      repeat (refine SeqP.go ?_; conv => whnf)
      refine ⟨((k + 1 : Nat) : Int), wie (by omega) (by omega), ?_⟩
      conv => whnf
      exact Rnd.mk (k + 1) ⟨by show k + 1 ≤ _; omega, hlo fun _ => by omega⟩ (by show _ - (k + 1) < _ - k; omega) ⟨rfl, rfl, rfl, rfl, rfl, trivial⟩ (Hp.Le.refl _) rfl
  · conv => whnf
    repeat (refine SeqP.go ?_; conv => whnf)
    refine ⟨((k + 1 : Nat) : Int), wie (by omega) (by omega), ?_⟩
    conv => whnf
    exact Rnd.mk (k + 1) ⟨by show k + 1 ≤ _; omega, hlo fun e => by omega⟩ (by show _ - (k + 1) < _ - k; omega) ⟨rfl, rfl, rfl, rfl, rfl, trivial⟩ (Hp.Le.refl _) rfl
end
end Go.Proofs.Ytpiplaicnbapbaa
namespace Go.Proofs.Ytpiplaicnbapbaa
open Go.Rx Go.RowKit
structure BfOk (R : List Q4) (L : List (List Int)) (B : List (List Int)) : Prop where
  len : B.length = L.length
  fwd : ∀ i, (hi : i < B.length) → ∀ x ∈ B[i], ∃ k : Nat, x = (k : Int) ∧ Ed R L k i
  bwd : ∀ k i, Ed R L k i → ∃ hi : i < B.length, (k : Int) ∈ B[i]
  small : ∀ i, (hi : i < B.length) → B[i].length ≤ 10000000
structure Nums (m : Nat) (l : List Int) : Prop where
  rng : ∀ x ∈ l, ∃ k : Nat, x = (k : Int) ∧ k < m
  once : ∀ i j, i < j → j < l.length → gl l i ≠ gl l j
structure Wk (R : List Q4) (L : List (List Int)) (T : Nat → Prop) (at_ : Nat) (l : List Int) (ms : List Bool) : Prop where
  len : ms.length = L.length
  cnt : l.length + nf ms = L.length
  rng : ∀ x ∈ l, ∃ k : Nat, x = (k : Int) ∧ k < L.length
  same : ∀ k : Nat, gb ms k = true ↔ (k : Int) ∈ l
  lead : ∀ k : Nat, (k : Int) ∈ l → Lead R L T k
  all : ∀ t : Nat, T t → (t : Int) ∈ l
  clo : ∀ j a b : Nat, j < at_ → j < l.length → gl l j = (b : Int) → Ed R L a b → (a : Int) ∈ l
theorem gl_snoc {l : List Int} {x : Int} {j : Nat} (h : j < l.length) : gl (l ++ [x]) j = gl l j := by
  unfold gl
  rw [List.getD_eq_getElem?_getD, List.getD_eq_getElem?_getD, List.getElem?_append_left h]
theorem Wk.add {R : List Q4} {L : List (List Int)} {T : Nat → Prop} {at_ : Nat} {l : List Int} {ms : List Bool} (w : Wk R L T at_ l ms) (ha : at_ ≤ l.length) {k : Nat} (hk : k < L.length) (hf : gb ms k = false) (hl : Lead R L T k) : Wk R L T at_ (l ++ [(k : Int)]) (ms.set k true) := by
  have hlen := w.len
  have hn := nf_set (l := ms) (i := k) (by omega) hf
  have hc := w.cnt
  refine ⟨by rw [List.length_set]; exact w.len, by rw [List.length_append, List.length_singleton]; omega, fun x hx => ?_, fun j => ?_, fun j hj => ?_, fun t ht => List.mem_append_left _ (w.all t ht), fun j a b hj hj2 e he => ?_⟩
  · rcases List.mem_append.1 hx with hx | hx
    · exact w.rng x hx
    · exact ⟨k, List.mem_singleton.1 hx, hk⟩
  · rw [gb_set (by omega), List.mem_append, List.mem_singleton, ← w.same j]
    by_cases e : j = k
    · subst e; simp
    · rw [if_neg e]
      constructor
      · intro h; exact .inl h
      · rintro (h | h)
        · exact h
        · exact absurd (by omega) e
  · rcases List.mem_append.1 hj with hj | hj
    · exact w.lead j hj
    · have := List.mem_singleton.1 hj
      have : j = k := by omega
      rw [this]; exact hl
  · rw [gl_snoc (by omega)] at e
    exact List.mem_append_left _ (w.clo j a b hj (by omega) e he)
theorem Wk.turn {R : List Q4} {L : List (List Int)} {T : Nat → Prop} {at_ : Nat} {l : List Int} {ms : List Bool} (w : Wk R L T at_ l ms) (h : ∀ a b : Nat, gl l at_ = (b : Int) → Ed R L a b → (a : Int) ∈ l) : Wk R L T (at_ + 1) l ms :=
  ⟨w.len, w.cnt, w.rng, w.same, w.lead, w.all, fun j a b hj hj2 e he => by
    by_cases e2 : j = at_
    · subst e2; exact h a b e he
    · exact w.clo j a b (by omega) hj2 e he⟩
theorem Wk.done {R : List Q4} {L : List (List Int)} {T : Nat → Prop} {l : List Int} {ms : List Bool} (w : Wk R L T l.length l ms) (a : Nat) : gb ms a = true ↔ Lead R L T a := by
  rw [w.same]
  refine ⟨w.lead a, fun h => h.least (M := fun a : Nat => (a : Int) ∈ l) w.all fun a b e hb => ?_⟩
  obtain ⟨j, hj, ej⟩ := List.getElem_of_mem hb
  exact w.clo j a b hj hj (by rw [gl_at hj]; exact ej) e
structure Mt (m : Nat) (to : List Int) (k : Nat) (ms : List Bool) : Prop where
  len : ms.length = m
  cnt : k + nf ms = m
  same : ∀ a : Nat, gb ms a = true ↔ ∃ i, i < k ∧ gl to i = (a : Int)
theorem nf_rep (n : Nat) : nf (List.replicate n false) = n := by
  induction n with
  | zero => rfl
  | succ n ih => rw [List.replicate_succ]; simp [nf, ih]; omega
theorem Mt.start (m : Nat) (to : List Int) : Mt m to 0 (List.replicate m false) := ⟨List.length_replicate, by rw [nf_rep]; omega, fun a => ⟨fun e => (by rw [gb_rep] at e; cases e), fun ⟨i, hi, _⟩ => absurd hi (Nat.not_lt_zero _)⟩⟩
theorem Mt.next {m : Nat} {to : List Int} {k : Nat} {ms : List Bool} (w : Mt m to k ms) (ht : Nums m to) (hk : k < to.length) {a : Nat} (ea : gl to k = (a : Int)) (ha : a < m) : Mt m to (k + 1) (ms.set a true) := by
  have hf : gb ms a = false := by
    cases e : gb ms a with
    | false => rfl
    | true =>
      obtain ⟨i, hi, e2⟩ := (w.same a).1 e
      exact absurd (e2.trans ea.symm) (ht.once i k hi hk)
  have hl := w.len
  have hn := nf_set (l := ms) (i := a) (by omega) hf
  have hc := w.cnt
  refine ⟨by rw [List.length_set]; exact hl, by omega, fun b => ?_⟩
  rw [gb_set (by omega)]
  constructor
  · intro e
    split at e
    · rename_i e2; exact ⟨k, Nat.lt_succ_self _, by rw [ea, e2]⟩
    · obtain ⟨i, hi, e2⟩ := (w.same b).1 e
      exact ⟨i, by omega, e2⟩
  · rintro ⟨i, hi, e⟩
    split
    · rfl
    · rename_i e2
      refine (w.same b).2 ⟨i, ?_, e⟩
      by_cases e3 : i = k
      · subst e3; exact absurd (by omega) e2
      · omega
theorem Mt.done {R : List Q4} {L : List (List Int)} {to : List Int} {ms : List Bool} (w : Mt L.length to to.length ms) (ht : Nums L.length to) : Wk R L (fun t => (t : Int) ∈ to) 0 to ms :=
  ⟨w.len, w.cnt, ht.rng, fun k => by
    rw [w.same]
    constructor
    · rintro ⟨i, hi, e⟩
      rw [← e, gl_at hi]
      exact List.getElem_mem _
    · intro h
      obtain ⟨i, hi, e⟩ := List.getElem_of_mem h
      exact ⟨i, hi, by rw [gl_at hi]; exact e⟩, fun k hk => Lead.self hk, fun t ht => ht, fun j a b hj => absurd hj (Nat.not_lt_zero _)⟩
theorem built_setE {h0 h : Hp} {e e' : TypeId} {v : Value} {l : List Int} {D : Nat} {x : Bool} {cs : List Value} {o : Rx.Obj} (k : Built h0 h e v l) (hD : h.at D = some (.row e' x cs)) (hne : e ≠ e') : Built h0 (h.set D o) e v l := by
  rcases k with h1 | ⟨r, e1, h2, y, h3⟩
  · exact .inl h1
  · refine .inr ⟨r, e1, h2, y, ?_⟩
    have : r ≠ D := fun e2 => by subst e2; rw [h3] at hD; cases hD; exact hne rfl
    rw [Hp.at_set_ne _ this]
    exact h3
theorem built_off {h0 h : Hp} {e e' : TypeId} {v : Value} {l : List Int} {D : Nat} {x : Bool} {cs : List Value} (k : Built h0 h e v l) (hD : h.at D = some (.row e' x cs)) (hne : e ≠ e') : ∀ n c, v ≠ slc D 0 n c := by
  intro n c e1
  rcases k with ⟨rfl, _⟩ | ⟨r, rfl, h2, y, h3⟩
  · cases e1
  · have : r = D := by simp [slc] at e1; exact e1.1
    subst this
    rw [h3] at hD
    cases hD
    exact hne rfl
theorem nil_eq : aBin E .eql 22 (.tmp 3) (.const (.slice none 0 0)) (.slice none 0 0) (.slice none 0 0) = some (.bool true) := by kernel_rfl
attribute [local irreducible] E idxN cellAt cellsAt storeAt callable helems hmoved lookIn findKey keyOk hentries Hp.at Hp.set Hp.lay arBits hupdated setAt CallP YieldP BoolOf IsWrap Rnd LoopP AppP CutP Int.tmod Int.tdiv Int.fdiv
section
variable [Unknowns]
attribute [local irreducible] ResP sameAt
theorem clone2_spec (v : Value) (l : List Int) (h : Hp) (hv : LV h v l) (hl : l.length ≤ 1000000) : CallP E 71 [v] h (fun r h' => Built h h' 3 r l ∧ Grows h h') := by
  rcases id hv with ⟨rfl, rfl⟩ | ⟨r, rfl, hr, x, hat⟩
  · refine enter71 (by simp) ?_
    conv => whnf
    repeat (refine SeqP.go ?_; conv => whnf)
    refine resP_val (v := .bool true) (h := h) ?_ ?_
    · show hval _ (aBin E .eql 22 (.tmp 3) (.const (.slice none 0 0)) (.slice none 0 0) (.slice none 0 0)) = _
      rw [nil_eq]
      rfl
    conv => whnf
    repeat (refine SeqP.go ?_; conv => whnf)
    exact ⟨.inl ⟨rfl, rfl⟩, .refl _⟩
  · refine enter71 (by simp) ?_
    conv => whnf
    repeat (refine SeqP.go ?_; conv => whnf)
    refine resP_val (v := .bool false) (h := h) ?_ ?_
    · show hval _ (aBin E .eql 22 _ (.const _) (slc r 0 l.length l.length) (.slice none 0 0)) = _
      unfold slc
      rw [nil_neq]
      rfl
    conv => whnf
    repeat (refine SeqP.go ?_; conv => whnf)
    refine AppP.ints (h0 := h) (l := []) (new := l) (.inr ⟨h.next, rfl, Nat.le_refl _, true, Hp.at_lay_self _ _⟩) (Grows.lay _ _) (View.elems (View.ext (Grows.lay _ _) (Built.view hv))) (by simp; omega) ?_
    intro v2 h2 hb hg _
    rw [List.nil_append] at hb
    rcases id hb with ⟨rfl, e⟩ | ⟨r2, rfl, _, _⟩
    · conv => whnf
      repeat (refine SeqP.go ?_; conv => whnf)
      exact ⟨hb, hg⟩
    · conv => whnf
      repeat (refine SeqP.go ?_; conv => whnf)
      exact ⟨hb, hg⟩
theorem lead_spec (bx : List Value) (cvv bvv tv : Value) (R : List Q4) (L B : List (List Int)) (to : List Int) (h : Hp) (hbx : bx.length = 2) (hone : bx.all oneCell = true) (b0 : bx[0]? = some cvv) (b1 : bx[1]? = some bvv) (hc : ∃ a c, cvv = .slice a L.length c) (hB : SL h bvv B) (hBo : BfOk R L B) (ht : LV h tv to) (hto : Nums L.length to) (hL1 : 0 < L.length) (hL2 : L.length ≤ 100000) : CallP E 92 [.agg ⟨bx⟩, tv] h (fun r h' => (∃ ms, BV h' r ms ∧ ms.length = L.length ∧ ∀ a, gb ms a = true ↔ Lead R L (fun t => (t : Int) ∈ to) a) ∧ Grows h h') := by
  obtain ⟨ac, cc, rfl⟩ := hc
  obtain ⟨an, cn, rfl, -⟩ := id hB
  have hBl := hBo.len
  have htk := ht.known
  obtain ⟨at0, rfl⟩ := htk
  have hti := (ht.view).ints
  have g0 : Grows h (h.lay (.row 104 true bx)) := Grows.lay _ _
  have a0 : (h.lay (.row 104 true bx)).at h.next = some (.row 104 true bx) := Hp.at_lay_self _ _
  refine enter92 (by simp) ?_
  conv => whnf
  refine SeqP.go ?_
  conv => whnf
  refine SeqP.cut (α := Nat × Hp) (fun s => [(5, slc s.1 0 L.length L.length), (2, ptr h.next 0), (1, .slice at0 to.length to.length)]) (fun s H => s.2 = H ∧ SM h s.1 true (List.replicate L.length false) s.2 ∧ s.2.at h.next = some (.row 104 true bx) ∧ h.next < s.1) ?_ ?_
  · conv => whnf
    refine ⟨_, cellAt_row a0 b0, ?_⟩
    conv => whnf
    refine ⟨⟨by omega, by omega, by omega, by omega⟩, ?_⟩
    conv => whnf
    refine ⟨((h.lay (.row 104 true bx)).next, _), ⟨rfl, rfl, rfl, trivial⟩, ⟨rfl, ⟨?_, g0.then_lay _, ?_⟩, Hp.at_lay_old _ a0, ?_⟩, rfl⟩
    · rw [← rep_bool]
      exact Hp.at_lay_self _ _
    · show h.next ≤ (h.lay (.row 104 true bx)).next
      rw [Hp.next_lay]; omega
    · show h.next < (h.lay (.row 104 true bx)).next
      rw [Hp.next_lay]; omega
  rintro ⟨r, H1⟩ φ1 _ ⟨rfl, hs1, hb1, hrn⟩
  dsimp only at hs1 hb1 hrn ⊢
  conv => whnf
  refine SeqP.cut (α := List Bool × Hp) (fun s => [(5, slc r 0 L.length L.length), (2, ptr h.next 0), (1, .slice at0 to.length to.length)]) (fun s H => s.2 = H ∧ SM h r true s.1 s.2 ∧ Mt L.length to to.length s.1 ∧ s.2.at h.next = some (.row 104 true bx)) ?_ ?_
  · conv => whnf
    repeat (refine SeqP.go ?_; conv => whnf)
    refine loop_inv (α := Nat × List Bool × Hp) (fun s => [(18, int s.1), (17, int to.length), (16, .slice at0 to.length to.length), (5, slc r 0 L.length L.length), (2, ptr h.next 0), (1, .slice at0 to.length to.length)]) (fun s => s.2.2) (fun s => s.1 ≤ to.length ∧ SM h r true s.2.1 s.2.2 ∧ Mt L.length to s.1 s.2.1 ∧ s.2.2.at h.next = some (.row 104 true bx)) (fun s => to.length - s.1) (0, _, H1) ⟨Nat.zero_le _, hs1, Mt.start _ _, hb1⟩ ⟨rfl, rfl, rfl, rfl, rfl, rfl, trivial⟩ (Hp.Le.refl _) ?_
    rintro ⟨k, ms, H⟩ φ2 ⟨hk, hs, hm, hb⟩
    dsimp only at hk hs hm hb ⊢
    conv => whnf
    repeat (refine SeqP.go ?_; conv => whnf)
    refine cmpB (fun c1 => ?_) (fun c1 => ?_)
    rotate_left
    · have : k = to.length := by omega
      subst this
      conv => whnf
      repeat (refine SeqP.go ?_; conv => whnf)
      exact ⟨(ms, H), ⟨rfl, rfl, rfl, trivial⟩, ⟨rfl, hs, hm, hb⟩, rfl⟩
    have hkl : k < to.length := by omega
    have hc := (hti.ext hs.gr)
    obtain ⟨ax, cx, ex, hc⟩ := hc
    cases ex
    have hck := hc k hkl
    clear hc
    obtain ⟨r5, o5, sp5, ea5, hsp5, hc5⟩ := hck
    subst ea5
    have hrg := hto.rng to[k] (List.getElem_mem _)
    obtain ⟨a, ea, ha⟩ := hrg
    rw [ea] at hc5
    have hmlen := hm.len
    conv => whnf
    repeat (refine SeqP.go ?_; conv => whnf)
    refine ⟨hsp5, ⟨by omega, by omega⟩, ?_⟩
    conv => whnf
    refine ⟨int a, by rw [offAt_eq, Nat.add_comm]; simpa using hc5, ?_⟩
    conv => whnf
    repeat (refine SeqP.go ?_; conv => whnf)
    refine ⟨rfl, ⟨by omega, by omega⟩, ?_⟩
    conv => whnf
    refine ⟨rfl, _, hs.store (i := a) (by omega) true, ?_⟩
    conv => whnf
    have hmcnt := hm.cnt
    refine ⟨((k + 1 : Nat) : Int), wie (by omega) (by omega), ?_⟩
    conv => whnf
    exact Rnd.mk (k + 1, ms.set a true, _) ⟨by show k + 1 ≤ _; omega, hs.put _, hm.next hto hkl (by rw [gl_at hkl]; exact ea) ha, by rw [Hp.at_set_ne _ (by omega)]; exact hb⟩ (by show _ - (k + 1) < _ - k; omega) ⟨rfl, rfl, rfl, rfl, rfl, rfl, trivial⟩ (Hp.Le.refl _) rfl
  rintro ⟨ms, H2⟩ φ3 _ ⟨rfl, hs2, hm2, hb2⟩
  dsimp only at hs2 hm2 hb2 ⊢
  have hw0 := hm2.done (R := R) (L := L) hto
  have hcnt := hm2.cnt
  conv => whnf
  refine SeqP.cut (α := Value × Hp) (fun s => [(8, s.1), (5, slc r 0 L.length L.length), (2, ptr h.next 0)]) (fun s H => s.2 = H ∧ SM h r true ms s.2 ∧ Built H2 s.2 3 s.1 to ∧ s.2.at h.next = some (.row 104 true bx)) ?_ ?_
  · conv => whnf
    refine CallP.mono (clone2_spec _ to _ (ht.ext hs2.gr) (by omega)) ?_
    rintro r3 H3 ⟨hb3, g3⟩
    conv => whnf
    exact ⟨(r3, H3), ⟨rfl, rfl, rfl, trivial⟩, ⟨rfl, ⟨g3.at_ _ _ hs2.at_, hs2.gr.trans g3, hs2.hr⟩, hb3, g3.at_ _ _ hb2⟩, rfl⟩
  rintro ⟨lv, H3⟩ φ4 _ ⟨rfl, hs3, hlv, hb3⟩
  dsimp only at hs3 hlv hb3 ⊢
  have hlv0 : Built h H3 3 lv to := hlv.back hs2.gr.next
  clear hlv
  conv => whnf
  refine SeqP.cut (α := List Int × List Bool × Hp) (fun s => [(5, slc r 0 L.length L.length)]) (fun s H => s.2.2 = H ∧ SM h r true s.2.1 s.2.2 ∧ Wk R L (fun t => (t : Int) ∈ to) s.1.length s.1 s.2.1) ?_ ?_
  rotate_left
  · rintro ⟨l, ms, H⟩ φ9 _ ⟨rfl, h1, h2⟩
    dsimp only at h1 h2 ⊢
    conv => whnf
    repeat (refine SeqP.go ?_; conv => whnf)
    exact ⟨⟨ms, ⟨r, true, by rw [h2.len]; rfl, h1.at_⟩, h2.len, h2.done⟩, h1.gr⟩
  conv => whnf
  repeat (refine SeqP.go ?_; conv => whnf)
  refine loop_inv (α := Nat × Value × List Int × List Bool × Hp) (fun s => [(9, int s.1), (8, s.2.1), (5, slc r 0 L.length L.length), (2, ptr h.next 0)]) (fun s => s.2.2.2.2) (fun s => s.1 ≤ s.2.2.1.length ∧ SM h r true s.2.2.2.1 s.2.2.2.2 ∧ Built h s.2.2.2.2 3 s.2.1 s.2.2.1 ∧ Wk R L (fun t => (t : Int) ∈ to) s.1 s.2.2.1 s.2.2.2.1 ∧ s.2.2.2.2.at h.next = some (.row 104 true bx)) (fun s => L.length - s.1) (0, lv, to, ms, H3) ⟨Nat.zero_le _, hs3, hlv0, hw0, hb3⟩ ⟨rfl, rfl, rfl, rfl, trivial⟩ (Hp.Le.refl _) ?_
  clear hs3 hlv0 hw0 hb3 hs2 hm2 hb2 hcnt
  rintro ⟨k, lv, l, ms, H⟩ φ5 ⟨hk, hs, hlv, hw, hb⟩
  dsimp only at hk hs hlv hw hb ⊢
  have hcnt := hw.cnt
  have hkk := (LV.of hlv).known
  obtain ⟨al, rfl⟩ := hkk
  conv => whnf
  repeat (refine SeqP.go ?_; conv => whnf)
  refine cmpB (fun c1 => ?_) (fun c1 => ?_)
  rotate_left
  · have : k = l.length := by omega
    subst this
    conv => whnf
    repeat (refine SeqP.go ?_; conv => whnf)
    exact ⟨(l, ms, H), ⟨rfl, trivial⟩, ⟨rfl, hs, hw⟩, rfl⟩
  have hkl : k < l.length := by omega
  have hc := hlv.ints
  obtain ⟨ax, cx, ex, hc⟩ := hc
  cases ex
  have hck := hc k hkl
  clear hc
  obtain ⟨r5, o5, sp5, ea5, hsp5, hc5⟩ := hck
  subst ea5
  have hrg := hw.rng l[k] (List.getElem_mem _)
  obtain ⟨b, eb, hb6⟩ := hrg
  rw [eb] at hc5
  have hbB : b < B.length := by omega
  have hcB := id hB
  obtain ⟨an', cn', ew, hcB⟩ := hcB
  cases ew
  have hcj := hcB b hbB
  clear hcB
  obtain ⟨rn, on, sp, w, ea, hsp, hw1, hw2⟩ := hcj
  subst ea
  have hkk := hw2.known
  obtain ⟨aw, cw, rfl⟩ := hkk
  have hw1 := hs.gr.cell hw1
  have hsmall := hBo.small b hbB
  have hgb : gl l k = (b : Int) := by rw [gl_at hkl]; exact eb
  conv => whnf
  refine SeqP.cut (α := Value × List Int × List Bool × Hp) (fun s => [(9, int k), (8, s.1), (5, slc r 0 L.length L.length), (2, ptr h.next 0)]) (fun s H' => s.2.2.2 = H' ∧ k < s.2.1.length ∧ SM h r true s.2.2.1 s.2.2.2 ∧ Built h s.2.2.2 3 s.1 s.2.1 ∧ Wk R L (fun t => (t : Int) ∈ to) (k + 1) s.2.1 s.2.2.1 ∧ s.2.2.2.at h.next = some (.row 104 true bx)) ?_ ?_
  rotate_left
  · rintro ⟨lv', l', ms', H'⟩ φ6 _ ⟨rfl, e0, e1, e2, e3, e4⟩
    dsimp only at e0 e1 e2 e3 e4 ⊢
    have := e3.cnt
    conv => whnf
    refine ⟨((k + 1 : Nat) : Int), wie (by omega) (by omega), ?_⟩
    conv => whnf
    exact Rnd.mk (k + 1, lv', l', ms', H') ⟨by show k + 1 ≤ l'.length; omega, e1, e2, e3, e4⟩ (by show _ - (k + 1) < _ - k; omega) ⟨rfl, rfl, rfl, rfl, trivial⟩ (Hp.Le.refl _) rfl
  conv => whnf
  repeat (refine SeqP.go ?_; conv => whnf)
  refine ⟨_, cellAt_row hb b1, ?_⟩
  conv => whnf
  refine ⟨hsp5, ⟨by omega, by omega⟩, ?_⟩
  conv => whnf
  refine ⟨int b, by rw [offAt_eq, Nat.add_comm]; simpa using hc5, ?_⟩
  conv => whnf
  refine ⟨hsp, ⟨by omega, by omega⟩, ?_⟩
  conv => whnf
  refine ⟨.slice aw B[b].length cw, by rw [offAt_eq, Nat.add_comm]; simpa using hw1, ?_⟩
  conv => whnf
  refine loop_inv (α := Nat × Value × List Int × List Bool × Hp) (fun s => [(43, int s.1), (42, int B[b].length), (41, .slice aw B[b].length cw), (9, int k), (8, s.2.1), (5, slc r 0 L.length L.length), (2, ptr h.next 0)]) (fun s => s.2.2.2.2) (fun s => s.1 ≤ B[b].length ∧ k < s.2.2.1.length ∧ gl s.2.2.1 k = (b : Int) ∧ SM h r true s.2.2.2.1 s.2.2.2.2 ∧ Built h s.2.2.2.2 3 s.2.1 s.2.2.1 ∧ Wk R L (fun t => (t : Int) ∈ to) k s.2.2.1 s.2.2.2.1 ∧ s.2.2.2.2.at h.next = some (.row 104 true bx) ∧ ∀ j, (hj : j < B[b].length) → j < s.1 → B[b][j] ∈ s.2.2.1) (fun s => B[b].length - s.1) (0, _, l, ms, H) ⟨Nat.zero_le _, hkl, hgb, hs, hlv, hw, hb, fun j hj hj0 => absurd hj0 (Nat.not_lt_zero _)⟩ ⟨rfl, rfl, rfl, rfl, rfl, rfl, rfl, trivial⟩ (Hp.Le.refl _) ?_
  clear hcnt
  rintro ⟨j, lv2, l2, ms2, H2⟩ φ7 ⟨hj, hkl, hgb, hs, hlv, hw, hb2, hdone⟩
  dsimp only at hj hkl hgb hs hlv hw hb2 hdone ⊢
  have hcnt := hw.cnt
  have hmlen := hw.len
  have hkk := (LV.of hlv).known
  obtain ⟨al2, rfl⟩ := hkk
  conv => whnf
  repeat (refine SeqP.go ?_; conv => whnf)
  refine cmpB (fun c2 => ?_) (fun c2 => ?_)
  rotate_left
  · conv => whnf
    repeat (refine SeqP.go ?_; conv => whnf)
    refine ⟨(_, l2, ms2, H2), ⟨rfl, rfl, rfl, rfl, trivial⟩, ⟨rfl, hkl, hs, hlv, hw.turn fun a b' e he => ?_, hb2⟩, rfl⟩
    rw [hgb] at e
    have : b = b' := by omega
    subst this
    obtain ⟨h1, h2⟩ := hBo.bwd a b he
    obtain ⟨i, hi, ei⟩ := List.getElem_of_mem h2
    rw [← ei]
    exact hdone i hi (by omega)
  have hjl : j < B[b].length := by omega
  have hci := (hw2.ext hs.gr).ints
  obtain ⟨ay, cy, ey, hci⟩ := hci
  cases ey
  have hcik := hci j hjl
  clear hci
  obtain ⟨r7, o7, sp7, ea7, hsp7, hc7⟩ := hcik
  subst ea7
  have hfw := hBo.fwd b hbB B[b][j] (List.getElem_mem _)
  obtain ⟨a, ekk, hed⟩ := hfw
  have hal := hed.lt.1
  rw [ekk] at hc7
  have hldk := hs.load (i := a) (by omega)
  have hexc : ∃ c, gb ms2 a = c := ⟨_, rfl⟩
  obtain ⟨c, ec⟩ := hexc
  rw [ec] at hldk
  conv => whnf
  repeat (refine SeqP.go ?_; conv => whnf)
  refine ⟨hsp7, ⟨by omega, by omega⟩, ?_⟩
  conv => whnf
  refine ⟨int a, by rw [offAt_eq, Nat.add_comm]; simpa using hc7, ?_⟩
  conv => whnf
  repeat (refine SeqP.go ?_; conv => whnf)
  refine ⟨rfl, ⟨by omega, by omega⟩, ?_⟩
  conv => whnf
  refine ⟨_, hldk, ?_⟩
  conv => whnf
  cases c with
  | true =>
    conv => whnf
    repeat (refine SeqP.go ?_; conv => whnf)
    refine ⟨((j + 1 : Nat) : Int), wie (by omega) (by omega), ?_⟩
    conv => whnf
    refine Rnd.mk (j + 1, _, l2, ms2, H2) ⟨by show j + 1 ≤ B[b].length; omega, hkl, hgb, hs, hlv, hw, hb2, fun i hi hi2 => ?_⟩ (by show B[b].length - (j + 1) < B[b].length - j; omega) ⟨rfl, rfl, rfl, rfl, rfl, rfl, rfl, trivial⟩ (Hp.Le.refl _) rfl
    by_cases e3 : i = j
    · subst e3
      rw [ekk]
      exact (hw.same a).1 ec
    · exact hdone i hi (by have : i < j + 1 := hi2; omega)
  | false =>
    have hld := hw.lead b (by rw [← hgb, gl_at hkl]; exact List.getElem_mem _)
    have hw3 := hw.add (by omega) hal ec (hld.back hed)
    have hs3 := hs.put (ms2.set a true)
    have hlv3 := built_setE (o := .row 4 true ((ms2.set a true).map .bool)) hlv hs.at_ (by decide)
    have hb3' : (H2.set r (.row 4 true ((ms2.set a true).map .bool))).at h.next = some (.row 104 true bx) := by rw [Hp.at_set_ne _ (by omega)]; exact hb2
    have hoff := built_off hlv3 hs3.at_ (by decide)
    conv => whnf
    refine ⟨rfl, ⟨by omega, by omega⟩, ?_⟩
    conv => whnf
    refine ⟨rfl, _, hs.store (i := a) (by omega) true, ?_⟩
    conv => whnf
    repeat (refine SeqP.go ?_; conv => whnf)
    refine AppP.ints (hlv3.ext (Grows.lay _ _)) (hs3.gr.then_lay _) Elems.lay1 (by simp; omega) ?_
    intro v4 H4 hv4 hg4 keep
    conv => whnf
    repeat (refine SeqP.go ?_; conv => whnf)
    refine ⟨((j + 1 : Nat) : Int), wie (by omega) (by omega), ?_⟩
    conv => whnf
    refine Rnd.mk (j + 1, v4, l2 ++ [(a : Int)], ms2.set a true, H4) ⟨by show j + 1 ≤ B[b].length; omega, by show k < (l2 ++ [(a : Int)]).length; rw [List.length_append]; omega, by show gl (l2 ++ [(a : Int)]) k = _; rw [gl_snoc hkl]; exact hgb, ⟨keep _ _ (Hp.at_lay_old _ hs3.at_) hoff, hg4, hs.hr⟩, hv4, hw3, keep _ _ (Hp.at_lay_old _ hb3') (built_off hlv3 hb3' (by decide)), fun i hi hi2 => ?_⟩ (by show B[b].length - (j + 1) < B[b].length - j; omega) ⟨rfl, rfl, rfl, rfl, rfl, rfl, rfl, trivial⟩ (Hp.Le.refl _) rfl
    · show B[b][i] ∈ l2 ++ [(a : Int)]
      by_cases e3 : i = j
      · subst e3
        rw [ekk]
        exact List.mem_append_right _ (List.mem_singleton.2 rfl)
      · exact List.mem_append_left _ (hdone i hi (by have : i < j + 1 := hi2; omega))
end
end Go.Proofs.Ytpiplaicnbapbaa
namespace Go.Proofs.Ytpiplaicnbapbaa
open Go.Rx Go.RowKit
theorem bool_eql (a b : Bool) : aBin E .eql 4 (.tmp 11) (.tmp 15) (.bool a) (.bool b) = some (.bool (a == b)) := by
  cases a <;> cases b <;> kernel_rfl
def AL (h : Hp) (v : Value) (L : List (List Int)) : Prop := ∃ a c, v = .slice a L.length c ∧ ∀ j, (hj : j < L.length) → ∃ r o, a = some ⟨r, o, none⟩ ∧ cellsAt h r (j * 5 + o) 5 = some ((pad5 L[j]).map int)
theorem AL.ext {h h' : Hp} {v : Value} {L : List (List Int)} (g : Grows h h') (k : AL h v L) : AL h' v L := by
  obtain ⟨a, c, e, hc⟩ := k
  exact ⟨a, c, e, fun j hj => let ⟨r, o, e1, e2⟩ := hc j hj; ⟨r, o, e1, g.cells e2⟩⟩
structure PR (h : Hp) (bx : List Value) (R : List Q4) (n : Nat) (c : List Int) (L B : List (List Int)) : Prop where
  len : bx.length = 2
  one : bx.all oneCell = true
  lv : ∃ v, bx[0]? = some v ∧ AL h v L
  bv : ∃ v, bx[1]? = some v ∧ SL h v B
  bf : BfOk R L B
  gr : Gr R c L
  ok : ∀ d ∈ L, CrOk n d
  few : L.length ≤ 100000
theorem PR.ext {h h' : Hp} {bx : List Value} {R : List Q4} {n : Nat} {c : List Int} {L B : List (List Int)} (g : Grows h h') (k : PR h bx R n c L B) : PR h' bx R n c L B := by
  obtain ⟨h1, h2, ⟨v, h3, h4⟩, ⟨w, h5, h6⟩, h7, h8, h9, h10⟩ := k
  exact ⟨h1, h2, ⟨v, h3, h4.ext g⟩, ⟨w, h5, h6.ext g⟩, h7, h8, h9, h10⟩
structure Up (P : Nat → Prop) (i : Nat) (l : List Int) : Prop where
  rng : ∀ x ∈ l, ∃ k : Nat, x = (k : Int) ∧ k < i
  once : ∀ a b, a < b → b < l.length → gl l a ≠ gl l b
  mem : ∀ k : Nat, (k : Int) ∈ l ↔ k < i ∧ P k
  cnt : l.length ≤ i
theorem Up.start (P : Nat → Prop) : Up P 0 [] := ⟨fun x h => by simp at h, fun a b _ h => by simp at h, fun k => ⟨fun h => by simp at h, fun h => absurd h.1 (Nat.not_lt_zero _)⟩, Nat.le_refl _⟩
theorem Up.skip {P : Nat → Prop} {i : Nat} {l : List Int} (u : Up P i l) (h : ¬ P i) : Up P (i + 1) l :=
  ⟨fun x hx => let ⟨k, e, hk⟩ := u.rng x hx; ⟨k, e, by omega⟩, u.once, fun k => (u.mem k).trans ⟨fun e => ⟨by omega, e.2⟩, fun e => ⟨by
    by_cases e2 : k = i
    · subst e2; exact absurd e.2 h
    · omega, e.2⟩⟩, by have := u.cnt; omega⟩
theorem Up.add {P : Nat → Prop} {i : Nat} {l : List Int} (u : Up P i l) (h : P i) : Up P (i + 1) (l ++ [(i : Int)]) := by
  refine ⟨fun x hx => ?_, fun a b hab hb => ?_, fun k => ?_, by have := u.cnt; rw [List.length_append, List.length_singleton]; omega⟩
  · rcases List.mem_append.1 hx with hx | hx
    · obtain ⟨k, e, hk⟩ := u.rng x hx
      exact ⟨k, e, by omega⟩
    · exact ⟨i, List.mem_singleton.1 hx, by omega⟩
  · rw [List.length_append, List.length_singleton] at hb
    by_cases e : b < l.length
    · rw [gl_snoc e, gl_snoc (by omega)]
      exact u.once a b hab e
    · have e2 : b = l.length := by omega
      subst e2
      rw [gl_snoc hab]
      have e3 : gl (l ++ [(i : Int)]) l.length = (i : Int) := by
        rw [gl_at (by simp)]
        simp
      rw [e3]
      intro e4
      have hm : gl l a ∈ l := by rw [gl_at hab]; exact List.getElem_mem _
      obtain ⟨k, e5, hk⟩ := u.rng _ hm
      omega
  · rw [List.mem_append, List.mem_singleton, u.mem k]
    constructor
    · rintro (e | e)
      · exact ⟨by omega, e.2⟩
      · have : k = i := by omega
        subst this
        exact ⟨by omega, h⟩
    · rintro ⟨e1, e2⟩
      by_cases e3 : k = i
      · exact .inr (by omega)
      · exact .inl ⟨by omega, e2⟩
theorem Up.nums {P : Nat → Prop} {m : Nat} {l : List Int} (u : Up P m l) : Nums m l := ⟨u.rng, u.once⟩
attribute [local irreducible] E idxN cellAt cellsAt storeAt callable helems hmoved lookIn findKey keyOk hentries Hp.at Hp.set Hp.lay arBits hupdated setAt CallP YieldP BoolOf IsWrap Rnd LoopP AppP CutP Int.tmod Int.tdiv Int.fdiv
section
variable [Unknowns]
attribute [local irreducible] ResP sameAt
theorem indexB_spec (v : Value) (ms : List Bool) (x : Bool) (h : Hp) (hv : BV h v ms) (hl : ms.length ≤ 1000000) : CallP E 106 [v, .bool x] h (fun r h' => (∃ k, r = int k ∧ (0 ≤ k ↔ ∃ a, a < ms.length ∧ gb ms a = x)) ∧ h' = h) := by
  obtain ⟨r, y, rfl, hat⟩ := id hv
  refine enter106 (by simp) ?_
  conv => whnf
  refine SeqP.go ?_
  conv => whnf
  refine SeqP.cut (α := Unit) (fun _ => []) (fun _ H => H = h ∧ ∀ a, a < ms.length → gb ms a ≠ x) ?_ ?_
  rotate_left
  · rintro _ φ9 _ ⟨rfl, ha⟩
    conv => whnf
    repeat (refine SeqP.go ?_; conv => whnf)
    exact ⟨⟨-1, rfl, ⟨fun e => by omega, fun ⟨a, h1, h2⟩ => absurd h2 (ha a h1)⟩⟩, rfl⟩
  conv => whnf
  repeat (refine SeqP.go ?_; conv => whnf)
  refine loop_inv (α := Nat) (fun k => [(8, int k), (7, int ms.length), (0, slc r 0 ms.length ms.length), (1, .bool x)]) (fun _ => h) (fun k => k ≤ ms.length ∧ ∀ s, s < k → gb ms s ≠ x) (fun k => ms.length - k) 0 ⟨Nat.zero_le _, fun s hs => by omega⟩ ⟨rfl, rfl, rfl, rfl, trivial⟩ (Hp.Le.refl _) ?_
  rintro k φ ⟨hk, hin⟩
  conv => whnf
  repeat (refine SeqP.go ?_; conv => whnf)
  refine cmpB (fun c1 => ?_) (fun c1 => ?_)
  rotate_left
  · conv => whnf
    repeat (refine SeqP.go ?_; conv => whnf)
    exact ⟨(), trivial, ⟨rfl, fun a ha => hin a (by omega)⟩, rfl⟩
  have hkl : k < ms.length := by omega
  have hld : cellAt h r (offAt 0 ((k : Int)).toNat 1) = some (.bool (gb ms k)) := by
    rw [offAt_eq]
    refine cellAt_row hat ?_
    rw [List.getElem?_map, gb_at hkl]
    simp [hkl]
  have hexb : ∃ b, gb ms k = b := ⟨_, rfl⟩
  obtain ⟨b, eb⟩ := hexb
  rw [eb] at hld
  conv => whnf
  repeat (refine SeqP.go ?_; conv => whnf)
  refine ⟨rfl, ⟨by omega, by omega⟩, ?_⟩
  conv => whnf
  refine ⟨_, hld, ?_⟩
  conv => whnf
  refine resP_val (v := .bool (x == b)) (h := h) ?_ ?_
  · show hval _ (aBin E .eql 4 (.tmp 11) (.tmp 15) (.bool x) (.bool b)) = _
    rw [bool_eql]
    rfl
  by_cases e : x = b
  · subst e
    rw [beq_self_eq_true]
    conv => whnf
    repeat (refine SeqP.go ?_; conv => whnf)
    exact ⟨⟨k, rfl, ⟨fun _ => ⟨k, hkl, eb⟩, fun _ => by omega⟩⟩, rfl⟩
  · rw [beq_false_of_ne e]
    conv => whnf
    repeat (refine SeqP.go ?_; conv => whnf)
    refine ⟨((k + 1 : Nat) : Int), wie (by omega) (by omega), ?_⟩
    conv => whnf
    refine Rnd.mk (k + 1) ⟨by show k + 1 ≤ _; omega, fun s hs => ?_⟩ (by show _ - (k + 1) < _ - k; omega) ⟨rfl, rfl, rfl, rfl, trivial⟩ (Hp.Le.refl _) rfl
    by_cases e2 : s = k
    · subst e2; rw [eb]; exact fun e3 => e e3.symm
    · exact hin s (by omega)
theorem hasB_spec (v : Value) (ms : List Bool) (x : Bool) (h : Hp) (hv : BV h v ms) (hl : ms.length ≤ 1000000) : CallP E 91 [v, .bool x] h (fun r h' => (∃ b, r = .bool b ∧ BoolOf b (∃ a, a < ms.length ∧ gb ms a = x)) ∧ h' = h) := by
  obtain ⟨r, y, rfl, hat⟩ := id hv
  refine enter91 (by simp) ?_
  conv => whnf
  repeat (refine SeqP.go ?_; conv => whnf)
  refine CallP.mono (indexB_spec _ ms x _ hv hl) ?_
  rintro r1 H1 ⟨⟨k, rfl, hk⟩, rfl⟩
  conv => whnf
  refine cmpB (fun c1 => ?_) (fun c1 => ?_)
  · conv => whnf
    repeat (refine SeqP.go ?_; conv => whnf)
    exact ⟨⟨true, rfl, bo_yes (hk.1 (by omega))⟩, rfl⟩
  · conv => whnf
    repeat (refine SeqP.go ?_; conv => whnf)
    exact ⟨⟨false, rfl, bo_no fun e => by have := hk.2 e; omega⟩, rfl⟩
theorem settled_spec (v : Value) (p : Prot) (bx : List Value) (on : Int) (n : Nat) (c : List Int) (L B : List (List Int)) (h : Hp) (hv : PV h v p) (hP : POk p) (en : p.n = n) (hx : PR h bx p.rules n c L B) : CallP E 93 [v, .agg ⟨bx⟩, int on] h (fun r h' => (∃ l, Built h h' 3 r l ∧ Up (SetN p.rules p.out on L) L.length l) ∧ Grows h h') := by
  obtain ⟨bp, rfl, hbl, b0, ⟨a1, b1, k1⟩, -⟩ := hv.box
  have hn5 : n ≤ 5 := by have := hP.n5; omega
  obtain ⟨hxl, hxo, ⟨lv, x0, hL⟩, ⟨bv, x1, hB⟩, hbf, hgr, hok, hfew⟩ := id hx
  have hL0 := hgr.pos
  have hLk := id hL
  obtain ⟨al, cl, rfl, -⟩ := hLk
  have hexH : ∃ Hb, Hb = (h.lay (.row 25 true bp)).lay (.row 104 true bx) := ⟨_, rfl⟩
  obtain ⟨Hb, eHb⟩ := hexH
  have g0 : Grows h Hb := by rw [eHb]; exact (Grows.lay _ _).then_lay _
  have a0 : Hb.at h.next = some (.row 25 true bp) := by rw [eHb]; exact Hp.at_lay_old _ (Hp.at_lay_self _ _)
  have hexX : ∃ X, (h.lay (.row 25 true bp)).next = X := ⟨_, rfl⟩
  obtain ⟨X, eX⟩ := hexX
  have a2 : Hb.at X = some (.row 104 true bx) := by rw [eHb, ← eX]; exact Hp.at_lay_self _ _
  refine enter93 (by simp) ?_
  conv => whnf
  refine SeqP.go ?_
  conv => whnf
  refine SeqP.go ?_
  conv => whnf
  refine SeqP.cut (α := Value × List Int × Hp) (fun s => [(7, s.1), (4, ptr X 0), (3, ptr h.next 0), (2, int on)]) (fun s H => s.2.2 = H ∧ Grows Hb s.2.2 ∧ Built Hb s.2.2 3 s.1 s.2.1 ∧ Up (Oth p.out on L) L.length s.2.1) ?_ ?_
  · rw [← eHb]
    conv => whnf
    repeat (refine SeqP.go ?_; conv => whnf)
    refine ⟨_, cellAt_row (at_nx2 eX.symm a2) x0, ?_⟩
    conv => whnf
    refine loop_inv (α := Nat × Value × List Int × Hp) (fun s => [(16, int s.1), (15, int L.length), (14, .slice al L.length cl), (7, s.2.1), (4, ptr X 0), (3, ptr h.next 0), (2, int on)]) (fun s => s.2.2.2) (fun s => s.1 ≤ L.length ∧ Grows Hb s.2.2.2 ∧ Built Hb s.2.2.2 3 s.2.1 s.2.2.1 ∧ Up (Oth p.out on L) s.1 s.2.2.1) (fun s => L.length - s.1) (0, .slice none 0 0, [], Hb) ⟨Nat.zero_le _, .refl _, .inl ⟨rfl, rfl⟩, Up.start _⟩ ⟨rfl, rfl, rfl, rfl, congrArg (fun k => ptr k 0) eX, rfl, rfl, trivial⟩ (Hp.Le.refl _) ?_
    rintro ⟨i, wv, l, H⟩ φ2 ⟨hi, hg, hb, hu⟩
    dsimp only at hi hg hb hu ⊢
    have hcnt := hu.cnt
    have hkk := (LV.of hb).known
    obtain ⟨aw, rfl⟩ := hkk
    conv => whnf
    repeat (refine SeqP.go ?_; conv => whnf)
    refine cmpB (fun c1 => ?_) (fun c1 => ?_)
    rotate_left
    · have : i = L.length := by omega
      subst this
      conv => whnf
      repeat (refine SeqP.go ?_; conv => whnf)
      exact ⟨(_, l, H), ⟨rfl, rfl, rfl, rfl, trivial⟩, ⟨rfl, hg, hb, hu⟩, rfl⟩
    have hil : i < L.length := by omega
    have hcL := hL.ext (g0.trans hg)
    obtain ⟨an', cn', ew, hcL⟩ := hcL
    cases ew
    have hcj := hcL i hil
    clear hcL
    obtain ⟨rn, on', ea, hw1⟩ := hcj
    subst ea
    have hexd : ∃ d, L[i] = d ∧ L[i]? = some d := ⟨_, rfl, List.getElem?_eq_getElem hil⟩
    obtain ⟨d, ed, ed2⟩ := hexd
    rw [ed] at hw1
    have hdo := hok d (List.mem_of_getElem? ed2)
    have hdl := hdo.len
    have hp5 := pad5_len (c := d) (by omega)
    have hoi : Oth p.out on L i ↔ ¬ AllOut p.out on d := ⟨fun ⟨e, h1, h2⟩ => by rw [ed2] at h1; cases h1; exact h2, fun h1 => ⟨d, ed2, h1⟩⟩
    conv => whnf
    repeat (refine SeqP.go ?_; conv => whnf)
    refine ⟨rfl, ⟨by omega, by omega⟩, ?_⟩
    conv => whnf
    refine ⟨(pad5 d).map int, by rw [offAt_eq, Nat.add_comm]; simpa using hw1, ?_⟩
    conv => whnf
    refine ⟨by show ((pad5 d).map int).length = 5; rw [List.length_map, hp5], _, storeAt_all (vs := (pad5 d).map int) (by rw [List.length_map, hp5]; rfl) (ints_one _) (over_int (k := [0, 0, 0, 0, 0]) (by rw [hp5]; rfl)), ?_⟩
    have hg1 := hg.then_lay (.row 107 true ((pad5 d).map int))
    conv => whnf
    repeat (refine SeqP.go ?_; conv => whnf)
    refine ⟨bp, all_cells (hg1.at_ _ _ a0) hbl, ?_⟩
    conv => whnf
    refine ⟨(pad5 d).map int, all_cells (Hp.at_lay_self _ _) (by rw [List.length_map, hp5]), ?_⟩
    conv => whnf
    refine CallP.mono (isAll_spec _ p d on n _ (hv.ext (g0.trans hg1)) hP en hdl) ?_
    rintro r2 H2 ⟨⟨b, rfl, hb2⟩, g2⟩
    have hbb := hb.ext ((Grows.lay H (.row 107 true ((pad5 d).map int))).trans g2)
    cases b with
    | true =>
      conv => whnf
      repeat (refine SeqP.go ?_; conv => whnf)
      refine ⟨((i + 1 : Nat) : Int), wie (by omega) (by omega), ?_⟩
      conv => whnf
      exact Rnd.mk (i + 1, _, l, H2) ⟨by show i + 1 ≤ _; omega, hg1.trans g2, hbb, hu.skip fun k => hoi.1 k hb2.t⟩ (by show _ - (i + 1) < _ - i; omega) ⟨rfl, rfl, rfl, rfl, rfl, rfl, rfl, trivial⟩ (Hp.Le.refl _) rfl
    | false =>
      conv => whnf
      repeat (refine SeqP.go ?_; conv => whnf)
      refine AppP.ints (hbb.ext (Grows.lay _ _)) ((hg1.trans g2).then_lay _) Elems.lay1 (by simp; omega) ?_
      intro v4 H4 hv4 hg4 _
      conv => whnf
      repeat (refine SeqP.go ?_; conv => whnf)
      refine ⟨((i + 1 : Nat) : Int), wie (by omega) (by omega), ?_⟩
      conv => whnf
      exact Rnd.mk (i + 1, v4, l ++ [(i : Int)], H4) ⟨by show i + 1 ≤ _; omega, hg4, hv4, hu.add (hoi.2 hb2.f)⟩ (by show _ - (i + 1) < _ - i; omega) ⟨rfl, rfl, rfl, rfl, rfl, rfl, rfl, trivial⟩ (Hp.Le.refl _) rfl
  rintro ⟨ov, ol, H1⟩ φ1 _ ⟨rfl, hg1, hob, hou⟩
  dsimp only at hg1 hob hou ⊢
  have hkk := (LV.of hob).known
  obtain ⟨ao, rfl⟩ := hkk
  have a21 := hg1.at_ _ _ a2
  have g01 := g0.trans hg1
  conv => whnf
  refine SeqP.go ?_
  conv => whnf
  refine SeqP.cut (α := Value × List Int × Hp) (fun s => [(10, s.1)]) (fun s H => s.2.2 = H ∧ Grows h s.2.2 ∧ Built h s.2.2 3 s.1 s.2.1 ∧ Up (SetN p.rules p.out on L) L.length s.2.1) ?_ ?_
  rotate_left
  · rintro ⟨wv, l, H⟩ φ9 _ ⟨rfl, h1, h2, h3⟩
    dsimp only at h1 h2 h3 ⊢
    have hkk := (LV.of h2).known
    obtain ⟨a9, rfl⟩ := hkk
    conv => whnf
    repeat (refine SeqP.go ?_; conv => whnf)
    exact ⟨⟨l, h2, h3⟩, h1⟩
  conv => whnf
  repeat (refine SeqP.go ?_; conv => whnf)
  refine ⟨bx, all_cells a21 hxl, ?_⟩
  conv => whnf
  refine CallP.mono (lead_spec bx _ bv _ p.rules L B ol _ hxl hxo x0 x1 ⟨_, _, rfl⟩ (hB.ext g01) hbf (LV.of hob) hou.nums hL0 hfew) ?_
  rintro r2 H2 ⟨⟨ms, hbm, hml, hms⟩, g2⟩
  obtain ⟨rm, xm, rfl, hmat⟩ := id hbm
  have hmo : ∀ a, a < L.length → (gb ms a = false ↔ SetN p.rules p.out on L a) := fun a ha => by
    have e1 : (fun t : Nat => (t : Int) ∈ ol) = Oth p.out on L := funext fun t => propext ⟨fun k => ((hou.mem t).1 k).2, fun k => (hou.mem t).2 ⟨by
      obtain ⟨d, e, _⟩ := k
      exact (List.getElem?_eq_some_iff.1 e).1, k⟩⟩
    have e2 := hms a
    rw [e1] at e2
    unfold SetN
    cases e3 : gb ms a with
    | true => exact ⟨fun e => (by cases e), fun e => absurd (e2.1 e3) e.2⟩
    | false => exact ⟨fun _ => ⟨ha, fun k => by rw [e2.2 k] at e3; cases e3⟩, fun _ => rfl⟩
  have g02 := g01.trans g2
  conv => whnf
  refine loop_inv (α := Nat × Value × List Int × Hp) (fun s => [(35, int s.1), (34, int L.length), (33, slc rm 0 ms.length ms.length), (10, s.2.1)]) (fun s => s.2.2.2) (fun s => s.1 ≤ L.length ∧ Grows H2 s.2.2.2 ∧ Built H2 s.2.2.2 3 s.2.1 s.2.2.1 ∧ Up (SetN p.rules p.out on L) s.1 s.2.2.1) (fun s => L.length - s.1) (0, .slice none 0 0, [], H2) ⟨Nat.zero_le _, .refl _, .inl ⟨rfl, rfl⟩, Up.start _⟩ ⟨rfl, by rw [← hml]; rfl, rfl, rfl, trivial⟩ (Hp.Le.refl _) ?_
  rintro ⟨i, wv, l, H⟩ φ2 ⟨hi, hg, hb, hu⟩
  dsimp only at hi hg hb hu ⊢
  have hcnt := hu.cnt
  have hkk := (LV.of hb).known
  obtain ⟨aw, rfl⟩ := hkk
  conv => whnf
  repeat (refine SeqP.go ?_; conv => whnf)
  refine cmpB (fun c1 => ?_) (fun c1 => ?_)
  rotate_left
  · have : i = L.length := by omega
    subst this
    conv => whnf
    repeat (refine SeqP.go ?_; conv => whnf)
    exact ⟨(_, l, H), ⟨rfl, trivial⟩, ⟨rfl, g02.trans hg, hb.back g02.next, hu⟩, rfl⟩
  have hil : i < L.length := by omega
  have hld : cellAt H rm (offAt 0 ((i : Int)).toNat 1) = some (.bool (gb ms i)) := by
    rw [offAt_eq]
    refine cellAt_row (hg.at_ _ _ hmat) ?_
    rw [List.getElem?_map, gb_at (by omega)]
    simp [hml, hil]
  have hexb : ∃ b, gb ms i = b := ⟨_, rfl⟩
  obtain ⟨b, eb⟩ := hexb
  rw [eb] at hld
  have hmi := hmo i hil
  rw [eb] at hmi
  conv => whnf
  repeat (refine SeqP.go ?_; conv => whnf)
  refine ⟨rfl, ⟨by omega, by omega⟩, ?_⟩
  conv => whnf
  refine ⟨_, hld, ?_⟩
  conv => whnf
  cases b with
  | true =>
    conv => whnf
    repeat (refine SeqP.go ?_; conv => whnf)
    refine ⟨((i + 1 : Nat) : Int), wie (by omega) (by omega), ?_⟩
    conv => whnf
    exact Rnd.mk (i + 1, _, l, H) ⟨by show i + 1 ≤ _; omega, hg, hb, hu.skip fun k => by have := hmi.2 k; cases this⟩ (by show _ - (i + 1) < _ - i; omega) ⟨rfl, rfl, rfl, rfl, trivial⟩ (Hp.Le.refl _) rfl
  | false =>
    conv => whnf
    repeat (refine SeqP.go ?_; conv => whnf)
    refine AppP.ints (hb.ext (Grows.lay _ _)) (hg.then_lay _) Elems.lay1 (by simp; omega) ?_
    intro v4 H4 hv4 hg4 _
    conv => whnf
    repeat (refine SeqP.go ?_; conv => whnf)
    refine ⟨((i + 1 : Nat) : Int), wie (by omega) (by omega), ?_⟩
    conv => whnf
    exact Rnd.mk (i + 1, v4, l ++ [(i : Int)], H4) ⟨by show i + 1 ≤ _; omega, hg4, hv4, hu.add (hmi.1 rfl)⟩ (by show _ - (i + 1) < _ - i; omega) ⟨rfl, rfl, rfl, rfl, trivial⟩ (Hp.Le.refl _) rfl
end
end Go.Proofs.Ytpiplaicnbapbaa
namespace Go.Proofs.Ytpiplaicnbapbaa
open Go.Rx Go.RowKit
attribute [local irreducible] E idxN cellAt cellsAt storeAt callable helems hmoved lookIn findKey keyOk hentries Hp.at Hp.set Hp.lay arBits hupdated setAt CallP YieldP BoolOf IsWrap Rnd LoopP AppP CutP Int.tmod Int.tdiv Int.fdiv
section
variable [Unknowns]
attribute [local irreducible] ResP sameAt
theorem sameV_slice3 (a : Option Addr) (n m : Nat) : sameV 3 (.slice a n m) (.slice a n m) = true := sameV_slice a n m
theorem decidesAs_spec (v : Value) (p : Prot) (bx : List Value) (on : Int) (n : Nat) (c : List Int) (L B : List (List Int)) (h : Hp) (hv : PV h v p) (hP : POk p) (en : p.n = n) (hx : PR h bx p.rules n c L B) : CallP E 65 [v, .agg ⟨bx⟩, int on] h (fun r h' => (∃ b, r = .bool b ∧ BoolOf b (DeciC p.rules p.out on c)) ∧ Grows h h') := by
  obtain ⟨bp, rfl, hbl, -⟩ := hv.box
  have hxl := hx.len
  have hfew := hx.few
  have hL0 := hx.gr.pos
  obtain ⟨-, hxo, ⟨lv, x0, hL⟩, ⟨bv, x1, hB⟩, hbf, hgr, hok, -⟩ := id hx
  have hLk := id hL
  obtain ⟨al, cl, rfl, -⟩ := hLk
  have hBk := id hB
  obtain ⟨ab, cb, rfl, -⟩ := hBk
  have hsame : sameV 4 (.agg ⟨bx⟩) (.agg ⟨bx⟩) = true := by
    match bx, hxl, x0, x1 with
    | [u, w], _, x0, x1 =>
      cases x0
      cases x1
      show (Nat.beq 2 2 && (sameV 3 (.slice al L.length cl) (.slice al L.length cl) && (sameV 3 (.slice ab B.length cb) (.slice ab B.length cb) && true))) = true
      rw [sameV_slice3, sameV_slice3]
      rfl
  have g0 : Grows h ((h.lay (.row 25 true bp)).lay (.row 104 true bx)) := (Grows.lay _ _).then_lay _
  have a0 : ((h.lay (.row 25 true bp)).lay (.row 104 true bx)).at h.next = some (.row 25 true bp) := Hp.at_lay_old _ (Hp.at_lay_self _ _)
  have a2 : ((h.lay (.row 25 true bp)).lay (.row 104 true bx)).at (h.lay (.row 25 true bp)).next = some (.row 104 true bx) := Hp.at_lay_self _ _
  have ld : ∀ H, Grows ((h.lay (.row 25 true bp)).lay (.row 104 true bx)) H → hval H (aggOf (cellsAt H (h.lay (.row 25 true bp)).next 0 2)) = .val (.agg ⟨bx⟩) H := fun H g => by
    rw [all_cells (g.at_ _ _ a2) hxl]
    rfl
  refine enter65 (by simp) ?_
  conv => whnf
  repeat (refine SeqP.go ?_; conv => whnf)
  refine ⟨bx, all_cells a2 hxl, ?_⟩
  conv => whnf
  refine ⟨bp, all_cells a0 hbl, ?_⟩
  conv => whnf
  refine ⟨bx, all_cells a2 hxl, ?_⟩
  conv => whnf
  refine CallP.mono (settled_spec _ p bx on n c L B _ (hv.ext g0) hP en (hx.ext g0)) ?_
  rintro r1 H1 ⟨⟨l, hb, hu⟩, g1⟩
  have hcnt := hu.cnt
  have g01 := g0.trans g1
  have hlk := (LV.of hb).known
  obtain ⟨a1, rfl⟩ := hlk
  conv => whnf
  refine CallP.mono (lead_spec bx _ _ _ p.rules L B l _ hxl hxo x0 x1 ⟨_, _, rfl⟩ (hB.ext g01) hbf (LV.of hb) hu.nums hL0 hfew) ?_
  rintro r2 H2 ⟨⟨ms, hbm, hml, hms⟩, g2⟩
  conv => whnf
  refine CallP.mono (hasB_spec _ ms false _ hbm (by omega)) ?_
  rintro r3 H3 ⟨⟨b, rfl, hb3⟩, rfl⟩
  have g12 := g1.trans g2
  conv => whnf
  refine ⟨?_, ?_⟩
  · repeat' (first | exact True.intro | (refine And.intro ?_ ?_ <;> (conv => whnf)))
    all_goals first
      | exact sameAt_val (h2 := _) (ld _ (Grows.refl _)) hsame
      | exact sameAt_val (h2 := _) (ld _ g1) hsame
      | exact sameAt_val (h2 := _) (ld _ g12) hsame
      | trace_state
  have hdec : ¬ (∃ a, a < ms.length ∧ gb ms a = false) ↔ DeciC p.rules p.out on c := by
    rw [← hgr.decides (out := p.out) (on := on)]
    have e1 : (fun t : Nat => (t : Int) ∈ l) = SetN p.rules p.out on L := funext fun t => propext ⟨fun k => ((hu.mem t).1 k).2, fun k => (hu.mem t).2 ⟨k.1, k⟩⟩
    rw [e1] at hms
    constructor
    · intro k a ha
      refine (hms a).1 ?_
      cases e : gb ms a with
      | true => rfl
      | false => exact absurd ⟨a, by omega, e⟩ k
    · rintro k ⟨a, ha, e⟩
      have := (hms a).2 (k a (by omega))
      rw [this] at e
      cases e
  cases b with
  | true =>
    conv => whnf
    repeat (refine SeqP.go ?_; conv => whnf)
    exact ⟨⟨false, rfl, bo_no fun k => hdec.2 k hb3.t⟩, g0.trans g12⟩
  | false =>
    conv => whnf
    repeat (refine SeqP.go ?_; conv => whnf)
    exact ⟨⟨true, rfl, bo_yes (hdec.1 hb3.f)⟩, g0.trans g12⟩
end
end Go.Proofs.Ytpiplaicnbapbaa
namespace Go.Proofs.Ytpiplaicnbapbaa
open Go.Rx Go.RowKit
def FirstOf (P : Int → Prop) (s : Int) (b : Bool) : Prop := (P 0 → s = 0 ∧ b = true) ∧ (¬ P 0 → P 1 → s = 1 ∧ b = true) ∧ (¬ P 0 → ¬ P 1 → s = 0 ∧ b = false)
end Go.Proofs.Ytpiplaicnbapbaa
namespace Go.Proofs.Ytpiplaicnbapbaa
open Go.Rx Go.RowKit
attribute [local irreducible] E idxN cellAt cellsAt storeAt callable helems hmoved lookIn findKey keyOk hentries Hp.at Hp.set Hp.lay arBits hupdated setAt CallP YieldP BoolOf IsWrap Rnd LoopP AppP CutP Int.tmod Int.tdiv Int.fdiv
section
variable [Unknowns]
attribute [local irreducible] ResP sameAt
theorem CR.stored {h : Hp} {bx : List Value} {R : List Q4} {n : Nat} {c : List Int} {L N : List (List Int)} (k : CR h bx R n c L N) : ∃ a0 n0 c0 a1 n1 c1 a2 n2 c2, bx = [.slice a0 n0 c0, .slice a1 n1 c1, .slice a2 n2 c2] := by
  obtain ⟨hl, -, ⟨v, x0, hL⟩, ⟨w, x2, hN⟩, -, -, -, -, ⟨u, S, x1, hS, -⟩⟩ := k
  obtain ⟨a0, c0, rfl, -⟩ := hL
  obtain ⟨a2, c2, rfl, -⟩ := hN
  obtain ⟨a1, c1, rfl⟩ := hS.known
  match bx, hl, x0, x1, x2 with
  | [_, _, _], _, x0, x1, x2 =>
    cases x0
    cases x1
    cases x2
    exact ⟨_, _, _, _, _, _, _, _, _, rfl⟩
end
end Go.Proofs.Ytpiplaicnbapbaa
namespace Go.Proofs.Ytpiplaicnbapbaa
open Go.Rx Go.RowKit
attribute [local irreducible] E idxN cellAt cellsAt storeAt callable helems hmoved lookIn findKey keyOk hentries Hp.at Hp.set Hp.lay arBits hupdated setAt CallP YieldP BoolOf IsWrap Rnd LoopP AppP CutP Int.tmod Int.tdiv Int.fdiv
section
variable [Unknowns]
attribute [local irreducible] ResP sameAt
theorem CR.same {h : Hp} {bx : List Value} {R : List Q4} {n : Nat} {c : List Int} {L N : List (List Int)} (k : CR h bx R n c L N) : sameV 4 (.agg ⟨bx⟩) (.agg ⟨bx⟩) = true := by
  obtain ⟨u0, m0, k0, u1, m1, k1, u2, m2, k2, ebx⟩ := k.stored
  subst ebx
  show (Nat.beq 3 3 && (sameV 3 (.slice u0 m0 k0) (.slice u0 m0 k0) && (sameV 3 (.slice u1 m1 k1) (.slice u1 m1 k1) && (sameV 3 (.slice u2 m2 k2) (.slice u2 m2 k2) && true)))) = true
  rw [sameV_slice3, sameV_slice3, sameV_slice3]
  rfl
end
end Go.Proofs.Ytpiplaicnbapbaa
namespace Go.Proofs.Ytpiplaicnbapbaa
open Go.Rx Go.RowKit
def PReachedOk [Unknowns] : Prop := ∀ (v : Value) (p : Prot) (n : Nat) (c : List Int) (h : Hp), PV h v p → POk p → p.n = n → CrOk n c → CallP E 66 [v, cv (pad5 c)] h (fun r h' => (∃ bx L B, r = .agg ⟨bx⟩ ∧ PR h' bx p.rules n c L B) ∧ Grows h h')
theorem PV.stored {h : Hp} {bp : List Value} {p : Prot} (k : PV h (.agg ⟨bp⟩) p) : ∃ a1 n1 c1 a2 n2 c2 a3 n3 c3, bp = [int p.n, .slice a1 n1 c1, .slice a2 n2 c2, .slice a3 n3 c3] := by
  obtain ⟨vo, vs, vr, e, h1, h2, h3⟩ := k
  obtain ⟨a1, rfl⟩ := h1.known
  obtain ⟨a2, rfl⟩ := h2.known
  obtain ⟨a3, rfl, -⟩ := h3.slice
  cases e
  exact ⟨_, _, _, _, _, _, _, _, _, rfl⟩
theorem sameV_int3' (n : Int) : sameV 3 (int n) (int n) = true := sameV_int n
theorem sameV_slice3' (a : Option Addr) (n m : Nat) : sameV 3 (.slice a n m) (.slice a n m) = true := sameV_slice a n m
theorem PV.same {h : Hp} {bp : List Value} {p : Prot} (k : PV h (.agg ⟨bp⟩) p) : sameV 4 (.agg ⟨bp⟩) (.agg ⟨bp⟩) = true := by
  obtain ⟨a1, n1, c1, a2, n2, c2, a3, n3, c3, e⟩ := k.stored
  subst e
  show (Nat.beq 4 4 && (sameV 3 (int p.n) (int p.n) && (sameV 3 (.slice a1 n1 c1) (.slice a1 n1 c1) && (sameV 3 (.slice a2 n2 c2) (.slice a2 n2 c2) && (sameV 3 (.slice a3 n3 c3) (.slice a3 n3 c3) && true))))) = true
  rw [sameV_int3', sameV_slice3', sameV_slice3', sameV_slice3']
  rfl
end Go.Proofs.Ytpiplaicnbapbaa
namespace Go.Proofs.Ytpiplaicnbapbaa
open Go.Rx Go.RowKit
def posN (R : List Q4) (c5 : List Int) : Nat → List Int
  | 0 => []
  | i + 1 => posN R c5 i ++ (if h : i < R.length then (if Allowed c5 R[i] then [(i : Int)] else []) else [])
theorem posN_skip {R : List Q4} {c5 : List Int} {i : Nat} (h : i < R.length) (k : ¬ Allowed c5 R[i]) : posN R c5 (i + 1) = posN R c5 i := by
  unfold posN
  rw [dif_pos h, if_neg k, List.append_nil]
  cases i <;> rfl
theorem posN_add {R : List Q4} {c5 : List Int} {i : Nat} (h : i < R.length) (k : Allowed c5 R[i]) : posN R c5 (i + 1) = posN R c5 i ++ [(i : Int)] := by
  show posN R c5 i ++ _ = _
  rw [dif_pos h, if_pos k]
theorem posN_len (R : List Q4) (c5 : List Int) : ∀ i, (posN R c5 i).length ≤ i
  | 0 => Nat.le_refl _
  | i + 1 => by
    have := posN_len R c5 i
    show (posN R c5 i ++ _).length ≤ _
    rw [List.length_append]
    split
    · split <;> simp <;> omega
    · simp; omega
theorem posN_mem (R : List Q4) (c5 : List Int) : ∀ i (x : Int), x ∈ posN R c5 i ↔ ∃ k : Nat, x = k ∧ k < i ∧ ∃ hk : k < R.length, Allowed c5 R[k]
  | 0, x => ⟨fun h => (by simp [posN] at h), fun ⟨k, _, h, _⟩ => absurd h (Nat.not_lt_zero _)⟩
  | i + 1, x => by
    show x ∈ posN R c5 i ++ _ ↔ _
    rw [List.mem_append, posN_mem R c5 i x]
    constructor
    · rintro (⟨k, h1, h2, h3⟩ | h)
      · exact ⟨k, h1, by omega, h3⟩
      · split at h
        · rename_i h4
          split at h
          · rename_i h5
            exact ⟨i, List.mem_singleton.1 h, by omega, h4, h5⟩
          · simp at h
        · simp at h
    · rintro ⟨k, h1, h2, h3, h4⟩
      by_cases e : k = i
      · subst e
        refine .inr ?_
        rw [dif_pos h3, if_pos h4, h1]
        simp
      · exact .inl ⟨k, h1, by omega, h3, h4⟩
attribute [local irreducible] E idxN cellAt cellsAt storeAt callable helems hmoved lookIn findKey keyOk hentries Hp.at Hp.set Hp.lay arBits hupdated setAt CallP YieldP BoolOf IsWrap Rnd LoopP AppP CutP Int.tmod Int.tdiv Int.fdiv
section
variable [Unknowns]
attribute [local irreducible] ResP sameAt
theorem possible_spec (v : Value) (R : List Q4) (c5 : List Int) (h : Hp) (hv : RV h v R) (hrl : R.length ≤ 15) (hc : c5.length = 5) (hR : ∀ k, (hk : k < R.length) → QIn 5 R[k]) : CallP E 109 [v, .func (.func 74) ⟨[cv c5]⟩ ⟨[]⟩] h (fun r h' => (∃ l, Built h h' 3 r l ∧ l = posN R c5 R.length) ∧ Grows h h') := by
  have hcells := hv.cells
  obtain ⟨a, rfl, hcells⟩ := hcells
  unfold cv
  refine enter109 (by simp) ?_
  conv => whnf
  refine SeqP.go ?_
  conv => whnf
  refine SeqP.go ?_
  conv => whnf
  refine SeqP.cut (α := Value × List Int × Hp) (fun s => [(5, s.1)]) (fun s H => s.2.2 = H ∧ Grows h s.2.2 ∧ Built h s.2.2 3 s.1 s.2.1 ∧ s.2.1 = posN R c5 R.length) ?_ ?_
  rotate_left
  · rintro ⟨wv, l, H⟩ φ9 _ ⟨rfl, h1, h2, h3⟩
    dsimp only at h1 h2 h3 ⊢
    have hkk := (LV.of h2).known
    obtain ⟨a9, rfl⟩ := hkk
    conv => whnf
    repeat (refine SeqP.go ?_; conv => whnf)
    exact ⟨⟨l, h2, h3⟩, h1⟩
  conv => whnf
  repeat (refine SeqP.go ?_; conv => whnf)
  refine loop_inv (α := Nat × Value × List Int × Hp) (fun s => [(10, int s.1), (9, int R.length), (8, .slice a R.length R.length), (5, s.2.1), (1, .func (.func 74) ⟨[.agg ⟨c5.map int⟩]⟩ ⟨[]⟩)]) (fun s => s.2.2.2) (fun s => s.1 ≤ R.length ∧ Grows h s.2.2.2 ∧ Built h s.2.2.2 3 s.2.1 s.2.2.1 ∧ s.2.2.1 = posN R c5 s.1) (fun s => R.length - s.1) (0, .slice none 0 0, [], h) ⟨Nat.zero_le _, .refl _, .inl ⟨rfl, rfl⟩, rfl⟩ ⟨rfl, rfl, rfl, rfl, rfl, trivial⟩ (Hp.Le.refl _) ?_
  rintro ⟨i, wv, l, H⟩ φ2 ⟨hi, hg, hb, hu⟩
  dsimp only at hi hg hb hu ⊢
  have hcnt : l.length ≤ i := by rw [hu]; exact posN_len R c5 i
  have hkk := (LV.of hb).known
  obtain ⟨aw, rfl⟩ := hkk
  conv => whnf
  repeat (refine SeqP.go ?_; conv => whnf)
  refine cmpB (fun c1 => ?_) (fun c1 => ?_)
  rotate_left
  · have : i = R.length := by omega
    subst this
    conv => whnf
    repeat (refine SeqP.go ?_; conv => whnf)
    exact ⟨(_, l, H), ⟨rfl, trivial⟩, ⟨rfl, hg, hb, hu⟩, rfl⟩
  have hil : i < R.length := by omega
  have hkg := hcells i hil
  obtain ⟨rr, ear, hkc⟩ := hkg
  subst ear
  have hkc := hg.cells hkc
  have hqi := hR i hil
  have hexq : ∃ q, R[i] = q := ⟨_, rfl⟩
  obtain ⟨q, eq⟩ := hexq
  rw [eq] at hkc hqi
  have hPi : (∃ hk : i < R.length, Allowed c5 R[i]) ↔ Allowed c5 q := by
    constructor
    · rintro ⟨hk, k⟩
      rw [← eq]
      exact k
    · intro k
      exact ⟨hil, by rw [eq]; exact k⟩
  conv => whnf
  repeat (refine SeqP.go ?_; conv => whnf)
  refine ⟨rfl, ⟨by omega, by omega⟩, ?_⟩
  conv => whnf
  refine ⟨[int q.a, int q.b, int q.c, int q.d], by rw [offAt_eq]; simpa using hkc, ?_⟩
  conv => whnf
  refine ⟨rfl, _, storeAt_all (vs := [int q.a, int q.b, int q.c, int q.d]) rfl rfl rfl, ?_⟩
  have hg1 := hg.then_lay (.row 96 true [int q.a, int q.b, int q.c, int q.d])
  conv => whnf
  repeat (refine SeqP.go ?_; conv => whnf)
  refine ⟨[int q.a, int q.b, int q.c, int q.d], all_cells (Hp.at_lay_self _ _) rfl, ?_⟩
  conv => whnf
  refine ⟨can74, ?_⟩
  refine CallP.mono (allows_spec c5 q _ hc hqi) ?_
  rintro r2 H2 ⟨⟨b, rfl, hb2⟩, g2⟩
  have hbb := hb.ext ((Grows.lay H (.row 96 true [int q.a, int q.b, int q.c, int q.d])).trans g2)
  cases b with
  | false =>
    conv => whnf
    repeat (refine SeqP.go ?_; conv => whnf)
    refine ⟨((i + 1 : Nat) : Int), wie (by omega) (by omega), ?_⟩
    conv => whnf
    exact Rnd.mk (i + 1, _, l, H2) ⟨by show i + 1 ≤ _; omega, hg1.trans g2, hbb, by show l = posN R c5 (i + 1); rw [posN_skip hil (fun k => hb2.f (by rw [← eq]; exact k))]; exact hu⟩ (by show _ - (i + 1) < _ - i; omega) ⟨rfl, rfl, rfl, rfl, rfl, trivial⟩ (Hp.Le.refl _) rfl
  | true =>
    conv => whnf
    repeat (refine SeqP.go ?_; conv => whnf)
    refine AppP.ints (hbb.ext (Grows.lay _ _)) ((hg1.trans g2).then_lay _) Elems.lay1 (by simp; omega) ?_
    intro v4 H4 hv4 hg4 _
    conv => whnf
    repeat (refine SeqP.go ?_; conv => whnf)
    refine ⟨((i + 1 : Nat) : Int), wie (by omega) (by omega), ?_⟩
    conv => whnf
    exact Rnd.mk (i + 1, v4, l ++ [(i : Int)], H4) ⟨by show i + 1 ≤ _; omega, hg4, hv4, by show l ++ [(i : Int)] = posN R c5 (i + 1); rw [posN_add hil (by rw [eq]; exact hb2.t), hu]⟩ (by show _ - (i + 1) < _ - i; omega) ⟨rfl, rfl, rfl, rfl, rfl, trivial⟩ (Hp.Le.refl _) rfl
end
end Go.Proofs.Ytpiplaicnbapbaa
namespace Go.Proofs.Ytpiplaicnbapbaa
open Go.Rx Go.RowKit
structure K5 where
  a : Int
  b : Int
  c : Int
  d : Int
  e : Int
  deriving DecidableEq
def enc5 (k : K5) : Value := .agg ⟨[int k.a, int k.b, int k.c, int k.d, int k.e]⟩
theorem key5_ok (k : K5) : keyOk E 107 (enc5 k) = true := by
  kernel_rfl
theorem key5_bits (k : K5) : Instr.sameBits 10000 (enc5 k) (enc5 k) = true := by
  obtain ⟨a, b, c, d, e⟩ := k
  unfold enc5
  simp [Instr.sameBits]
end Go.Proofs.Ytpiplaicnbapbaa
namespace Go.Proofs.Ytpiplaicnbapbaa
open Go.Rx Go.RowKit
theorem key5_eq (k k' : K5) : keyEq Try.prog 107 (enc5 k) (enc5 k') = some (decide (k = k')) := by
  obtain ⟨a, b, c, d, e⟩ := k
  obtain ⟨a', b', c', d', e'⟩ := k'
  have e1 : decide ((⟨a, b, c, d, e⟩ : K5) = ⟨a', b', c', d', e'⟩) = (decide (a = a') && decide (b = b') && decide (c = c') && decide (d = d') && decide (e = e')) := by
    rw [Bool.eq_iff_iff]
    simp [and_assoc]
  rw [e1]
  unfold enc5
  have st : ∀ (k : Program → Sem Bool), pureRun Try.prog (.program k) = pureRun Try.prog (k Try.prog) := fun k => rfl
  show _ = some ((a == a') && (b == b') && (c == c') && (d == d') && (e == e'))
  conv => lhs; whnf
  conv => lhs; arg 2; whnf
  conv => lhs; arg 2; arg 1; rw [Std.Legacy.Range.forIn_eq_forIn_range']
  conv => lhs; arg 2; whnf
  repeat (rw [st]; conv => lhs; arg 2; whnf)
  conv => lhs; arg 2; arg 1; whnf
  conv => lhs; arg 2; arg 1; arg 1; whnf
  dsimp only
  cases h1 : (a == a')
  · rfl
  conv => lhs; arg 2; whnf
  repeat (rw [st]; conv => lhs; arg 2; whnf)
  conv => lhs; arg 2; arg 1; whnf
  conv => lhs; arg 2; arg 1; arg 1; whnf
  dsimp only
  cases h2 : (b == b')
  · rfl
  conv => lhs; arg 2; whnf
  repeat (rw [st]; conv => lhs; arg 2; whnf)
  conv => lhs; arg 2; arg 1; whnf
  conv => lhs; arg 2; arg 1; arg 1; whnf
  dsimp only
  cases h3 : (c == c')
  · rfl
  conv => lhs; arg 2; whnf
  repeat (rw [st]; conv => lhs; arg 2; whnf)
  conv => lhs; arg 2; arg 1; whnf
  conv => lhs; arg 2; arg 1; arg 1; whnf
  dsimp only
  cases h4 : (d == d')
  · rfl
  conv => lhs; arg 2; whnf
  repeat (rw [st]; conv => lhs; arg 2; whnf)
  conv => lhs; arg 2; arg 1; whnf
  conv => lhs; arg 2; arg 1; arg 1; whnf
  dsimp only
  cases h5 : (e == e')
  · rfl
  · rfl
theorem key107 : KeyTy E 107 enc5 where
  ok := key5_ok
  eq := key5_eq
  bits := key5_bits
def k5 (l : List Int) : K5 := ⟨gl l 0, gl l 1, gl l 2, gl l 3, gl l 4⟩
theorem enc_k5 {l : List Int} (h : l.length = 5) : enc5 (k5 l) = .agg ⟨l.map int⟩ := by
  match l, h with
  | [a, b, c, d, e], _ => rfl
theorem k5_pad {n : Nat} {c d : List Int} (hc : CrOk n c) (hd : CrOk n d) (hn : n ≤ 5) (e : k5 (pad5 c) = k5 (pad5 d)) : c = d := by
  have h1 := hc.len
  have h2 := hd.len
  unfold k5 at e
  simp only [gl_pad, K5.mk.injEq] at e
  obtain ⟨e0, e1, e2, e3, e4⟩ := e
  apply List.ext_getElem (by omega)
  intro i hi hj
  rw [← gl_at hi, ← gl_at hj]
  have : i = 0 ∨ i = 1 ∨ i = 2 ∨ i = 3 ∨ i = 4 := by omega
  rcases this with x | x | x | x | x <;> subst x <;> assumption
end Go.Proofs.Ytpiplaicnbapbaa
namespace Go.Proofs.Ytpiplaicnbapbaa
open Go.Rx Go.RowKit
theorem ty137 : ∃ i, E.ty 137 = some i ∧ i.desc = .map 107 3 := by
  have hs : (tiOf Try.prog 137).isSome = true := by kernel_rfl
  refine ⟨(tiOf Try.prog 137).get hs, ty_get (by kernel_rfl) (Option.some_get hs).symm, ?_⟩
  kernel_rfl
theorem ty3 : ∃ i, E.ty 3 = some i ∧ isI64 i.desc = true ∧ i.zero = some (int 0) := by
  have hs : (tiOf Try.prog 3).isSome = true := by kernel_rfl
  refine ⟨(tiOf Try.prog 3).get hs, ty_get (by kernel_rfl) (Option.some_get hs).symm, ?_, ?_⟩
  · kernel_rfl
  · kernel_rfl
abbrev encI : Int → Value := fun n : Int => int n
def IxOf {κ : Type} (key : List Int → κ) (L : List (List Int)) (f : κ → Option Value) : Prop := (∀ i, (hi : i < L.length) → f (key L[i]) = some (int i)) ∧ ∀ k v, f k = some v → ∃ i, ∃ hi : i < L.length, k = key L[i] ∧ v = int i
theorem IxOf.add {κ : Type} [DecidableEq κ] {key : List Int → κ} {L : List (List Int)} {f : κ → Option Value} (h : IxOf key L f) {c : List Int} (hn : f (key c) = none) : IxOf key (L ++ [c]) (fun k' => if k' = key c then some (int L.length) else f k') := by
  refine ⟨fun i hi => ?_, fun k v hk => ?_⟩
  · rw [List.length_append, List.length_singleton] at hi
    by_cases e : i < L.length
    · rw [List.getElem_append_left e]
      dsimp only
      rw [if_neg (fun e2 => by rw [← e2, h.1 i e] at hn; cases hn)]
      exact h.1 i e
    · have e2 : i = L.length := by omega
      subst e2
      simp
  · dsimp only at hk
    by_cases e : k = key c
    · rw [if_pos e] at hk
      cases hk
      exact ⟨L.length, by simp, by simp [e], rfl⟩
    · rw [if_neg e] at hk
      obtain ⟨i, hi, h1, h2⟩ := h.2 k v hk
      exact ⟨i, by rw [List.length_append]; omega, by rw [List.getElem_append_left hi]; exact h1, h2⟩
theorem IxOf.none_iff {κ : Type} {key : List Int → κ} {L : List (List Int)} {f : κ → Option Value} (h : IxOf key L f) {c : List Int} (inj : ∀ d ∈ L, key d = key c → d = c) (hn : f (key c) = none) : c ∉ L := by
  intro hm
  obtain ⟨i, hi, e⟩ := List.getElem_of_mem hm
  have := h.1 i hi
  rw [e, hn] at this
  cases this
theorem IxOf.some_iff {κ : Type} {key : List Int → κ} {L : List (List Int)} {f : κ → Option Value} (h : IxOf key L f) {c : List Int} (inj : ∀ d ∈ L, key d = key c → d = c) {v : Value} (hs : f (key c) = some v) : ∃ i, ∃ hi : i < L.length, L[i] = c ∧ v = int i := by
  obtain ⟨i, hi, h1, h2⟩ := h.2 _ v hs
  exact ⟨i, hi, inj _ (List.getElem_mem _) h1.symm, h2⟩
end Go.Proofs.Ytpiplaicnbapbaa
namespace Go.Proofs.Ytpiplaicnbapbaa
open Go.Rx Go.RowKit
theorem SettC.step {R : List Q4} {out : List Int} {on : Int} {c d : List Int} (h : SettC R out on c) (k : Rs R c d) : SettC R out on d := fun e he => h e (k.trans he)
theorem DeciC.step {R : List Q4} {out : List Int} {on : Int} {c d : List Int} (h : DeciC R out on c) (k : Rs R c d) : DeciC R out on d := fun e he => h e (k.trans he)
theorem some_in {n : Nat} {c : List Int} (h : CrOk n c) : ∃ s, s < n ∧ 0 < gl c s := by
  refine Classical.byContradiction fun hn => ?_
  have hz : ∀ x ∈ c, x = 0 := fun x hx => by
    obtain ⟨i, hi, rfl⟩ := List.getElem_of_mem hx
    have h1 := h.nn i
    rw [gl_at hi] at h1
    have h2 : ¬ 0 < gl c i := fun k => hn ⟨i, by rw [← h.len]; exact hi, k⟩
    rw [gl_at hi] at h2
    omega
  have : c.sum = 0 := by
    clear hn h
    induction c with
    | nil => rfl
    | cons x l ih => rw [List.sum_cons, hz x (by simp), ih fun y hy => hz y (by simp [hy])]; rfl
  have := h.s1
  omega
theorem SettC.uniq {n : Nat} {R : List Q4} {out : List Int} {a b : Int} {c : List Int} (hc : CrOk n c) (ho : out.length = n) (h : SettC R out a c) (k : SettC R out b c) : a = b := by
  obtain ⟨s, hs, hg⟩ := some_in hc
  have h1 := h c (.refl _) s (by omega) hg
  have h2 := k c (.refl _) s (by omega) hg
  omega
theorem DeciC.uniq {n : Nat} {R : List Q4} (hR : ∀ x ∈ R, QIn n x) {out : List Int} {a b : Int} {c : List Int} (hc : CrOk n c) (ho : out.length = n) (h : DeciC R out a c) (k : DeciC R out b c) : a = b := by
  obtain ⟨e, h1, h2⟩ := h c (.refl _)
  obtain ⟨f, h3, h4⟩ := k e h1
  exact SettC.uniq ((h1.trans h3).ok hR hc) ho (h2.step h3) h4
theorem FirstOf.yes {P : Int → Prop} {s : Int} (h : FirstOf P s true) : P s := by
  by_cases h0 : P 0
  · obtain ⟨rfl, -⟩ := h.1 h0; exact h0
  · by_cases h1 : P 1
    · obtain ⟨rfl, -⟩ := h.2.1 h0 h1; exact h1
    · have := (h.2.2 h0 h1).2; cases this
theorem FirstOf.of {P : Int → Prop} {s on : Int} {b : Bool} (h : FirstOf P s b) (hon : on = 0 ∨ on = 1) (k : P on) : b = true := by
  by_cases h0 : P 0
  · exact (h.1 h0).2
  · rcases hon with rfl | rfl
    · exact absurd k h0
    · exact (h.2.1 h0 k).2
end Go.Proofs.Ytpiplaicnbapbaa
namespace Go.Proofs.Ytpiplaicnbapbaa
open Go.Rx Go.RowKit
theorem crs_sum (n : Nat) {start kinds : List Int} (hs : ∀ x ∈ start, 0 ≤ x ∧ x ≤ (n : Int) - 1) : ∀ k, k ≤ start.length → k ≤ kinds.length → (crs n start kinds k).sum = (kinds.take k).sum
  | 0, _, _ => by
    rw [crs_zero, List.take_zero]
    induction n with
    | zero => rfl
    | succ n ih => simp
  | k + 1, h1, h2 => by
    have ih := crs_sum n (kinds := kinds) hs k (by omega) (by omega)
    have hx := hs start[k] (List.getElem_mem _)
    rw [crs_succ n (start := start) (kinds := kinds) (by omega) (by omega), sum_bump (by rw [crs_len]; show start[k].toNat < n; omega), ih, List.take_succ_eq_append_getElem (by omega), List.sum_append]
    simp
theorem crs_ok {n : Nat} {start kinds : List Int} (hs : ∀ x ∈ start, 0 ≤ x ∧ x ≤ (n : Int) - 1) (hC : Cnt kinds start.length) : CrOk n (crs n start kinds kinds.length) := by
  obtain ⟨h1, h2, h3, h4⟩ := hC
  have hl : kinds.length = start.length := by omega
  have e := crs_sum n (kinds := kinds) hs kinds.length (by omega) (Nat.le_refl _)
  rw [List.take_length] at e
  refine ⟨crs_len .., ?_, by rw [e]; exact h3, by rw [e]; exact h4⟩
  have hb := crs_bd (m := n) (start := start) (kinds := kinds) h2 kinds.length (by omega) (Nat.le_refl _)
  exact gl_mem (p := fun x => 0 ≤ x) (fun x hx => (hb x hx).1) (by omega)
def Want (q : Quest) (k : List Int) (on : Int) : Prop := (TrueP q k → on = 1) ∧ (¬ TrueP q k → on = 0)
end Go.Proofs.Ytpiplaicnbapbaa
namespace Go.Proofs.Ytpiplaicnbapbaa
open Go.Rx Go.RowKit
theorem cnt2 {l : List Int} (h : Cnt l 2) : l = [gl l 0, gl l 1] ∧ 0 ≤ gl l 0 ∧ 0 ≤ gl l 1 ∧ 1 ≤ gl l 0 + gl l 1 ∧ gl l 0 + gl l 1 ≤ 9 := by
  obtain ⟨h1, h2, h3, h4⟩ := h
  match l, h1 with
  | [x, y], _ =>
    have hx := h2 x (by simp)
    have hy := h2 y (by simp)
    simp at h3 h4
    exact ⟨rfl, hx.1, hy.1, by show 1 ≤ x + y; omega, by show x + y ≤ 9; omega⟩
  | [], h => simp at h
  | [_], h => simp at h
  | _ :: _ :: _ :: _, h => simp at h; omega
theorem cnt1 {l : List Int} (h : Cnt l 1) : l = [gl l 0] ∧ 1 ≤ gl l 0 ∧ gl l 0 ≤ 9 := by
  obtain ⟨h1, h2, h3, h4⟩ := h
  match l, h1 with
  | [x], _ =>
    simp at h3 h4
    exact ⟨rfl, by show 1 ≤ x; omega, by show x ≤ 9; omega⟩
  | [], h => simp at h
  | _ :: _ :: _, h => simp at h; omega
end Go.Proofs.Ytpiplaicnbapbaa
namespace Go.Proofs.Ytpiplaicnbapbaa
open Go.Rx Go.RowKit
theorem builtM_sl {h0 h : Hp} {e : TypeId} {v : Value} {us : List Value} {L : List (List Int)} (k : BuiltM h0 h e v us L) : SL h v L := by
  obtain ⟨a, c, e1, h1⟩ := k.mat
  exact ⟨a, c, e1, fun j hj => by
    obtain ⟨r, o, sp, w, x1, x2, x3, x4⟩ := h1 j hj
    exact ⟨r, o, sp, w, x1, x2, by first | exact x3 | (rw [Nat.add_comm]; exact x3), x4⟩⟩
def Solves (p : Prot) (n : Nat) (q : Quest) (k : List Int) : Prop := ∀ on, Want q k on → DeciC p.rules p.out on (crs n p.start k k.length)
theorem want_uniq {q : Quest} {k : List Int} {a b : Int} (h : Want q k a) (g : Want q k b) : a = b := by
  by_cases t : TrueP q k
  · rw [h.1 t, g.1 t]
  · rw [h.2 t, g.2 t]
end Go.Proofs.Ytpiplaicnbapbaa
namespace Go.Proofs.Ytpiplaicnbapbaa
open Go.Rx Go.RowKit
structure Ka (m : Nat) (a b : Nat) (K : List (List Int)) : Prop where
  mem : ∀ l, l ∈ K ↔ Cnt l m ∧ (gl l 0 < a ∨ (gl l 0 = a ∧ ((m = 2 ∧ gl l 1 < b) ∨ (m = 1 ∧ 0 < b))))
  len : K.length ≤ 10 * a + b
def pick (m : Nat) (a b : Nat) : List Int := [(a : Int), (b : Int)].take m
theorem Ka.yes {m a b : Nat} {K : List (List Int)} (hm : m = 1 ∨ m = 2) (k : Ka m a b K) (h : Cnt (pick m a b) m) (hb : m = 2 ∨ b = 0) : Ka m a (b + 1) (K ++ [pick m a b]) := by
  refine ⟨fun l => ?_, by have := k.len; rw [List.length_append, List.length_singleton]; omega⟩
  rw [List.mem_append, List.mem_singleton, k.mem]
  rcases hm with rfl | rfl
  · have : b = 0 := by omega
    subst this
    constructor
    · rintro (⟨e1, e2⟩ | rfl)
      · exact ⟨e1, by omega⟩
      · exact ⟨h, .inr ⟨rfl, .inr ⟨rfl, by omega⟩⟩⟩
    · rintro ⟨e1, e2⟩
      by_cases e3 : gl l 0 = a
      · obtain ⟨e4, -⟩ := cnt1 e1
        rw [e3] at e4
        exact .inr e4
      · exact .inl ⟨e1, by omega⟩
  · constructor
    · rintro (⟨e1, e2⟩ | rfl)
      · exact ⟨e1, by omega⟩
      · exact ⟨h, .inr ⟨rfl, .inl ⟨rfl, by show (b : Int) < _; omega⟩⟩⟩
    · rintro ⟨e1, e2⟩
      by_cases e3 : gl l 0 = a ∧ gl l 1 = b
      · obtain ⟨e4, -⟩ := cnt2 e1
        rw [e3.1, e3.2] at e4
        exact .inr e4
      · exact .inl ⟨e1, by omega⟩
theorem Ka.no {m a b : Nat} {K : List (List Int)} (hm : m = 1 ∨ m = 2) (k : Ka m a b K) (h : ¬ (Cnt (pick m a b) m ∧ (m = 2 ∨ b = 0))) : Ka m a (b + 1) K := by
  refine ⟨fun l => ?_, by have := k.len; omega⟩
  rw [k.mem]
  constructor
  · rintro ⟨e1, e2⟩
    exact ⟨e1, by omega⟩
  · rintro ⟨e1, e2⟩
    rcases hm with rfl | rfl
    · refine ⟨e1, ?_⟩
      by_cases e3 : gl l 0 = a ∧ b = 0
      · obtain ⟨e4, -⟩ := cnt1 e1
        rw [e3.1] at e4
        refine absurd ⟨?_, .inr e3.2⟩ h
        show Cnt [(a : Int)] 1
        rw [← e4]
        exact e1
      · omega
    · refine ⟨e1, ?_⟩
      by_cases e3 : gl l 0 = a ∧ gl l 1 = b
      · obtain ⟨e4, -⟩ := cnt2 e1
        rw [e3.1, e3.2] at e4
        refine absurd ⟨?_, .inl rfl⟩ h
        show Cnt [(a : Int), (b : Int)] 2
        rw [← e4]
        exact e1
      · omega
theorem Ka.turn {m a : Nat} {K : List (List Int)} (hm : m = 1 ∨ m = 2) (k : Ka m a 10 K) : Ka m (a + 1) 0 K := by
  refine ⟨fun l => ?_, by have := k.len; omega⟩
  rw [k.mem]
  constructor
  · rintro ⟨e1, e2⟩
    exact ⟨e1, by omega⟩
  · rintro ⟨e1, e2⟩
    refine ⟨e1, ?_⟩
    rcases hm with rfl | rfl
    · omega
    · have := cnt2 e1
      have h6 := (gl_mem (p := fun x => 0 ≤ x ∧ x ≤ 9) e1.2.1 (by omega) 1).2
      omega
theorem Ka.start (m : Nat) : Ka m 0 0 [] := by
  refine ⟨fun l => ⟨fun k => by simp at k, fun k => ?_⟩, Nat.zero_le _⟩
  have h5 := (gl_mem (p := fun x => 0 ≤ x ∧ x ≤ 9) k.1.2.1 (by omega) 0).1
  have h6 := (gl_mem (p := fun x => 0 ≤ x ∧ x ≤ 9) k.1.2.1 (by omega) 1).1
  have := k.2
  omega
theorem Ka.all {m : Nat} {K : List (List Int)} (k : Ka m 10 0 K) (l : List Int) : l ∈ K ↔ Cnt l m := by
  rw [k.mem]
  refine ⟨fun k => k.1, fun k => ⟨k, .inl ?_⟩⟩
  have := (gl_mem (p := fun x => 0 ≤ x ∧ x ≤ 9) k.2.1 (by omega) 0).2
  omega
attribute [local irreducible] E idxN cellAt cellsAt storeAt callable helems hmoved lookIn findKey keyOk hentries Hp.at Hp.set Hp.lay arBits hupdated setAt CallP YieldP BoolOf IsWrap Rnd LoopP AppP CutP Int.tmod Int.tdiv Int.fdiv
section
variable [Unknowns]
attribute [local irreducible] ResP sameAt
theorem allKinds_spec (m : Nat) (hm : m = 1 ∨ m = 2) (h : Hp) : CallP E 63 [int m] h (fun r h' => (∃ us K, BuiltM h h' 22 r us K ∧ K.length ≤ 1000 ∧ ∀ l, l ∈ K ↔ Cnt l m) ∧ Grows h h') := by
  refine enter63 (by simp) ?_
  conv => whnf
  refine SeqP.go ?_
  conv => whnf
  refine SeqP.go ?_
  conv => whnf
  refine SeqP.cut (α := Value × List Value × List (List Int) × Hp) (fun s => [(3, s.1)]) (fun s H => s.2.2.2 = H ∧ Grows h s.2.2.2 ∧ BuiltM h s.2.2.2 22 s.1 s.2.1 s.2.2.1 ∧ Ka m 10 0 s.2.2.1) ?_ ?_
  rotate_left
  · rintro ⟨v, us, K, H⟩ φ9 _ ⟨rfl, h1, h2, h3⟩
    dsimp only at h1 h2 h3 ⊢
    have hkk := h2.known
    obtain ⟨a9, c9, rfl⟩ := hkk
    conv => whnf
    repeat (refine SeqP.go ?_; conv => whnf)
    exact ⟨⟨us, K, h2, by have := h3.len; omega, h3.all⟩, h1⟩
  conv => whnf
  repeat (refine SeqP.go ?_; conv => whnf)
  refine loop_inv (α := Nat × Value × List Value × List (List Int) × Hp) (fun s => [(7, int s.1), (3, s.2.1), (0, int m)]) (fun s => s.2.2.2.2) (fun s => s.1 ≤ 10 ∧ Grows h s.2.2.2.2 ∧ BuiltM h s.2.2.2.2 22 s.2.1 s.2.2.1 s.2.2.2.1 ∧ Ka m s.1 0 s.2.2.2.1) (fun s => 10 - s.1) (0, .slice none 0 0, [], [], h) ⟨Nat.zero_le _, .refl _, BuiltM.nil, Ka.start m⟩ ⟨rfl, rfl, rfl, trivial⟩ (Hp.Le.refl _) ?_
  rintro ⟨a, v, us, K, H⟩ φ1 ⟨ha, hg, hb, hk⟩
  dsimp only at ha hg hb hk ⊢
  have hkk := hb.known
  obtain ⟨av, cv0, rfl⟩ := hkk
  conv => whnf
  repeat (refine SeqP.go ?_; conv => whnf)
  refine cmpB (fun c1 => ?_) (fun c1 => ?_)
  rotate_left
  · have : a = 10 := by omega
    subst this
    conv => whnf
    repeat (refine SeqP.go ?_; conv => whnf)
    exact ⟨(_, us, K, H), ⟨rfl, trivial⟩, ⟨rfl, hg, hb, hk⟩, rfl⟩
  conv => whnf
  refine SeqP.go ?_
  conv => whnf
  refine SeqP.cut (α := Value × List Value × List (List Int) × Hp) (fun s => [(7, int a), (3, s.1), (0, int m)]) (fun s H' => s.2.2.2 = H' ∧ Grows h s.2.2.2 ∧ BuiltM h s.2.2.2 22 s.1 s.2.1 s.2.2.1 ∧ Ka m a 10 s.2.2.1) ?_ ?_
  rotate_left
  · rintro ⟨v', us', K', H'⟩ φ2 _ ⟨rfl, e1, e2, e3⟩
    dsimp only at e1 e2 e3 ⊢
    conv => whnf
    refine ⟨((a + 1 : Nat) : Int), wie (by omega) (by omega), ?_⟩
    conv => whnf
    exact Rnd.mk (a + 1, v', us', K', H') ⟨by show a + 1 ≤ 10; omega, e1, e2, e3.turn hm⟩ (by show 10 - (a + 1) < 10 - a; omega) ⟨rfl, rfl, rfl, trivial⟩ (Hp.Le.refl _) rfl
  conv => whnf
  repeat (refine SeqP.go ?_; conv => whnf)
  refine loop_inv (α := Nat × Value × List Value × List (List Int) × Hp) (fun s => [(10, int s.1), (7, int a), (4, int a), (3, s.2.1), (0, int m)]) (fun s => s.2.2.2.2) (fun s => s.1 ≤ 10 ∧ Grows h s.2.2.2.2 ∧ BuiltM h s.2.2.2.2 22 s.2.1 s.2.2.1 s.2.2.2.1 ∧ Ka m a s.1 s.2.2.2.1) (fun s => 10 - s.1) (0, _, us, K, H) ⟨Nat.zero_le _, hg, hb, hk⟩ ⟨rfl, rfl, rfl, rfl, rfl, trivial⟩ (Hp.Le.refl _) ?_
  clear hg hb hk
  rintro ⟨b, v, us, K, H⟩ φ3 ⟨hb9, hg, hb, hk⟩
  dsimp only at hb9 hg hb hk ⊢
  have hkk := hb.known
  obtain ⟨av, cv0, rfl⟩ := hkk
  have hlen := hk.len
  conv => whnf
  repeat (refine SeqP.go ?_; conv => whnf)
  refine cmpB (fun c2 => ?_) (fun c2 => ?_)
  rotate_left
  · have : b = 10 := by omega
    subst this
    conv => whnf
    repeat (refine SeqP.go ?_; conv => whnf)
    exact ⟨(_, us, K, H), ⟨rfl, rfl, rfl, trivial⟩, ⟨rfl, hg, hb, hk⟩, rfl⟩
  have g1 : Grows H (H.lay (.row 3 true [int a, int b])) := Grows.lay _ _
  have hbu : Built H (H.lay (.row 3 true [int a, int b])) 3 (slc H.next 0 2 2) [(a : Int), (b : Int)] := .inr ⟨H.next, rfl, Nat.le_refl _, true, Hp.at_lay_self _ _⟩
  have hpl : (pick m a b).length = m := by unfold pick; rcases hm with rfl | rfl <;> rfl
  have hcell : ∀ k, (hk : k < m) → cellAt (H.lay (.row 3 true [int a, int b])) H.next (0 + k) = some (int ((pick m a b)[k]'(by rw [hpl]; exact hk))) := fun k hk => by
    rcases hm with rfl | rfl
    · have : k = 0 := by omega
      subst this
      exact cellAt_row (Hp.at_lay_self _ _) rfl
    · have : k = 0 ∨ k = 1 := by omega
      rcases this with rfl | rfl <;> exact cellAt_row (Hp.at_lay_self _ _) rfl
  have hview : View (H.lay (.row 3 true [int a, int b])) (slc H.next 0 m 2) (pick m a b) := by
    refine .inr ⟨H.next, 0, 2, by rw [hpl], by rw [hpl]; omega, .inl ⟨3, true, _, Hp.at_lay_self _ _, by rw [hpl]; show 0 + m ≤ 2; omega⟩, fun k hk => ?_⟩
    exact hcell k (by rw [hpl] at hk; exact hk)
  have hoff : Off (.slice av K.length cv0) (slc H.next 0 m 2) := by
    intro r n c o n' c' e1 e2
    exact (hb.off hbu) r n c o 2 2 e1 (by
      have e3 : H.next = r ∧ o = 0 := by simp [slc] at e2; omega
      rw [e3.1, e3.2])
  have hcut : ∀ H', Grows (H.lay (.row 3 true [int a, int b])) H' → hcutS H' 1 (slc H.next 0 2 2) none (some (int m)) none = .val (slc H.next 0 m 2) H' := by
    intro H' g
    have hat := g.at_ _ _ (Hp.at_lay_self H (.row 3 true [int a, int b]))
    rcases hm with rfl | rfl
    · unfold hcutS
      dsimp only [slc]
      rw [bounds_of (len := 2) (i := 0) (j := 1) ⟨.inl ⟨rfl, rfl⟩, .inr rfl⟩ (by omega) (by omega) (Nat.le_refl _)]
      show hcutObj H' 1 H.next 0 true (some (0, 1, 2)) (H'.at H.next) = _
      rw [hat]
      rfl
    · unfold hcutS
      dsimp only [slc]
      rw [bounds_of (len := 2) (i := 0) (j := 2) ⟨.inl ⟨rfl, rfl⟩, .inr rfl⟩ (by omega) (by omega) (Nat.le_refl _)]
      show hcutObj H' 1 H.next 0 true (some (0, 2, 2)) (H'.at H.next) = _
      rw [hat]
      rfl
  conv => whnf
  repeat (refine SeqP.go ?_; conv => whnf)
  refine CutP.val (v' := slc H.next 0 m 2) (hcut _ (.refl _)) ?_
  conv => whnf
  repeat (refine SeqP.go ?_; conv => whnf)
  refine CallP.mono (isCount_spec _ (pick m a b) m _ hview.ints (by rw [hpl]; omega)) ?_
  rintro r2 H2 ⟨⟨c, rfl, hc⟩, rfl⟩
  have hg1 := hg.trans g1
  have hno : ¬ (Cnt (pick m a b) m ∧ (m = 2 ∨ b = 0)) → Ka m a (b + 1) K := hk.no hm
  have hb1 := hb.ext g1
  cases c with
  | false =>
    conv => whnf
    repeat (refine SeqP.go ?_; conv => whnf)
    refine ⟨((b + 1 : Nat) : Int), wie (by omega) (by omega), ?_⟩
    conv => whnf
    exact Rnd.mk (b + 1, _, us, K, _) ⟨by show b + 1 ≤ 10; omega, hg1, hb1, hno fun k => hc.f k.1⟩ (by show 10 - (b + 1) < 10 - b; omega) ⟨rfl, rfl, rfl, rfl, rfl, trivial⟩ (Hp.Le.refl _) rfl
  | true =>
    have hC := hc.t
    conv => whnf
    refine cmpB (fun c3 => ?_) (fun c3 => ?_)
    · conv => whnf
      repeat (refine SeqP.go ?_; conv => whnf)
      refine AppP.row (h0 := h) (L := K) hb1 hg1 hview hoff (by omega) (by omega) ?_
      intro v4 us4 H4 hv4 hg4 _
      conv => whnf
      repeat (refine SeqP.go ?_; conv => whnf)
      refine ⟨((b + 1 : Nat) : Int), wie (by omega) (by omega), ?_⟩
      conv => whnf
      exact Rnd.mk (b + 1, v4, us4, _, H4) ⟨by show b + 1 ≤ 10; omega, hg4, hv4, hk.yes hm hC (by omega)⟩ (by show 10 - (b + 1) < 10 - b; omega) ⟨rfl, rfl, rfl, rfl, rfl, trivial⟩ (Hp.Le.refl _) rfl
    · conv => whnf
      refine cmpB (fun c4 => ?_) (fun c4 => ?_)
      · conv => whnf
        repeat (refine SeqP.go ?_; conv => whnf)
        refine AppP.row (h0 := h) (L := K) hb1 hg1 hview hoff (by omega) (by omega) ?_
        intro v4 us4 H4 hv4 hg4 _
        conv => whnf
        repeat (refine SeqP.go ?_; conv => whnf)
        refine ⟨((b + 1 : Nat) : Int), wie (by omega) (by omega), ?_⟩
        conv => whnf
        exact Rnd.mk (b + 1, v4, us4, _, H4) ⟨by show b + 1 ≤ 10; omega, hg4, hv4, hk.yes hm hC (by omega)⟩ (by show 10 - (b + 1) < 10 - b; omega) ⟨rfl, rfl, rfl, rfl, rfl, trivial⟩ (Hp.Le.refl _) rfl
      · conv => whnf
        repeat (refine SeqP.go ?_; conv => whnf)
        refine ⟨((b + 1 : Nat) : Int), wie (by omega) (by omega), ?_⟩
        conv => whnf
        exact Rnd.mk (b + 1, _, us, K, _) ⟨by show b + 1 ≤ 10; omega, hg1, hb1, hno fun k => by omega⟩ (by show 10 - (b + 1) < 10 - b; omega) ⟨rfl, rfl, rfl, rfl, rfl, trivial⟩ (Hp.Le.refl _) rfl
end
end Go.Proofs.Ytpiplaicnbapbaa
namespace Go.Proofs.Ytpiplaicnbapbaa
open Go.Rx Go.RowKit
def AnsR (p : Prot) (n : Nat) (q : Quest) (h' : Hp) (r : Value) : Prop := ∃ (w : Value) (b : Bool), r = .tuple ⟨[w, .bool b, int 0]⟩ ∧ (b = true → w = .slice none 0 0 ∧ ∀ k, Cnt k p.start.length → Solves p n q k) ∧ (b = false → ∃ k, View h' w k ∧ Cnt k p.start.length ∧ ¬ Solves p n q k)
theorem crs_pad {n : Nat} (hn : n ≤ 5) {start kinds : List Int} (hs : ∀ x ∈ start, 0 ≤ x ∧ x ≤ (n : Int) - 1) : ∀ k, k ≤ start.length → k ≤ kinds.length → crs 5 start kinds k = pad5 (crs n start kinds k)
  | 0, _, _ => by
    rw [crs_zero, crs_zero]
    unfold pad5
    rw [List.length_replicate, List.replicate_append_replicate]
    congr 1
    omega
  | k + 1, h1, h2 => by
    have ih := crs_pad hn (kinds := kinds) hs k (by omega) (by omega)
    have hx := hs start[k] (List.getElem_mem _)
    rw [crs_succ 5 (start := start) (kinds := kinds) (by omega) (by omega), crs_succ n (start := start) (kinds := kinds) (by omega) (by omega), ih, bump_pad (by rw [crs_len]; show start[k].toNat < n; omega)]
attribute [local irreducible] E idxN cellAt cellsAt storeAt callable helems hmoved lookIn findKey keyOk hentries Hp.at Hp.set Hp.lay arBits hupdated setAt CallP YieldP BoolOf IsWrap Rnd LoopP AppP CutP Int.tmod Int.tdiv Int.fdiv
section
variable [Unknowns]
attribute [local irreducible] ResP sameAt
theorem Answers_ok (hPR : PReachedOk) (v u : Value) (p : Prot) (q : Quest) (n : Nat) (h : Hp) (hv : PV h v p) (hq : QV h u q) (hP : POk p) (en : p.n = n) (hQ : QOk q) (hqs : q.a.length = p.start.length) : CallP E 22 [v, u] h (fun r h' => AnsR p n q h' r ∧ Grows h h') := by
  obtain ⟨bp, rfl, hbl, b0, -, ⟨a2, b2, k2⟩, -⟩ := hv.box
  obtain ⟨bq, rfl, hbq, ⟨aq, q0, kq⟩, -⟩ := hq.box
  have hst1 := hP.st1
  have hst2 := hP.st2
  have hol := hP.outl
  have hn5 := hP.n5
  have hn1 := hP.n1
  have hrl := hP.rl
  have g0 : Grows h ((h.lay (.row 25 true bp)).lay (.row 36 true bq)) := (Grows.lay _ _).then_lay _
  have a0 : ((h.lay (.row 25 true bp)).lay (.row 36 true bq)).at h.next = some (.row 25 true bp) := Hp.at_lay_old _ (Hp.at_lay_self _ _)
  have a1 : ((h.lay (.row 25 true bp)).lay (.row 36 true bq)).at (h.lay (.row 25 true bp)).next = some (.row 36 true bq) := Hp.at_lay_self _ _
  refine enter22 (by simp) ?_
  conv => whnf
  refine SeqP.go ?_
  conv => whnf
  refine SeqP.cut (α := Hp) (fun s => [(3, ptr (h.lay (.row 25 true bp)).next 0), (2, ptr h.next 0)]) (fun s H => s = H ∧ Grows ((h.lay (.row 25 true bp)).lay (.row 36 true bq)) s) ?_ ?_
  · conv => whnf
    repeat (refine SeqP.go ?_; conv => whnf)
    refine ⟨bp, all_cells a0 hbl, ?_⟩
    conv => whnf
    refine CallP.mono (check_spec _ p _ (hv.ext g0) (by unfold InR; omega) (by omega) (by omega) (by omega)) ?_
    rintro r1 H1 ⟨⟨e, rfl, e1, e2⟩, g1⟩
    have ee := e1 hP
    subst ee
    conv => whnf
    repeat (refine SeqP.go ?_; conv => whnf)
    refine cmpF (by omega) ?_
    conv => whnf
    repeat (refine SeqP.go ?_; conv => whnf)
    exact ⟨H1, ⟨rfl, rfl, trivial⟩, ⟨rfl, g1⟩, rfl⟩
  rintro H1 φ1 _ ⟨rfl, g1⟩
  conv => whnf
  refine SeqP.cut (α := Hp) (fun s => [(3, ptr (h.lay (.row 25 true bp)).next 0), (2, ptr h.next 0)]) (fun s H => s = H ∧ Grows ((h.lay (.row 25 true bp)).lay (.row 36 true bq)) s) ?_ ?_
  · conv => whnf
    refine ⟨bq, all_cells (g1.at_ _ _ a1) hbq, ?_⟩
    conv => whnf
    refine CallP.mono (isQuestion_spec _ q _ (hq.ext (g0.trans g1)) (by omega)) ?_
    rintro r2 H2 ⟨⟨b, rfl, hb⟩, g2⟩
    have eb : b = true := hb.of_t hQ
    subst eb
    have g12 := g1.trans g2
    conv => whnf
    refine ⟨_, cellAt_row (g12.at_ _ _ a1) q0, ?_⟩
    conv => whnf
    refine ⟨_, cellAt_row (g12.at_ _ _ a0) b2, ?_⟩
    conv => whnf
    refine cmpF (by omega) ?_
    conv => whnf
    repeat (refine SeqP.go ?_; conv => whnf)
    exact ⟨H2, ⟨rfl, rfl, trivial⟩, ⟨rfl, g12⟩, rfl⟩
  rintro H2 φ2 _ ⟨rfl, g2⟩
  conv => whnf
  refine SeqP.cut (α := Unit) (fun _ => []) (fun _ H => Grows h H ∧ ∀ k, Cnt k p.start.length → Solves p n q k) ?_ ?_
  rotate_left
  · rintro _ φ9 H9 ⟨g9, hall⟩
    conv => whnf
    repeat (refine SeqP.go ?_; conv => whnf)
    exact ⟨⟨_, true, rfl, fun _ => ⟨rfl, hall⟩, fun e => (by cases e)⟩, g9⟩
  conv => whnf
  repeat (refine SeqP.go ?_; conv => whnf)
  refine ⟨_, cellAt_row (g2.at_ _ _ a0) b2, ?_⟩
  conv => whnf
  refine CallP.mono (allKinds_spec p.start.length (by omega) _) ?_
  rintro r3 H3 ⟨⟨us, K, hb, hl, hK⟩, g3⟩
  have hsl := builtM_sl hb
  obtain ⟨ak, ck, rfl, hKc⟩ := hsl
  conv => whnf
  refine loop_inv (α := Nat × Hp) (fun s => [(33, int s.1), (32, int K.length), (31, .slice ak K.length ck), (3, ptr (h.lay (.row 25 true bp)).next 0), (2, ptr h.next 0)]) (fun s => s.2) (fun s => s.1 ≤ K.length ∧ Grows H3 s.2 ∧ ∀ j, (hj : j < K.length) → j < s.1 → Solves p n q K[j]) (fun s => K.length - s.1) (0, H3) ⟨Nat.zero_le _, .refl _, fun j hj hj0 => absurd hj0 (Nat.not_lt_zero _)⟩ ⟨rfl, rfl, rfl, rfl, rfl, trivial⟩ (Hp.Le.refl _) ?_
  rintro ⟨i, H⟩ φ3 ⟨hi, hg, hdone⟩
  dsimp only at hi hg hdone ⊢
  have gB := (g2.trans g3).trans hg
  have gA := g0.trans gB
  conv => whnf
  repeat (refine SeqP.go ?_; conv => whnf)
  refine cmpB (fun c1 => ?_) (fun c1 => ?_)
  rotate_left
  · conv => whnf
    repeat (refine SeqP.go ?_; conv => whnf)
    refine ⟨(), trivial, ⟨gA, fun k hk => ?_⟩, rfl⟩
    obtain ⟨j, hj, e⟩ := List.getElem_of_mem ((hK k).2 hk)
    rw [← e]
    exact hdone j hj (by omega)
  have hil : i < K.length := by omega
  have hci := hKc i hil
  obtain ⟨r5, o5, sp5, w5, ea5, hsp5, hc5, hv5⟩ := hci
  subst ea5
  have hC : Cnt K[i] p.start.length := (hK _).1 (List.getElem_mem _)
  have hexd : ∃ d, K[i] = d := ⟨_, rfl⟩
  obtain ⟨d, ed⟩ := hexd
  rw [ed] at hv5 hC
  have hkk := hv5.known
  obtain ⟨a5, c5, rfl⟩ := hkk
  have hc5 := hg.cell hc5
  have hv5 := hv5.ext hg
  have hdl : d.length = p.start.length := by have := hC.1; omega
  have hst := hP.sts
  rw [en] at hst
  have hn5' : n ≤ 5 := by omega
  have hcr : CrOk n (crs n p.start d d.length) := crs_ok hst hC
  have hpad := crs_pad hn5' (kinds := d) hst d.length (by omega) (Nat.le_refl _)
  conv => whnf
  refine SeqP.go ?_
  conv => whnf
  refine SeqP.cut (α := Hp) (fun s => [(33, int i), (32, int K.length), (31, .slice (some ⟨r5, o5, sp5⟩) K.length ck), (3, ptr (h.lay (.row 25 true bp)).next 0), (2, ptr h.next 0)]) (fun s H' => s = H' ∧ Grows H s ∧ Solves p n q d) ?_ ?_
  rotate_left
  · rintro H4 φ4 _ ⟨rfl, g4, hy⟩
    conv => whnf
    refine ⟨((i + 1 : Nat) : Int), wie (by omega) (by omega), ?_⟩
    conv => whnf
    refine Rnd.mk (i + 1, H4) ⟨by show i + 1 ≤ _; omega, hg.trans g4, fun j hj hj1 => ?_⟩ (by show _ - (i + 1) < _ - i; omega) ⟨rfl, rfl, rfl, rfl, rfl, trivial⟩ (Hp.Le.refl _) rfl
    by_cases e3 : j = i
    · subst e3
      rw [ed]
      exact hy
    · exact hdone j hj (by have : j < i + 1 := hj1; omega)
  conv => whnf
  refine SeqP.cut (α := Unit) (fun s => [(9, .slice a5 d.length c5), (33, int i), (32, int K.length), (31, .slice (some ⟨r5, o5, sp5⟩) K.length ck), (3, ptr (h.lay (.row 25 true bp)).next 0), (2, ptr h.next 0)]) (fun s H' => H = H') ?_ ?_
  · conv => whnf
    refine ⟨hsp5, ⟨by omega, by omega⟩, ?_⟩
    conv => whnf
    refine ⟨.slice a5 d.length c5, by rw [offAt_eq, Nat.add_comm]; simpa using hc5, ?_⟩
    conv => whnf
    exact ⟨(), ⟨rfl, rfl, rfl, rfl, rfl, rfl, trivial⟩, rfl, rfl⟩
  rintro _ φ5 _ rfl
  conv => whnf
  refine SeqP.go ?_
  conv => whnf
  refine SeqP.cut (α := Int × Hp) (fun s => [(10, int s.1), (9, .slice a5 d.length c5), (33, int i), (32, int K.length), (31, .slice (some ⟨r5, o5, sp5⟩) K.length ck), (3, ptr (h.lay (.row 25 true bp)).next 0), (2, ptr h.next 0)]) (fun s H' => s.2 = H' ∧ Grows H s.2 ∧ Want q d s.1) ?_ ?_
  · conv => whnf
    refine ⟨bq, all_cells (gB.at_ _ _ a1) hbq, ?_⟩
    conv => whnf
    refine CallP.mono (isTrue_spec _ _ q d _ (hq.ext gA) hv5.ints hQ (by omega) hC.2.1) ?_
    rintro r6 H6 ⟨⟨b, rfl, hb6⟩, g6⟩
    cases b with
    | true =>
      conv => whnf
      repeat (refine SeqP.go ?_; conv => whnf)
      exact ⟨(1, H6), ⟨rfl, rfl, rfl, rfl, rfl, rfl, rfl, trivial⟩, ⟨rfl, g6, fun _ => rfl, fun k => absurd hb6.t k⟩, rfl⟩
    | false =>
      conv => whnf
      repeat (refine SeqP.go ?_; conv => whnf)
      exact ⟨(0, H6), ⟨rfl, rfl, rfl, rfl, rfl, rfl, rfl, trivial⟩, ⟨rfl, g6, fun k => absurd k hb6.f, fun _ => rfl⟩, rfl⟩
  rintro ⟨on, H6⟩ φ6 _ ⟨rfl, g6, hwant⟩
  dsimp only at g6 hwant ⊢
  have gB6 := gB.trans g6
  have gA6 := g0.trans gB6
  have a06 := gB6.at_ _ _ a0
  have hv56 := hv5.ext g6
  have ld : ∀ H', Grows H6 H' → hval H' (aggOf (cellsAt H' h.next 0 4)) = .val (.agg ⟨bp⟩) H' := fun H' g => by
    rw [all_cells (g.at_ _ _ a06) hbl]
    rfl
  conv => whnf
  repeat (refine SeqP.go ?_; conv => whnf)
  refine ⟨bp, all_cells a06 hbl, ?_⟩
  conv => whnf
  refine ⟨bp, all_cells a06 hbl, ?_⟩
  conv => whnf
  refine ⟨bp, all_cells a06 hbl, ?_⟩
  conv => whnf
  refine CallP.mono (ofKinds_spec _ _ p d _ (hv.ext gA6) hv56.ints hP hdl hC.2.1) ?_
  rintro r7 H7 ⟨rfl, g7⟩
  rw [hpad]
  conv => whnf
  refine CallP.mono (hPR _ p n _ _ (hv.ext (gA6.trans g7)) hP en hcr) ?_
  rintro r8 H8 ⟨⟨bx, L, B, rfl, hx⟩, g8⟩
  have g78 := g7.trans g8
  conv => whnf
  refine CallP.mono (decidesAs_spec _ p bx on n _ L B _ (hv.ext (gA6.trans g78)) hP en hx) ?_
  rintro r9 H9 ⟨⟨b, rfl, hb9⟩, g9⟩
  have g79 := g78.trans g9
  conv => whnf
  refine ⟨?_, ?_⟩
  · repeat' (first | exact True.intro | (refine And.intro ?_ ?_ <;> (conv => whnf)))
    all_goals first
      | exact sameAt_val (h2 := _) rfl (sameV_int _)
      | exact sameAt_val (h2 := _) (ld _ (Grows.refl _)) hv.same
      | exact sameAt_val (h2 := _) (ld _ g7) hv.same
      | exact sameAt_val (h2 := _) (ld _ g78) hv.same
      | exact sameAt_val (h2 := _) (ld _ g79) hv.same
      | trace_state
  cases b with
  | true =>
    conv => whnf
    repeat (refine SeqP.go ?_; conv => whnf)
    exact ⟨H9, ⟨rfl, rfl, rfl, rfl, rfl, trivial⟩, ⟨rfl, g6.trans g79, fun o ho => by rw [want_uniq ho hwant]; exact hb9.t⟩, rfl⟩
  | false =>
    conv => whnf
    repeat (refine SeqP.go ?_; conv => whnf)
    exact ⟨⟨_, false, rfl, fun e => (by cases e), fun _ => ⟨d, hv56.ext g79, hC, fun k => hb9.f (k on hwant)⟩⟩, gA6.trans g79⟩
end
end Go.Proofs.Ytpiplaicnbapbaa
namespace Go.Proofs.Ytpiplaicnbapbaa
open Go.Rx Go.RowKit
theorem crowds_few {n : Nat} {L : List (List Int)} (hn : n ≤ 5) (h : ∀ d ∈ L, CrOk n d) (hd : L.Nodup) : L.length ≤ 100000 := by
  have h1 := nodup_map (f := fun d => (keyOf d).toNat) hd (fun a ha b hb e => keyOf_inj (h a ha) (h b hb) (by
    have h2 := keyOf_bd hn (h a ha)
    have h3 := keyOf_bd hn (h b hb)
    omega))
  have h2 := nodup_lt 100000 _ h1 (fun x hx => by
    obtain ⟨d, hd2, rfl⟩ := List.mem_map.1 hx
    have := keyOf_bd hn (h d hd2)
    omega)
  rw [List.length_map] at h2
  exact h2
theorem Nx.done {R : List Q4} {L N : List (List Int)} (k : Nx R L N) (hl : N.length = L.length) (hd : L.Nodup) (hR : R.length ≤ 1000) : NxOk R L N := by
  refine ⟨hl, fun i hi x hx => ?_, fun i b he => ?_, fun i hi => ?_⟩
  · have h1 := List.getElem?_eq_getElem (l := L) (i := i) (by omega)
    obtain ⟨kk, e, j, h2, h3, h4⟩ := (k.row i _ _ h1 (List.getElem?_eq_getElem hi)).fwd x hx
    exact ⟨kk, h2, _, e, j, h1, h3, h4⟩
  · have hlt := he.lt
    obtain ⟨d, e, j, h1, h2, h3⟩ := he
    have hi : i < N.length := by omega
    obtain ⟨kk, h4, h5⟩ := (k.row i _ _ h1 (List.getElem?_eq_getElem hi)).bwd j e (step_range h3).2 h3
    have hkk := (List.getElem?_eq_some_iff.1 h4).1
    have : kk = b := (List.getElem?_inj hkk hd).1 (h4.trans h2.symm)
    subst this
    exact ⟨hi, h5⟩
  · have h1 := List.getElem?_eq_getElem (l := L) (i := i) (by omega)
    have := (k.row i _ _ h1 (List.getElem?_eq_getElem hi)).few
    omega
end Go.Proofs.Ytpiplaicnbapbaa
namespace Go.Proofs.Ytpiplaicnbapbaa
open Go.Rx Go.RowKit
abbrev nilS : Value := .slice none 0 0
structure RRI (hb H : Hp) (lv sv nv rv : Value) (M O X : Nat) (us vs : List Value) (L N : List (List Int)) (S row : List Int) (f : Int → Option Value) (m : Nat) (ov : Value) : Prop where
  gr : Grows hb H
  l : BuiltC hb H 22 1 lv us.length us
  le : EL H us L
  s : BuiltC hb H 3 1 sv S.length (S.map int)
  n : BuiltC hb H 22 1 nv vs.length vs
  ne : EL H vs N
  r : BuiltC hb H 3 1 rv row.length (row.map int)
  m : MapAt H M encI f m
  o : H.at O = some (.row 64 true [nilS, nilS, ov])
  hM : hb.next ≤ M
  hO : hb.next ≤ O
  sep : Sep H [lv, sv, nv, rv, slc M 0 0 0, slc O 0 0 0, slc X 0 0 0] (us ++ vs)
theorem RRI.ext {hb H H' : Hp} {lv sv nv rv : Value} {M O X : Nat} {us vs : List Value} {L N : List (List Int)} {S row : List Int} {f : Int → Option Value} {m : Nat} {ov : Value} (k : RRI hb H lv sv nv rv M O X us vs L N S row f m ov) (g : Grows H H') : RRI hb H' lv sv nv rv M O X us vs L N S row f m ov :=
  ⟨k.gr.trans g, k.l.ext g, k.le.ext g, k.s.ext g, k.n.ext g, k.ne.ext g, k.r.ext g, k.m.ext g, g.at_ _ _ k.o, k.hM, k.hO, k.sep.ext g⟩
theorem ap_at {a : Option Nat} {h h' : Hp} {r : Nat} {o : Rx.Obj} {v : Value} (x : Kx (ad v) h h') (e : h.at r = some o) (k : Ap v (slc r 0 0 0)) : h'.at r = some o := x.at_ e fun e2 => k r e2 rfl
theorem map_kx {h h' : Hp} {M : Nat} {f : Int → Option Value} {m : Nat} {v : Value} (k : MapAt h M encI f m) (x : Kx (ad v) h h') (a : Ap v (slc M 0 0 0)) : MapAt h' M encI f m := by
  obtain ⟨es, c, h1, h2, h3⟩ := k
  exact ⟨es, c, x.at_ h1 (fun e2 => a M e2 rfl), h2, h3⟩
theorem RRI.start {hb H4 : Hp} {X : Nat} {w : Value} {c : List Int} {f : Int → Option Value} (hw : View hb w c) (y : Keeps ((hb.lay (.row 22 true [w])).lay (.row 3 true [int 0])).next (((hb.lay (.row 22 true [w])).lay (.row 3 true [int 0])).lay (.map [] 0)) H4) (hm : MapAt H4 ((hb.lay (.row 22 true [w])).lay (.row 3 true [int 0])).next encI f 1) (hX : X < hb.next) (hwX : ∀ r, ad w = some r → r < X) : RRI hb (H4.lay (.row 64 true [nilS, nilS, nilS])) (slc hb.next 0 1 1) (slc (hb.lay (.row 22 true [w])).next 0 1 1) nilS nilS ((hb.lay (.row 22 true [w])).lay (.row 3 true [int 0])).next H4.next X [w] [] [c] [] [0] [] f 1 nilS := by
  have e1 : (hb.lay (.row 22 true [w])).next = hb.next + 1 := Hp.next_lay _ _
  have e2 : ((hb.lay (.row 22 true [w])).lay (.row 3 true [int 0])).next = hb.next + 2 := by rw [Hp.next_lay, e1]
  have e3 : (((hb.lay (.row 22 true [w])).lay (.row 3 true [int 0])).lay (.map [] 0)).next = hb.next + 3 := by rw [Hp.next_lay, e2]
  have e4 : H4.next = hb.next + 3 := by rw [y.next, e3]
  have e5 : (H4.lay (.row 64 true [nilS, nilS, nilS])).next = hb.next + 4 := by rw [Hp.next_lay, e4]
  have g3 : Grows hb (((hb.lay (.row 22 true [w])).lay (.row 3 true [int 0])).lay (.map [] 0)) := ((Grows.lay _ _).then_lay _).then_lay _
  have g4 : Grows hb H4 := y.grows g3 (by omega)
  have g5 : Grows hb (H4.lay (.row 64 true [nilS, nilS, nilS])) := g4.then_lay _
  have a1 : (((hb.lay (.row 22 true [w])).lay (.row 3 true [int 0])).lay (.map [] 0)).at hb.next = some (.row 22 true [w]) := Hp.at_lay_old _ (Hp.at_lay_old _ (Hp.at_lay_self _ _))
  have a2 : (((hb.lay (.row 22 true [w])).lay (.row 3 true [int 0])).lay (.map [] 0)).at (hb.lay (.row 22 true [w])).next = some (.row 3 true [int 0]) := Hp.at_lay_old _ (Hp.at_lay_self _ _)
  refine ⟨g5, ⟨rfl, .inr ⟨_, rfl, Nat.le_refl _, true, Hp.at_lay_old _ (y.at_ _ _ (by omega) a1)⟩⟩, (EL.nil _).add (hw.ext g5), ⟨rfl, .inr ⟨_, rfl, by omega, true, Hp.at_lay_old _ (y.at_ _ _ (by omega) a2)⟩⟩, BuiltC.nil, EL.nil _, BuiltC.nil, hm.ext (Grows.lay _ _), Hp.at_lay_self _ _, by omega, by omega, ?_⟩
  have s0 : Rx.Sep hb [] [w] := ⟨fun v h => by simp at h, fun u hu r e => by rw [List.mem_singleton.1 hu] at e; exact hw.ad_lt r e, fun i j v u _ h => by simp at h, fun v h => by simp at h⟩
  have s1 := s0.addR (h' := hb.lay (.row 22 true [w])) (by omega) (v' := slc hb.next 0 1 1) (fun r e => by cases e; omega)
  have s2 := s1.addR (h' := (hb.lay (.row 22 true [w])).lay (.row 3 true [int 0])) (by omega) (v' := slc (hb.lay (.row 22 true [w])).next 0 1 1) (fun r e => by cases e; omega)
  have s3 := s2.addR (h' := (hb.lay (.row 22 true [w])).lay (.row 3 true [int 0])) (by omega) (v' := nilS) (fun r e => by cases e)
  have s4 := s3.addR (h' := (hb.lay (.row 22 true [w])).lay (.row 3 true [int 0])) (by omega) (v' := nilS) (fun r e => by cases e)
  have s5 := s4.addR (h' := H4) (by omega) (v' := slc ((hb.lay (.row 22 true [w])).lay (.row 3 true [int 0])).next 0 0 0) (fun r e => by cases e; omega)
  have s6 := s5.addR (h' := H4.lay (.row 64 true [nilS, nilS, nilS])) (by omega) (v' := slc H4.next 0 0 0) (fun r e => by cases e; omega)
  refine s6.addR' (v' := slc X 0 0 0) (fun r e => by cases e; omega) (fun v hv r e e2 => ?_) (fun u hu r e e2 => ?_)
  · cases e2
    simp at hv
    rcases hv with rfl | rfl | rfl | rfl | rfl <;> cases e <;> omega
  · cases e
    rw [List.mem_singleton.1 hu] at e2
    have := hwX X e2
    omega
section
variable {hb H : Hp} {lv sv nv rv : Value} {M O X : Nat} {us vs : List Value} {L N : List (List Int)} {S row : List Int} {f : Int → Option Value} {m : Nat} {ov : Value}
theorem RRI.r_app {z : Int} {b : Bool} {K : Value → Hp → Prop} (k : RRI hb H lv sv nv rv M O X us vs L N S row f m ov) (hl : row.length ≤ 1000000)
    (q : ∀ rv' H', RRI hb H' lv sv nv rv' M O X us vs L N S (row ++ [z]) f m ov → K rv' H') : AppP E (H.lay (.row 3 b [int z])) 3 1 8 rv (slc H.next 0 1 1) K := by
  have k1 := k.ext (Grows.lay H (.row 3 b [int z]))
  refine AppP.cellsF k1.r k1.gr (elemsC_one (u := int z) rfl) (by omega) (by omega) (by omega) ?_
  intro v' H' hb' hg' hkeep ⟨r', er, hr'⟩
  have x := Kx.builtC k1.r hkeep
  have hv : ∀ r, ad v' = some r → (H.lay (.row 3 b [int z])).next ≤ r ∧ r < H'.next := fun r e => ⟨by rw [er] at e; cases e; exact hr', (hb'.ad_lt r e).2⟩
  have hnx : (H.lay (.row 3 b [int z])).next ≤ H'.next := by have := hv r' (by rw [er]; rfl); omega
  have al := k1.sep.ap 3 0 _ _ (by decide) rfl rfl
  have aS := k1.sep.ap 3 1 _ _ (by decide) rfl rfl
  have an := k1.sep.ap 3 2 _ _ (by decide) rfl rfl
  have aM := k1.sep.ap 3 4 _ _ (by decide) rfl rfl
  have aO := k1.sep.ap 3 5 _ _ (by decide) rfl rfl
  have ae := fun x hx => k1.sep.ape rv (by simp) x hx
  refine q _ _ ⟨hg', k1.l.kx x al, k1.le.kx x (fun w hw => ae w (by simp [hw])), k1.s.kx x aS, k1.n.kx x an, k1.ne.kx x (fun w hw => ae w (by simp [hw])), by rw [List.length_append, List.map_append]; exact hb', map_kx k1.m x aM, ap_at (a := none) x k1.o aO, k.hM, k.hO, k1.sep.move hnx 3 hv⟩
theorem RRI.mapped {H' : Hp} {f' : Int → Option Value} {m' : Nat} (k : RRI hb H lv sv nv rv M O X us vs L N S row f m ov) (y : Keeps M H H') (hm : MapAt H' M encI f' m') : RRI hb H' lv sv nv rv M O X us vs L N S row f' m' ov := by
  have x : Kx (ad (slc M 0 0 0)) H H' := Kx.keeps y
  have ae := fun x hx => k.sep.ape (slc M 0 0 0) (by simp) x hx
  exact ⟨y.grows k.gr k.hM, k.l.kx x (k.sep.ap 4 0 _ _ (by decide) rfl rfl), k.le.kx x (fun w hw => ae w (by simp [hw])), k.s.kx x (k.sep.ap 4 1 _ _ (by decide) rfl rfl), k.n.kx x (k.sep.ap 4 2 _ _ (by decide) rfl rfl), k.ne.kx x (fun w hw => ae w (by simp [hw])), k.r.kx x (k.sep.ap 4 3 _ _ (by decide) rfl rfl), hm, ap_at (a := none) x k.o (k.sep.ap 4 5 _ _ (by decide) rfl rfl), k.hM, k.hO, k.sep.next (by rw [y.next]; exact Nat.le_refl _)⟩
theorem RRI.put (k : RRI hb H lv sv nv rv M O X us vs L N S row f m ov) : storeAt H O 2 [nv] = some (H.set O (.row 64 true [nilS, nilS, nv])) ∧ RRI hb (H.set O (.row 64 true [nilS, nilS, nv])) lv sv nv rv M O X us vs L N S row f m nv := by
  have x : Kx (ad (slc O 0 0 0)) H (H.set O (.row 64 true [nilS, nilS, nv])) := Kx.set _ _ _
  have ae := fun x hx => k.sep.ape (slc O 0 0 0) (by simp) x hx
  have hlt := Hp.lt_of_at k.o
  obtain ⟨an, en, -⟩ := k.n.slice
  refine ⟨storeAt_row k.o (by simp) (by rw [en]; rfl), ⟨k.gr.then_set _ k.hO, k.l.kx x (k.sep.ap 5 0 _ _ (by decide) rfl rfl), k.le.kx x (fun w hw => ae w (by simp [hw])), k.s.kx x (k.sep.ap 5 1 _ _ (by decide) rfl rfl), k.n.kx x (k.sep.ap 5 2 _ _ (by decide) rfl rfl), k.ne.kx x (fun w hw => ae w (by simp [hw])), k.r.kx x (k.sep.ap 5 3 _ _ (by decide) rfl rfl), map_kx k.m x (k.sep.ap 5 4 _ _ (by decide) rfl rfl), Hp.at_set_self _ hlt, k.hM, k.hO, k.sep.next (Nat.le_refl _)⟩⟩
end
end Go.Proofs.Ytpiplaicnbapbaa
namespace Go.Proofs.Ytpiplaicnbapbaa
open Go.Rx Go.RowKit
theorem EL.sl {h0 h : Hp} {e : TypeId} {v : Value} {us : List Value} {L : List (List Int)} (b : BuiltC h0 h e 1 v us.length us) (k : EL h us L) : SL h v L := by
  obtain ⟨hl, hb⟩ := b
  rcases hb with ⟨rfl, h0⟩ | ⟨r, rfl, _, x, hr⟩
  · exact ⟨none, 0, by rw [← k.1, h0], fun j hj => by have := k.1; omega⟩
  · refine ⟨some ⟨r, 0, none⟩, us.length, by rw [← k.1]; rfl, fun j hj => ?_⟩
    have hj' : j < us.length := by have := k.1; omega
    exact ⟨r, 0, none, us[j], rfl, rfl, cellAt_row hr (List.getElem?_eq_getElem hj'), k.2 j _ _ (List.getElem?_eq_getElem hj') (List.getElem?_eq_getElem hj)⟩
theorem SL.kx {h h' : Hp} {r : Nat} {v : Value} {L : List (List Int)} (k : SL h v L) (g : ∀ k o, k ≠ r → h.at k = some o → h'.at k = some o) : True := trivial
end Go.Proofs.Ytpiplaicnbapbaa
