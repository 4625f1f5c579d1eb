/- Contracts of the functions that PWD comes to. -/
import Derived.Test.YtpiplaicnbapbaaPWC
set_option maxRecDepth 100000
set_option maxHeartbeats 2000000
set_option linter.unusedVariables false
set_option linter.unusedSectionVars false
set_option linter.unusedSimpArgs false
namespace Go.Proofs.Ytpiplaicnbapbaa
open Go.Rx Go.RowKit
theorem elemsC_ext {h h' : Hp} {s m : Nat} {x : Value} {new : List Value} (g : Grows h h') (k : ElemsC h s x m new) : ElemsC h' s x m new := by
  obtain ⟨h1, h2, h3, h4⟩ := k
  refine ⟨h1, ?_, h3, h4⟩
  cases x with
  | slice a n c =>
    cases a with
    | none => exact h2
    | some ad =>
      obtain ⟨r, o, sp⟩ := ad
      unfold helems at h2 ⊢
      dsimp only at h2 ⊢
      split at h2
      · exact h2
      · exact g.cells h2
  | _ => exact h2
def C4 (h : Hp) (v : Value) (n : Nat) (l : List Int) : Prop := (∃ a, v = .slice a n n) ∧ ∀ k, k ≤ n → ∃ x, ElemsC h 4 x k ((l.take (k * 4)).map int) ∧ (∀ h', Grows h h' → hcutS h' 4 v none (some (int k)) none = .val x h') ∧ sameV 4 x x = true
theorem C4.ext {h h' : Hp} {v : Value} {n : Nat} {l : List Int} (k : C4 h v n l) (g : Grows h h') : C4 h' v n l :=
  ⟨k.1, fun j hj => let ⟨x, h1, h2, h3⟩ := k.2 j hj; ⟨x, elemsC_ext g h1, fun h2' g2 => h2 h2' (g.trans g2), h3⟩⟩
theorem C4.of {h0 h : Hp} {v : Value} {n : Nat} {l : List Int} (k : BuiltC h0 h 96 4 v n (l.map int)) : C4 h v n l := by
  obtain ⟨hl, hb⟩ := k
  rw [List.length_map] at hl
  have hbd : ∀ j : Nat, BdOf none (some (int j)) n 0 j := fun j => ⟨.inl ⟨rfl, rfl⟩, .inr rfl⟩
  rcases hb with ⟨rfl, rfl⟩ | ⟨r, rfl, -, x, hr⟩
  · refine ⟨⟨_, rfl⟩, fun j hj => ⟨.slice none 0 0, ?_, fun h' _ => ?_, sameV_slice _ _ _⟩⟩
    · have : j = 0 := by omega
      subst this
      exact ⟨rfl, rfl, rfl, rfl⟩
    · have : j = 0 := by omega
      subst this
      unfold hcutS
      dsimp only
      rw [bounds_of (len := 0) (i := 0) (j := 0) ⟨.inl ⟨rfl, rfl⟩, .inr rfl⟩ (by omega) (by omega) (Nat.le_refl _)]
      rfl
  · refine ⟨⟨_, rfl⟩, fun k hk => ?_⟩
    have hlen : ((l.take (k * 4)).map int).length = k * 4 := by rw [List.length_map, List.length_take]; omega
    have el : ∀ x, x = slc r 0 k n ∨ x = void ∧ k = 0 → ElemsC h 4 x k ((l.take (k * 4)).map int) := by
      rintro x (rfl | ⟨rfl, rfl⟩)
      · refine ⟨rfl, ?_, hlen, ints_one _⟩
        show cellsAt h r 0 (k * 4) = _
        rw [cellsAt_row hr (by rw [List.length_map]; omega), List.drop_zero, List.map_take]
      · exact ⟨rfl, rfl, by simp, by simp⟩
    have shape : ∀ h', Grows h h' → hcutS h' 4 (slc r 0 n n) none (some (int k)) none = hcutObj h' 4 r 0 true (some (0, k, n)) (some (.row 96 x (l.map int))) := by
      intro h' g
      unfold hcutS
      dsimp only [slc]
      rw [bounds_of (hbd k) (by omega) hk (Nat.le_refl _)]
      show hcutObj h' 4 r 0 true (some (0, k, n)) (h'.at r) = _
      rw [g.at_ _ _ hr]
    have opened : ∃ y, (y = slc r 0 k n ∨ y = void ∧ k = 0) ∧ ∀ h', hcutObj h' 4 r 0 true (some (0, k, n)) (some (.row 96 x (l.map int))) = .val y h' := by
      cases x with
      | true =>
        refine ⟨slc r 0 k n, .inl rfl, fun h' => ?_⟩
        have e0 : cutTo 4 0 0 n = 0 := by
          unfold cutTo
          cases Nat.beq n 0 <;> rfl
        unfold hcutObj cutExact
        dsimp only
        rw [e0]
        rfl
      | false =>
        show ∃ y, (y = slc r 0 k n ∨ y = void ∧ k = 0) ∧ ∀ h', lift (cutOf D0 4 r 0 true (some (0, k, n))) h' = .val y h'
        unfold cutOf cutOpen
        dsimp only
        cases hble : Nat.ble (Nat.succ 0) n with
        | true => exact ⟨_, .inl rfl, fun h' => rfl⟩
        | false =>
          have hn : ¬ 1 ≤ n := fun hle => by rw [Nat.ble_eq_true_of_le hle] at hble; cases hble
          unfold cutAll
          have e1 : Nat.sub k 0 = 0 := by show k - 0 = 0; omega
          have e2 : Nat.sub n 0 = 0 := by show n - 0 = 0; omega
          rw [e1, e2]
          exact ⟨_, .inr ⟨rfl, by omega⟩, fun h' => rfl⟩
    obtain ⟨y, hy, hy2⟩ := opened
    refine ⟨y, el y hy, fun h' g => by rw [shape h' g, hy2 h'], ?_⟩
    rcases hy with rfl | ⟨rfl, _⟩ <;> exact sameV_slice _ _ _
def PX (h : Hp) (v : Value) (p : Prot) : Prop := ∃ vo vs vr, v = pval p.n vo vs vr ∧ View h vo p.out ∧ View h vs p.start ∧ C4 h vr p.rules.length (flat4 p.rules)
theorem PX.of {h : Hp} {v : Value} {p : Prot} (k : PV h v p) : PX h v p := by
  obtain ⟨a, b, c, e, h1, h2, h3⟩ := k
  exact ⟨a, b, c, e, h1.view, h2.view, C4.of h3⟩
theorem PX.ext {h h' : Hp} {v : Value} {p : Prot} (g : Grows h h') (k : PX h v p) : PX h' v p := by
  obtain ⟨a, b, c, e, h1, h2, h3⟩ := k
  exact ⟨a, b, c, e, h1.ext g, h2.ext g, h3.ext g⟩
theorem nodup_sub : ∀ {l m : List (List Int)}, l.Nodup → (∀ x ∈ l, x ∈ m) → l.length ≤ m.length
  | [], m, _, _ => Nat.zero_le _
  | x :: l, m, hn, hs => by
    have hc := List.nodup_cons.1 hn
    have hx : x ∈ m := hs x (by simp)
    have h1 := nodup_sub (l := l) (m := m.erase x) hc.2 (fun y hy => by
      have hne : y ≠ x := fun e => hc.1 (e ▸ hy)
      exact (List.mem_erase_of_ne hne).2 (hs y (by simp [hy])))
    rw [List.length_erase_of_mem hx] at h1
    have := List.length_pos_of_mem hx
    simp only [List.length_cons]
    omega
theorem Gr.len_uniq {R : List Q4} {c : List Int} {L L' : List (List Int)} (g : Gr R c L) (g' : Gr R c L') : L.length = L'.length :=
  Nat.le_antisymm (nodup_sub g.nodup fun x hx => g'.mem.2 (g.mem.1 hx)) (nodup_sub g'.nodup fun x hx => g.mem.2 (g'.mem.1 hx))
theorem pr_bind {α β : Type} {P : Program} : ∀ (x : Sem α) (f : α → Sem β), pureRun P (x >>= f) = match pureRun P x with | some v => pureRun P (f v) | none => none := by
  intro x f
  show pureRun P (x.bind f) = _
  induction x with
  | pure a => rfl
  | program k ih => exact ih P
  | _ => rfl
end Go.Proofs.Ytpiplaicnbapbaa
namespace Go.Proofs.Ytpiplaicnbapbaa
open Go.Rx Go.RowKit
theorem finP_two {φ : Rx.Frame} {h : Hp} {a b : Nat} {x y : Value} {Q : Value → Hp → Prop} (ha : φ a = x) (hb : φ b = y) (ux : isUndef x = false) (uy : isUndef y = false) (q : Q (.tuple ⟨[x, y]⟩) h) : finP E [.tmp a, .tmp b] ⟨φ, h, []⟩ Q := by
  unfold finP
  dsimp only
  rw [show takeMarksφ [] h = some h from rfl]
  dsimp only
  rw [show resultsφ E φ h [.tmp a, .tmp b] = some [x, y] from by simp only [resultsφ, resultφ, ha, hb, ux, uy]]
  exact q
attribute [local irreducible] E idxN cellAt cellsAt storeAt callable helems hmoved lookIn findKey keyOk hentries Hp.at Hp.set Hp.lay arBits hupdated setAt CallP YieldP BoolOf IsWrap Rnd LoopP AppP CutP Int.tmod Int.tdiv Int.fdiv
section
variable [Unknowns]
attribute [local irreducible] ResP sameAt finP
theorem Reached_ok (v w : Value) (p : Prot) (n : Nat) (c : List Int) (h : Hp) (hv : PV h v p) (hw : View h w c) (hP : POk p) (en : p.n = n) (hc : CrOk n c) : CallP E 30 [v, w] h (fun r h' => (∃ L, r = .tuple ⟨[int (L.length : Nat), int 0]⟩ ∧ Gr p.rules c L ∧ L.length ≤ 100000) ∧ Grows h h') := by
  obtain ⟨bx, rfl, hbl, -⟩ := hv.box
  obtain ⟨ac, cc, rfl⟩ := hw.known
  have hol := hP.outl
  have hn5 := hP.n5
  have hn1 := hP.n1
  have hst2 := hP.st2
  have hrl := hP.rl
  have hcl := hc.len
  have hC : Cnt c p.n := by rw [en]; exact hc.cnt
  have hp5 := pad5_len (c := c) (by omega)
  have g0 : Grows h (h.lay (.row 25 true bx)) := Grows.lay _ _
  have a0 : (h.lay (.row 25 true bx)).at h.next = some (.row 25 true bx) := Hp.at_lay_self _ _
  refine enter30 (by simp) ?_
  conv => whnf
  refine SeqP.go ?_
  conv => whnf
  refine SeqP.cut (α := Nat × Hp) (fun s => [(7, int 0), (6, ptr s.1 0), (2, ptr h.next 0)]) (fun s H => s.2 = H ∧ Grows h s.2 ∧ s.2.at h.next = some (.row 25 true bx) ∧ s.2.at s.1 = some (.row 107 true ((pad5 c).map int))) ?_ ?_
  · conv => whnf
    refine ⟨bx, all_cells a0 hbl, ?_⟩
    conv => whnf
    refine CallP.mono (read_spec _ _ p c _ (hv.ext g0) (hw.ext g0) (by unfold InR; omega) (by omega) (by omega) (by omega) (by omega)) ?_
    rintro r h1 ⟨⟨l, e, rfl, hl, e1, e2, e3⟩, g1⟩
    obtain ⟨rfl, rfl⟩ := e3 hP hC
    unfold cv
    conv => whnf
    refine ⟨by show ((pad5 c).map int).length = 5; rw [List.length_map, hl], _, storeAt_all (vs := (pad5 c).map int) (by rw [List.length_map, hl]; rfl) (ints_one _) (over_int (k := [0, 0, 0, 0, 0]) (by rw [hl]; rfl)), ?_⟩
    conv => whnf
    exact ⟨(h1.next, _), ⟨rfl, rfl, rfl, trivial⟩, ⟨rfl, (g0.trans g1).then_lay _, Hp.at_lay_old _ (g1.at_ _ _ a0), Hp.at_lay_self _ _⟩, rfl⟩
  rintro ⟨X, H1⟩ φ1 _ ⟨rfl, g1, b1, d1⟩
  dsimp only at g1 b1 d1 ⊢
  conv => whnf
  refine SeqP.cut (α := Unit) (fun s => [(6, ptr X 0), (2, ptr h.next 0)]) (fun s H => H1 = H) ?_ ?_
  · conv => whnf
    repeat (refine SeqP.go ?_; conv => whnf)
    refine cmpF (by omega) ?_
    conv => whnf
    repeat (refine SeqP.go ?_; conv => whnf)
    exact ⟨(), ⟨rfl, rfl, trivial⟩, rfl, rfl⟩
  rintro _ φ2 _ rfl
  have hvH := hv.ext g1
  conv => whnf
  repeat (refine SeqP.go ?_; conv => whnf)
  refine ⟨bx, all_cells b1 hbl, ?_⟩
  conv => whnf
  refine ⟨(pad5 c).map int, all_cells d1 (by rw [List.length_map, hp5]), ?_⟩
  conv => whnf
  refine CallP.mono (PReached_ok _ p n c _ hvH hP en hc) ?_
  rintro r2 H2 ⟨⟨bq, L, B, rfl, hx⟩, g2⟩
  obtain ⟨q1, q2, ⟨lv, q3, q4⟩, ⟨wv, q5, q6⟩, q7, q8, q9, q10⟩ := hx
  obtain ⟨la, lc, rfl, -⟩ := q4
  obtain ⟨wa, wc, rfl, -⟩ := q6
  match bq, q1, q3, q5 with
  | [_, _], _, q3, q5 =>
  cases q3
  cases q5
  conv => whnf
  repeat (refine SeqP.go ?_; conv => whnf)
  exact finP_two rfl rfl rfl rfl ⟨⟨L, rfl, q8, q10⟩, g1.trans g2⟩
end
end Go.Proofs.Ytpiplaicnbapbaa
namespace Go.Proofs.Ytpiplaicnbapbaa
open Go.Rx Go.RowKit
theorem storeAt_off {H : Hp} {r e : Nat} {x : Bool} {cs : List Value} {v : Value} {i : Nat} (hr : H.at r = some (.row e x cs)) (hi : i < cs.length) (h1 : oneCell v = true) : storeAt H r (offAt 0 i 1) [v] = some (H.set r (.row e x (cs.set i v))) := by
  rw [offAt_eq, Nat.zero_add, Nat.mul_one]
  exact storeAt_row hr hi h1
end Go.Proofs.Ytpiplaicnbapbaa
namespace Go.Proofs.Ytpiplaicnbapbaa
open Go.Rx Go.RowKit
theorem ty147 : ∃ i, E.ty 147 = some i ∧ i.desc = .map 107 4 := by
  have hs : (tiOf Try.prog 147).isSome = true := by kernel_rfl
  refine ⟨(tiOf Try.prog 147).get hs, ty_get (by kernel_rfl) (Option.some_get hs).symm, ?_⟩
  kernel_rfl
theorem ty4 : ∃ i, E.ty 4 = some i ∧ i.zero = some (.bool false) := by
  have hs : (tiOf Try.prog 4).isSome = true := by kernel_rfl
  refine ⟨(tiOf Try.prog 4).get hs, ty_get (by kernel_rfl) (Option.some_get hs).symm, ?_⟩
  kernel_rfl
theorem arr5_eql (x y : Operand) (k k' : K5) : aBin E .eql 107 x y (enc5 k) (enc5 k') = some (.bool (decide (k = k'))) := by
  have he : pureRun Try.prog (Op.equal 107 (enc5 k) (enc5 k')) = some (decide (k = k')) := key5_eq k k'
  show binData E .eql 107 x y (enc5 k) (enc5 k') = _
  unfold binData
  have hg : pureRun E.prog (eqGuard .eql 107 x y (enc5 k) (enc5 k')) = some () := by kernel_rfl
  rw [pr_bind, hg]
  dsimp only
  have hb : Go.binOp .eql 107 (enc5 k) (enc5 k') = (do let r ← Op.equal 107 (enc5 k) (enc5 k'); pure (.bool r)) := rfl
  have he' : pureRun E.prog (Op.equal 107 (enc5 k) (enc5 k')) = some (decide (k = k')) := he
  rw [hb, pr_bind, he']
  rfl
structure Sp where
  d : List Int
  b : Int
  r : Int
def sp7 (x : Sp) : List Value := (pad5 x.d).map int ++ [int x.b, int x.r]
def flat7 : List Sp → List Value
  | [] => []
  | x :: T => sp7 x ++ flat7 T
theorem sp7_len {x : Sp} (h : x.d.length ≤ 5) : (sp7 x).length = 7 := by unfold sp7; rw [List.length_append, List.length_map, pad5_len h]; rfl
theorem sp7_one (x : Sp) : (sp7 x).all oneCell = true := by
  unfold sp7
  rw [List.all_append, ints_one]
  rfl
theorem flat7_app : ∀ (T U : List Sp), flat7 (T ++ U) = flat7 T ++ flat7 U
  | [], U => rfl
  | x :: T, U => by show sp7 x ++ flat7 (T ++ U) = _; rw [flat7_app T U, ← List.append_assoc]; rfl
theorem flat7_len : ∀ (T : List Sp), (∀ x ∈ T, x.d.length ≤ 5) → (flat7 T).length = T.length * 7
  | [], _ => rfl
  | x :: T, h => by
    show (sp7 x ++ flat7 T).length = _
    rw [List.length_append, sp7_len (h x (by simp)), flat7_len T fun y hy => h y (by simp [hy]), List.length_cons]
    omega
theorem flat7_drop : ∀ (T : List Sp) (k : Nat) (x : Sp), T[k]? = some x → (∀ y ∈ T, y.d.length ≤ 5) → ((flat7 T).drop (k * 7)).take 7 = sp7 x
  | [], k, x, h, _ => by simp at h
  | y :: T, 0, x, h, hd => by
    cases h
    show ((sp7 y ++ flat7 T).drop (0 * 7)).take 7 = sp7 y
    rw [Nat.zero_mul, List.drop_zero, ← sp7_len (hd y (by simp)), List.take_left]
  | y :: T, k + 1, x, h, hd => by
    show ((sp7 y ++ flat7 T).drop ((k + 1) * 7)).take 7 = sp7 x
    have hl := sp7_len (hd y (by simp))
    rw [List.drop_append, hl, List.drop_eq_nil_of_le (by omega), List.nil_append, show (k + 1) * 7 - 7 = k * 7 by omega]
    exact flat7_drop T k x (by simpa using h) fun z hz => hd z (by simp [hz])
theorem St.turn2 {R : List Q4} {c : List Int} {L : List (List Int)} {S : List Int} {i : Nat} (s : St R c L S i) (hi : i < L.length) {d : List Int} (hd : L[i]? = some d) (h : ∀ k e, step R d k = some e → e ∈ L) : St R c L S (i + 1) :=
  ⟨s.len, s.way, s.start_, s.le, s.mono, fun a b ha => s.near a b (by omega), fun a x ha hx k e hs => by
    by_cases e2 : a = i
    · subst e2
      rw [hd] at hx
      cases hx
      obtain ⟨b, h1⟩ := List.getElem?_of_mem (h k e hs)
      have hb := (List.getElem?_eq_some_iff.1 h1).1
      exact ⟨b, h1, s.near a b (Nat.le_refl _) (by have := s.len; omega) (by have := s.len; omega)⟩
    · exact s.clo a x (by omega) hx k e hs⟩
theorem St.short {R : List Q4} {c : List Int} {L : List (List Int)} {S : List Int} {i : Nat} (s : St R c L S i) (hf : L[0]? = some c) (hi : i < L.length) {k : Nat} {d : List Int} (w : Wy R k c d) : (k : Int) < gl S i → ∃ b, L[b]? = some d ∧ gl S b ≤ k := by
  induction w with
  | refl => exact fun _ => ⟨0, hf, by rw [s.start_]; exact Int.le_refl _⟩
  | @tail k c d e j hw hs ih =>
    intro hk
    obtain ⟨a, h1, h2⟩ := ih s hf (by omega)
    have ha := (List.getElem?_eq_some_iff.1 h1).1
    have hai : a < i := by
      refine Classical.byContradiction fun hn => ?_
      have := s.mono i a (by omega) (by have := s.len; omega)
      omega
    obtain ⟨b, h3, h4⟩ := s.clo a d hai h1 j e hs
    exact ⟨b, h3, by omega⟩
theorem St.least_at {R : List Q4} {c : List Int} {L : List (List Int)} {S : List Int} {i : Nat} (s : St R c L S i) (hf : L[0]? = some c) (hn : L.Nodup) {k : Nat} {d : List Int} (hd : L[i]? = some d) (w : Wy R k c d) : gl S i ≤ k := by
  have hi := (List.getElem?_eq_some_iff.1 hd).1
  refine Classical.byContradiction fun hlt => ?_
  obtain ⟨b, h1, h2⟩ := s.short hf hi w (by omega)
  have hb := (List.getElem?_eq_some_iff.1 h1).1
  have : b = i := (List.getElem?_inj hb hn).1 (h1.trans hd.symm)
  subst this
  exact hlt h2
theorem wy_of_do {R : List Q4} : ∀ {W : List Int} {k : Nat} {c d e : List Int}, Wy R k c d → doW R d W = (e, W.length) → Wy R (k + W.length) c e
  | [], k, c, d, e, h, hw => by
    have : doW R d [] = (d, 0) := rfl
    rw [this] at hw
    cases hw
    exact h
  | i :: W, k, c, d, e, h, hw => by
    cases hs : step R d i with
    | none =>
      rw [doW_none hs] at hw
      have := congrArg Prod.snd hw
      simp at this
    | some d' =>
      rw [doW_some hs] at hw
      have h1 : (doW R d' W).1 = e := congrArg Prod.fst hw
      have h2 : (doW R d' W).2 + 1 = (i :: W).length := congrArg Prod.snd hw
      have h3 : doW R d' W = (e, W.length) := Prod.ext h1 (by simpa using h2)
      have := wy_of_do (h.tail hs) h3
      rw [show k + (i :: W).length = k + 1 + W.length by simp; omega]
      exact this
structure Ws (R : List Q4) (n : Nat) (c : List Int) (T : List Sp) (S : List Int) (i : Nat) : Prop where
  g : Gp R n c (T.map Sp.d) i
  s : St R c (T.map Sp.d) S i
  par : ∀ (a : Nat) (x : Sp), T[a]? = some x → (a = 0 ∧ x.b = -1) ∨ ∃ (b : Nat) (y : Sp), x.b = (b : Int) ∧ b < a ∧ T[b]? = some y ∧ step R y.d x.r = some x.d ∧ gl S a = gl S b + 1
theorem Ws.start {R : List Q4} {n : Nat} {c : List Int} (hc : CrOk n c) : Ws R n c [⟨c, -1, -1⟩] [0] 0 :=
  ⟨Gp.start hc, St.start, fun a x h => by
    have ha := (List.getElem?_eq_some_iff.1 h).1
    simp at ha
    subst ha
    cases h
    exact .inl ⟨rfl, rfl⟩⟩
theorem Ws.add {R : List Q4} {n : Nat} {c : List Int} {T : List Sp} {S : List Int} {i : Nat} (w : Ws R n c T S i) (hR : ∀ x ∈ R, QIn n x) {y : Sp} (hy : T[i]? = some y) {e : List Int} {x : Int} (hs : step R y.d x = some e) (hn : e ∉ T.map Sp.d) : Ws R n c (T ++ [⟨e, i, x⟩]) (S ++ [gl S i + 1]) i := by
  have hi := (List.getElem?_eq_some_iff.1 hy).1
  have hd : (T.map Sp.d)[i]? = some y.d := by rw [List.getElem?_map, hy]; rfl
  have hl := w.s.len
  rw [List.length_map] at hl
  refine ⟨?_, ?_, fun a z ha => ?_⟩
  · rw [List.map_append]
    exact w.g.add (by rw [List.length_map]; omega) hR (List.mem_of_getElem? hd) hs hn
  · rw [List.map_append]
    exact w.s.add (by rw [List.length_map]; omega) hd hs
  · by_cases hlt : a < T.length
    · rw [List.getElem?_append_left hlt] at ha
      rcases w.par a z ha with h1 | ⟨b, y', h1, h2, h3, h4, h5⟩
      · exact .inl h1
      · exact .inr ⟨b, y', h1, h2, getE_snoc h3, h4, by rw [gl_old (by omega), gl_old (by omega)]; exact h5⟩
    · have h1 := (List.getElem?_eq_some_iff.1 ha).1
      rw [List.length_append, List.length_singleton] at h1
      have : a = S.length := by omega
      subst this
      rw [hl, List.getElem?_append_right (Nat.le_refl _)] at ha
      simp at ha
      subst ha
      exact .inr ⟨i, y, rfl, by omega, getE_snoc hy, hs, by rw [gl_last, gl_old (by omega)]⟩
structure Seen (L : List (List Int)) (f : K5 → Option Value) : Prop where
  has : ∀ d ∈ L, f (kk d) = some (.bool true)
  only : ∀ k v, f k = some v → ∃ d ∈ L, k = kk d
theorem Seen.add {L : List (List Int)} {f : K5 → Option Value} (s : Seen L f) (d : List Int) : Seen (L ++ [d]) (fun k => if k = kk d then some (.bool true) else f k) := by
  refine ⟨fun x hx => ?_, fun k v h => ?_⟩
  · rcases List.mem_append.1 hx with hx | hx
    · by_cases e : kk x = kk d
      · rw [if_pos e]
      · rw [if_neg e]; exact s.has x hx
    · rw [List.mem_singleton.1 hx, if_pos rfl]
  · by_cases e : k = kk d
    · exact ⟨d, by simp, e⟩
    · rw [if_neg e] at h
      obtain ⟨x, hx, e2⟩ := s.only k v h
      exact ⟨x, by simp [hx], e2⟩
end Go.Proofs.Ytpiplaicnbapbaa
namespace Go.Proofs.Ytpiplaicnbapbaa
open Go.Rx Go.RowKit
structure RWM (h H : Hp) (P T5 A8 A9 M : Nat) (bp : List Value) (to5 : List Int) (tv : Value) (T : List Sp) (f : K5 → Option Value) (m : Nat) (ov : Value) (es : List Nat) : Prop where
  gr : Grows h H
  p : H.at P = some (.row 25 true bp)
  t5 : H.at T5 = some (.row 107 true (to5.map int))
  a8 : H.at A8 = some (.row 147 true [mapAt M])
  a9 : H.at A9 = some (.row 150 true [ov])
  m : MapAt H M enc5 f m
  t : BuiltC h H 149 7 tv T.length (flat7 T)
  h9 : h.next ≤ A9
  hM : h.next ≤ M
  sep : Rx.Sep H (pl P :: pl T5 :: pl A8 :: pl A9 :: pl M :: tv :: []) (es.map pl)
section
variable {h H H' : Hp} {P T5 A8 A9 M : Nat} {bp : List Value} {to5 : List Int} {tv : Value} {T : List Sp} {f : K5 → Option Value} {m : Nat} {ov : Value} {es : List Nat}
theorem RWM.ext (k : RWM h H P T5 A8 A9 M bp to5 tv T f m ov es) (g : Grows H H') : RWM h H' P T5 A8 A9 M bp to5 tv T f m ov es :=
  ⟨k.gr.trans g, g.at_ _ _ k.p, g.at_ _ _ k.t5, g.at_ _ _ k.a8, g.at_ _ _ k.a9, k.m.ext g, k.t.ext g, k.h9, k.hM, k.sep.ext g⟩
theorem RWM.more (k : RWM h H P T5 A8 A9 M bp to5 tv T f m ov es) (g : Grows H H') (ds : List Nat) (hd : ∀ d ∈ ds, H.next ≤ d ∧ d < H'.next) : RWM h H' P T5 A8 A9 M bp to5 tv T f m ov (ds ++ es) := by
  refine { k.ext g with sep := ?_ }
  have s := k.sep
  refine ⟨(k.ext g).sep.oldr, fun u hu r e => ?_, s.ap, fun v hv u hu => ?_⟩
  · rw [List.map_append] at hu
    rcases List.mem_append.1 hu with hu | hu
    · obtain ⟨d, h1, rfl⟩ := List.mem_map.1 hu
      cases e
      exact (hd _ h1).2
    · exact (k.ext g).sep.olde u hu r e
  · rw [List.map_append] at hu
    rcases List.mem_append.1 hu with hu | hu
    · obtain ⟨d, h1, rfl⟩ := List.mem_map.1 hu
      intro r e1 e2
      cases e2
      have := s.oldr v hv _ e1
      have := hd _ h1
      omega
    · exact s.ape v hv u hu
theorem RWM.less (k : RWM h H P T5 A8 A9 M bp to5 tv T f m ov es) {es' : List Nat} (s : ∀ d ∈ es', d ∈ es) : RWM h H P T5 A8 A9 M bp to5 tv T f m ov es' := by
  refine { k with sep := k.sep.sub fun u hu => ?_ }
  obtain ⟨d, h1, rfl⟩ := List.mem_map.1 hu
  exact List.mem_map.2 ⟨d, s d h1, rfl⟩
theorem RWM.ke (k : RWM h H P T5 A8 A9 M bp to5 tv T f m ov es) {v : Value} (hv : v ∈ (pl P :: pl T5 :: pl A8 :: pl A9 :: pl M :: tv :: [])) (x : Kx (ad v) H H') : KE es H H' :=
  KE.kx x fun d hd e => k.sep.ape v hv (pl d) (List.mem_map.2 ⟨d, hd, rfl⟩) d e rfl
theorem RWM.other (k : RWM h H P T5 A8 A9 M bp to5 tv T f m ov es) {d : Nat} (hd : d ∈ es) (x : Kx (some d) H H') (g : Grows h H') (hn : H.next ≤ H'.next) : RWM h H' P T5 A8 A9 M bp to5 tv T f m ov es := by
  have x : Kx (ad (pl d)) H H' := x
  have a : ∀ v ∈ (pl P :: pl T5 :: pl A8 :: pl A9 :: pl M :: tv :: []), Ap (pl d) v := fun v hv => (k.sep.ape v hv (pl d) (List.mem_map.2 ⟨d, hd, rfl⟩)).symm
  exact ⟨g, ap_at (a := none) x k.p (a _ (by simp)), ap_at (a := none) x k.t5 (a _ (by simp)), ap_at (a := none) x k.a8 (a _ (by simp)), ap_at (a := none) x k.a9 (a _ (by simp)), map_kx5 k.m x (a _ (by simp)), k.t.kx x (a _ (by simp)), k.h9, k.hM, k.sep.next hn⟩
theorem RWM.mapped {f' : K5 → Option Value} {m' : Nat} (k : RWM h H P T5 A8 A9 M bp to5 tv T f m ov es) (y : Keeps M H H') (hm : MapAt H' M enc5 f' m') : RWM h H' P T5 A8 A9 M bp to5 tv T f' m' ov es := by
  have x : Kx (ad (pl M)) H H' := Kx.keeps y
  have a := fun j v hj hv => k.sep.ap 4 j (pl M) v hj rfl hv
  exact ⟨y.grows k.gr k.hM, ap_at (a := none) x k.p (a 0 _ (by decide) rfl), ap_at (a := none) x k.t5 (a 1 _ (by decide) rfl), ap_at (a := none) x k.a8 (a 2 _ (by decide) rfl), ap_at (a := none) x k.a9 (a 3 _ (by decide) rfl), hm, k.t.kx x (a 5 _ (by decide) rfl), k.h9, k.hM, k.sep.next (by rw [y.next]; exact Nat.le_refl _)⟩
theorem RWM.put (k : RWM h H P T5 A8 A9 M bp to5 tv T f m ov es) (ov' : Value) : RWM h (H.set A9 (.row 150 true [ov'])) P T5 A8 A9 M bp to5 tv T f m ov' es := by
  have x : Kx (ad (pl A9)) H (H.set A9 (.row 150 true [ov'])) := Kx.set _ _ _
  have a := fun j v hj hv => k.sep.ap 3 j (pl A9) v hj rfl hv
  exact ⟨k.gr.then_set _ k.h9, ap_at (a := none) x k.p (a 0 _ (by decide) rfl), ap_at (a := none) x k.t5 (a 1 _ (by decide) rfl), ap_at (a := none) x k.a8 (a 2 _ (by decide) rfl), Hp.at_set_self _ (Hp.lt_of_at k.a9), map_kx5 k.m x (a 4 _ (by decide) rfl), k.t.kx x (a 5 _ (by decide) rfl), k.h9, k.hM, k.sep.next (Nat.le_refl _)⟩
theorem RWM.t_app {z : Sp} {new : List Value} {b : Bool} {K : Value → Hp → Prop} (k : RWM h H P T5 A8 A9 M bp to5 tv T f m ov es) (hd : z.d.length ≤ 5) (hl : T.length ≤ 1000000) (ep : sp7 z = new)
    (q : ∀ tv' H', RWM h H' P T5 A8 A9 M bp to5 tv' (T ++ [z]) f m ov es → KE es H H' → K tv' H') : AppP E (H.lay (.row 149 b new)) 149 7 56 tv (slc H.next 0 1 1) K := by
  subst ep
  have k1 := k.ext (Grows.lay H (.row 149 b (sp7 z)))
  have hp := sp7_len hd
  refine AppP.cellsF k1.t k1.gr (m := 1) (new := sp7 z) ⟨rfl, ?_, by rw [hp], sp7_one z⟩ (by omega) (by omega) (by omega) ?_
  · show cellsAt (H.lay (.row 149 b (sp7 z))) H.next 0 (1 * 7) = _
    exact all_cells (Hp.at_lay_self _ _) hp
  intro v' H' hb' hg' hkeep ⟨r', er, hr'⟩
  have x := Kx.builtC k1.t hkeep
  have hv : ∀ r, ad v' = some r → (H.lay (.row 149 b (sp7 z))).next ≤ r ∧ r < H'.next := fun r e => ⟨by rw [er] at e; cases e; exact hr', (hb'.ad_lt r e).2⟩
  have hnx : (H.lay (.row 149 b (sp7 z))).next ≤ H'.next := by have := hv r' (by rw [er]; rfl); omega
  have a := fun j v hj hv => k1.sep.ap 5 j tv v hj rfl hv
  refine q _ _ ⟨hg', ap_at (a := none) x k1.p (a 0 _ (by decide) rfl), ap_at (a := none) x k1.t5 (a 1 _ (by decide) rfl), ap_at (a := none) x k1.a8 (a 2 _ (by decide) rfl), ap_at (a := none) x k1.a9 (a 3 _ (by decide) rfl), map_kx5 k1.m x (a 4 _ (by decide) rfl), ?_, k.h9, k.hM, k1.sep.move hnx 5 hv⟩ ((KE.grows (Grows.lay _ _)).trans (k1.ke (by simp) x))
  rw [List.length_append, flat7_app]
  show BuiltC _ _ _ _ _ _ (flat7 T ++ (sp7 z ++ []))
  rw [List.append_nil]
  exact hb'
end
theorem sp_cells {h0 h : Hp} {v : Value} {T : List Sp} (k : BuiltC h0 h 149 7 v T.length (flat7 T)) (hd : ∀ x ∈ T, x.d.length ≤ 5) {i : Nat} {x : Sp} (hi : T[i]? = some x) : ∃ rc, v = slc rc 0 T.length T.length ∧ cellsAt h rc (offAt 0 i 7) 5 = some ((pad5 x.d).map int) ∧ cellAt h rc (offAt 0 i 7 + 5) = some (int x.b) ∧ cellAt h rc (offAt 0 i 7 + 6) = some (int x.r) := by
  have hil := (List.getElem?_eq_some_iff.1 hi).1
  have hll := flat7_len T hd
  have h7 := flat7_drop T i x hi hd
  have h5 := pad5_len (hd x (List.mem_of_getElem? hi))
  have h5' : ((pad5 x.d).map int).length = 5 := by rw [List.length_map, h5]
  obtain ⟨hl, ⟨rfl, e1⟩ | ⟨r, rfl, h2, y, hr⟩⟩ := k
  · omega
  · have get : ∀ j, j < 7 → (flat7 T)[i * 7 + j]? = (sp7 x)[j]? := fun j hj => by
      rw [← h7, List.getElem?_take, if_pos hj, List.getElem?_drop]
    refine ⟨r, rfl, ?_, ?_, ?_⟩
    · rw [offAt_eq, Nat.zero_add, cellsAt_row hr (by omega)]
      have e5 : ((flat7 T).drop (i * 7)).take 5 = (((flat7 T).drop (i * 7)).take 7).take 5 := by rw [List.take_take]; rfl
      rw [e5, h7]
      unfold sp7
      rw [← h5', List.take_left]
    · rw [offAt_eq, Nat.zero_add]
      refine cellAt_row hr ?_
      rw [get 5 (by omega)]
      unfold sp7
      rw [List.getElem?_append_right (by omega), h5']
      rfl
    · rw [offAt_eq, Nat.zero_add]
      refine cellAt_row hr ?_
      rw [get 6 (by omega)]
      unfold sp7
      rw [List.getElem?_append_right (by omega), h5']
      rfl
def rvs (l : List Int) (i : Nat) : List Int := (List.range l.length).map fun k => if k < i ∨ l.length - 1 - i < k then gl l (l.length - 1 - k) else gl l k
theorem rvs_len (l : List Int) (i : Nat) : (rvs l i).length = l.length := by unfold rvs; rw [List.length_map, List.length_range]
theorem rvs_get {l : List Int} {i k : Nat} (h : k < l.length) : (rvs l i)[k]? = some (if k < i ∨ l.length - 1 - i < k then gl l (l.length - 1 - k) else gl l k) := by
  unfold rvs
  rw [List.getElem?_map, List.getElem?_range h]
  rfl
theorem rvs_zero (l : List Int) : rvs l 0 = l := by
  apply List.ext_getElem?
  intro k
  by_cases hk : k < l.length
  · rw [rvs_get hk, if_neg (by omega), List.getElem?_eq_getElem hk, gl_at hk]
  · rw [List.getElem?_eq_none (by rw [rvs_len]; omega), List.getElem?_eq_none (by omega)]
theorem rvs_done {l : List Int} {i : Nat} (h : l.length ≤ 2 * i + 1) (hi : i ≤ l.length) : rvs l i = l.reverse := by
  apply List.ext_getElem?
  intro k
  by_cases hk : k < l.length
  · have hr : k < l.reverse.length := by rw [List.length_reverse]; exact hk
    rw [rvs_get hk, List.getElem?_eq_getElem hr, List.getElem_reverse]
    by_cases hc : k < i ∨ l.length - 1 - i < k
    · rw [if_pos hc, gl_at (by omega)]
    · have : k = l.length - 1 - k := by omega
      rw [if_neg hc]
      congr 1
      have e : gl l k = gl l (l.length - 1 - k) := by rw [← this]
      rw [e, gl_at (by omega)]
  · rw [List.getElem?_eq_none (by rw [rvs_len]; omega), List.getElem?_eq_none (by rw [List.length_reverse]; omega)]
theorem rvs_next {l : List Int} {i : Nat} (h : 2 * i + 1 < l.length) : ((rvs l i).set i (gl l (l.length - 1 - i))).set (l.length - 1 - i) (gl l i) = rvs l (i + 1) := by
  apply List.ext_getElem?
  intro k
  by_cases hk : k < l.length
  · rw [rvs_get hk, List.getElem?_set, List.getElem?_set, List.length_set, rvs_len]
    by_cases e1 : l.length - 1 - i = k
    · subst e1
      rw [if_pos rfl, if_pos hk, if_pos (by omega)]
      congr 2
      omega
    · rw [if_neg e1]
      by_cases e2 : i = k
      · subst e2
        rw [if_pos rfl, if_pos hk, if_pos (by omega)]
      · rw [if_neg e2, rvs_get hk]
        congr 1
        by_cases h1 : k < i ∨ l.length - 1 - i < k
        · rw [if_pos h1, if_pos (by omega)]
        · rw [if_neg h1, if_neg (by omega)]
  · rw [List.getElem?_eq_none (by rw [List.length_set, List.length_set, rvs_len]; omega), List.getElem?_eq_none (by rw [rvs_len]; omega)]
attribute [local irreducible] E idxN cellAt cellsAt storeAt callable helems hmoved lookIn findKey keyOk hentries Hp.at Hp.set Hp.lay arBits hupdated setAt CallP YieldP BoolOf IsWrap Rnd LoopP AppP CutP Int.tmod Int.tdiv Int.fdiv
section
variable [Unknowns]
attribute [local irreducible] ResP sameAt
theorem reverse_spec (h0 : Hp) (v : Value) (l : List Int) (h : Hp) (hv : Built h0 h 3 v l) (hg : Grows h0 h) (hl : l.length ≤ 1000000) : CallP E 102 [v] h (fun r h' => Built h0 h' 3 v l.reverse ∧ Grows h0 h') := by
  rcases hv with ⟨rfl, rfl⟩ | ⟨r, rfl, hr, x, hat⟩
  · refine enter102 (by simp) ?_
    conv => whnf
    refine SeqP.go ?_
    conv => whnf
    refine ⟨-1, wie (by omega) (by omega), ?_⟩
    conv => whnf
    refine loop_inv (α := Unit) (fun _ => [(2, int 0), (3, int (-1))]) (fun _ => h) (fun _ => True) (fun _ => 0) () trivial ⟨rfl, rfl, trivial⟩ (Hp.Le.refl _) ?_
    rintro _ φ _
    conv => whnf
    repeat (refine SeqP.go ?_; conv => whnf)
    refine cmpF (by omega) ?_
    conv => whnf
    repeat (refine SeqP.go ?_; conv => whnf)
    exact ⟨.inl ⟨rfl, rfl⟩, hg⟩
  · refine enter102 (by simp) ?_
    conv => whnf
    refine SeqP.go ?_
    conv => whnf
    refine ⟨(l.length : Int) - 1, wid (by omega), ?_⟩
    conv => whnf
    refine loop_inv (α := Nat × Hp) (fun s => [(2, int s.1), (3, int ((l.length : Int) - 1 - s.1)), (0, slc r 0 l.length l.length)]) (fun s => s.2) (fun s => s.1 ≤ l.length ∧ Grows h0 s.2 ∧ s.2.at r = some (.row 3 x ((rvs l s.1).map int))) (fun s => l.length - s.1) (0, h) ⟨Nat.zero_le _, hg, by rw [rvs_zero]; exact hat⟩ ⟨rfl, by simp; rfl, rfl, trivial⟩ (Hp.Le.refl _) ?_
    rintro ⟨i, H⟩ φ ⟨hi, hgH, ha⟩
    dsimp only at hi hgH ha ⊢
    conv => whnf
    repeat (refine SeqP.go ?_; conv => whnf)
    refine cmpB (fun c1 => ?_) (fun c1 => ?_)
    rotate_left
    · conv => whnf
      repeat (refine SeqP.go ?_; conv => whnf)
      exact ⟨.inr ⟨r, by rw [List.length_reverse], hr, x, by rw [← rvs_done (l := l) (i := i) (by omega) hi]; exact ha⟩, hgH⟩
    have hil : 2 * i + 1 < l.length := by omega
    have ej : ((l.length : Int) - 1 - (i : Int)).toNat = l.length - 1 - i := by omega
    have cj : cellAt H r (offAt 0 ((l.length : Int) - 1 - (i : Int)).toNat 1) = some (int (gl l (l.length - 1 - i))) := by
      rw [ej, offAt_eq, Nat.zero_add, Nat.mul_one]
      refine cellAt_row ha ?_
      rw [List.getElem?_map, rvs_get (by omega), if_neg (by omega)]
      rfl
    have ci : cellAt H r (offAt 0 i 1) = some (int (gl l i)) := by
      rw [offAt_eq, Nat.zero_add, Nat.mul_one]
      refine cellAt_row ha ?_
      rw [List.getElem?_map, rvs_get (by omega), if_neg (by omega)]
      rfl
    have hml : ((rvs l i).map int).length = l.length := by rw [List.length_map, rvs_len]
    have st1 := storeAt_off (i := i) (v := int (gl l (l.length - 1 - i))) ha (by omega) rfl
    have ha1 : (H.set r (.row 3 x (((rvs l i).map int).set i (int (gl l (l.length - 1 - i)))))).at r = some (.row 3 x (((rvs l i).map int).set i (int (gl l (l.length - 1 - i))))) := Hp.at_set_self _ (Hp.lt_of_at ha)
    have st2 := storeAt_off (i := ((l.length : Int) - 1 - (i : Int)).toNat) (v := int (gl l i)) ha1 (by rw [List.length_set, ej]; omega) rfl
    have ha2 := Hp.at_set_self (h := H.set r (.row 3 x (((rvs l i).map int).set i (int (gl l (l.length - 1 - i)))))) (Rx.Obj.row 3 x ((((rvs l i).map int).set i (int (gl l (l.length - 1 - i)))).set ((l.length : Int) - 1 - (i : Int)).toNat (int (gl l i)))) (Hp.lt_of_at ha1)
    have hmm : (((rvs l i).map int).set i (int (gl l (l.length - 1 - i)))).set ((l.length : Int) - 1 - (i : Int)).toNat (int (gl l i)) = (rvs l (i + 1)).map int := by
      rw [ej, ← rvs_next hil, List.map_set, List.map_set]
    conv => whnf
    refine SeqP.go ?_
    conv => whnf
    refine ⟨rfl, ⟨by omega, by omega⟩, ?_⟩
    conv => whnf
    refine ⟨_, cj, ?_⟩
    conv => whnf
    refine ⟨rfl, ⟨by omega, by omega⟩, ?_⟩
    conv => whnf
    refine ⟨_, ci, ?_⟩
    conv => whnf
    refine ⟨rfl, ⟨by omega, by omega⟩, ?_⟩
    conv => whnf
    refine ⟨rfl, _, st1, ?_⟩
    conv => whnf
    refine ⟨rfl, ⟨by omega, by omega⟩, ?_⟩
    conv => whnf
    refine ⟨rfl, _, st2, ?_⟩
    conv => whnf
    refine ⟨?_, ?_⟩
    · repeat' (first | exact True.intro | (refine And.intro ?_ ?_ <;> (conv => whnf)))
      all_goals first
        | exact sameAt_val (h2 := _) rfl (sameV_int _)
        | exact sameAt_val (h2 := _) rfl (sameV_slc _ _ _ _)
        | trace_state
    conv => whnf
    refine ⟨((i + 1 : Nat) : Int), wie (by omega) (by omega), ?_⟩
    conv => whnf
    refine ⟨(l.length : Int) - 1 - ((i + 1 : Nat) : Int), wie (by omega) (by omega), ?_⟩
    conv => whnf
    exact Rnd.mk (i + 1, _) ⟨by show i + 1 ≤ _; omega, (hgH.then_set _ hr).then_set _ hr, by rw [hmm] at ha2; rw [← hmm] at ha2 ⊢; exact ha2⟩ (by show _ - (i + 1) < _ - i; omega) ⟨rfl, rfl, rfl, trivial⟩ (Hp.Le.refl _) rfl
end
end Go.Proofs.Ytpiplaicnbapbaa
namespace Go.Proofs.Ytpiplaicnbapbaa
open Go.Rx Go.RowKit
theorem RWM.start' {h H4 : Hp} {bp : List Value} {cc : List Value} {to5 : List Int} {z : Sp} {cells : List Value} {f : K5 → Option Value} (ep : sp7 z = cells) (hz : z.d.length ≤ 5) (y : Keeps (((h.lay (.row 25 true bp)).lay (.row 107 true cc)).lay (.row 107 true (to5.map int))).next ((((h.lay (.row 25 true bp)).lay (.row 107 true cc)).lay (.row 107 true (to5.map int))).lay (.map [] 0)) H4) (hm : MapAt H4 (((h.lay (.row 25 true bp)).lay (.row 107 true cc)).lay (.row 107 true (to5.map int))).next enc5 f 1) : RWM h (((H4.lay (.row 147 true [mapAt (((h.lay (.row 25 true bp)).lay (.row 107 true cc)).lay (.row 107 true (to5.map int))).next])).lay (.row 149 true cells)).lay (.row 150 true [slc (H4.lay (.row 147 true [mapAt (((h.lay (.row 25 true bp)).lay (.row 107 true cc)).lay (.row 107 true (to5.map int))).next])).next 0 1 1])) h.next ((h.lay (.row 25 true bp)).lay (.row 107 true cc)).next H4.next ((H4.lay (.row 147 true [mapAt (((h.lay (.row 25 true bp)).lay (.row 107 true cc)).lay (.row 107 true (to5.map int))).next])).lay (.row 149 true cells)).next (((h.lay (.row 25 true bp)).lay (.row 107 true cc)).lay (.row 107 true (to5.map int))).next bp to5 (slc (H4.lay (.row 147 true [mapAt (((h.lay (.row 25 true bp)).lay (.row 107 true cc)).lay (.row 107 true (to5.map int))).next])).next 0 1 1) [z] f 1 (slc (H4.lay (.row 147 true [mapAt (((h.lay (.row 25 true bp)).lay (.row 107 true cc)).lay (.row 107 true (to5.map int))).next])).next 0 1 1) [] := by
  subst ep
  have n1 : (h.lay (.row 25 true bp)).next = h.next + 1 := Hp.next_lay _ _
  have n2 : ((h.lay (.row 25 true bp)).lay (.row 107 true cc)).next = h.next + 2 := by rw [Hp.next_lay, n1]
  have n3 : (((h.lay (.row 25 true bp)).lay (.row 107 true cc)).lay (.row 107 true (to5.map int))).next = h.next + 3 := by rw [Hp.next_lay, n2]
  have n4 : H4.next = h.next + 4 := by rw [y.next, Hp.next_lay, n3]
  rw [n3] at y hm
  rw [n3, n2]
  have n5 : (H4.lay (.row 147 true [mapAt (h.next + 3)])).next = h.next + 5 := by rw [Hp.next_lay, n4]
  have n6 : ((H4.lay (.row 147 true [mapAt (h.next + 3)])).lay (.row 149 true (sp7 z))).next = h.next + 6 := by rw [Hp.next_lay, n5]
  rw [n4, n5, n6]
  have g3 : Grows h ((((h.lay (.row 25 true bp)).lay (.row 107 true cc)).lay (.row 107 true (to5.map int))).lay (.map [] 0)) := (((Grows.lay _ _).then_lay _).then_lay _).then_lay _
  have g4 : Grows h H4 := y.grows g3 (by omega)
  have aP : ((((h.lay (.row 25 true bp)).lay (.row 107 true cc)).lay (.row 107 true (to5.map int))).lay (.map [] 0)).at h.next = some (.row 25 true bp) := Hp.at_lay_old _ (Hp.at_lay_old _ (Hp.at_lay_old _ (Hp.at_lay_self _ _)))
  have aT : ((((h.lay (.row 25 true bp)).lay (.row 107 true cc)).lay (.row 107 true (to5.map int))).lay (.map [] 0)).at (h.next + 2) = some (.row 107 true (to5.map int)) := at_nx2 n2 (Hp.at_lay_old _ (Hp.at_lay_self ((h.lay (.row 25 true bp)).lay (.row 107 true cc)) _))
  have gl3 : Grows H4 (((H4.lay (.row 147 true [mapAt (h.next + 3)])).lay (.row 149 true (sp7 z))).lay (.row 150 true [slc (h.next + 5) 0 1 1])) := ((Grows.lay _ _).then_lay _).then_lay _
  refine ⟨g4.trans gl3, gl3.at_ _ _ (y.at_ _ _ (by omega) aP), gl3.at_ _ _ (y.at_ _ _ (by omega) aT), ?_, ?_, hm.ext gl3, ?_, by omega, by omega, ?_⟩
  · exact at_nx2 n4 (Hp.at_lay_old _ (Hp.at_lay_old _ (Hp.at_lay_self H4 _)))
  · exact at_nx2 n6 (Hp.at_lay_self ((H4.lay (.row 147 true [mapAt (h.next + 3)])).lay (.row 149 true (sp7 z))) _)
  · refine ⟨flat7_len [z] (fun x hx => by rw [List.mem_singleton.1 hx]; exact hz), .inr ⟨h.next + 5, rfl, by omega, true, ?_⟩⟩
    have e : flat7 [z] = sp7 z := by show sp7 z ++ [] = _; rw [List.append_nil]
    rw [e]
    exact at_nx2 n5 (Hp.at_lay_old _ (Hp.at_lay_self (H4.lay (.row 147 true [mapAt (h.next + 3)])) _))
  · have nx : (((H4.lay (.row 147 true [mapAt (h.next + 3)])).lay (.row 149 true (sp7 z))).lay (.row 150 true [slc (h.next + 5) 0 1 1])).next = h.next + 7 := by rw [Hp.next_lay, n6]
    have key : ∀ (i : Nat) (v : Value) (r : Nat), (pl h.next :: pl (h.next + 2) :: pl (h.next + 4) :: pl (h.next + 6) :: pl (h.next + 3) :: slc (h.next + 5) 0 1 1 :: [])[i]? = some v → ad v = some r → (i = 0 ∧ r = h.next) ∨ (i = 1 ∧ r = h.next + 2) ∨ (i = 2 ∧ r = h.next + 4) ∨ (i = 3 ∧ r = h.next + 6) ∨ (i = 4 ∧ r = h.next + 3) ∨ (i = 5 ∧ r = h.next + 5) := by
      intro i v r hi e
      match i, hi with
      | 0, hi => cases hi; cases e; simp
      | 1, hi => cases hi; cases e; simp
      | 2, hi => cases hi; cases e; simp
      | 3, hi => cases hi; cases e; simp
      | 4, hi => cases hi; cases e; simp
      | 5, hi => cases hi; cases e; simp
      | n + 6, hi => simp at hi
    refine ⟨fun v hv r e => ?_, fun u hu => by simp at hu, fun i j v u hij hi hj r e1 e2 => ?_, fun v hv u hu => by simp at hu⟩
    · obtain ⟨i, hi⟩ := List.getElem?_of_mem hv
      have := key i v r hi e
      omega
    · have k1 := key i v r hi e1
      have k2 := key j u r hj e2
      omega
theorem raw_look1_some {κ : Type} [DecidableEq κ] {enc : κ → Value} {t kt et : TypeId} {ti ei : TI} (ht : E.ty t = some ti) (hd : ti.desc = .map kt et) (he : E.ty et = some ei) {z : Value} (hz : ei.zero = some z) (K : KeyTy E kt enc) {φ : Rx.Frame} {h : Hp} {ty : TypeId} {x j : Operand} {r : Nat} {k : κ} {v : Value} {f : κ → Option Value} {n : Nat}
    (hx : evφ φ x = mapAt r) (hj : evφ φ j = enc k) (hm : MapAt h r enc f n) (hf : f k = some v) {Q : Value → Hp → Prop} (q : Q v h) : MapP E (.raw (.lookup t x j false) ty) φ h Q :=
  raw_lookup1 ht hd he hz K hx hj hm (by rw [hf]; exact q)
theorem raw_look1_none {κ : Type} [DecidableEq κ] {enc : κ → Value} {t kt et : TypeId} {ti ei : TI} (ht : E.ty t = some ti) (hd : ti.desc = .map kt et) (he : E.ty et = some ei) {z : Value} (hz : ei.zero = some z) (K : KeyTy E kt enc) {φ : Rx.Frame} {h : Hp} {ty : TypeId} {x j : Operand} {r : Nat} {k : κ} {f : κ → Option Value} {n : Nat}
    (hx : evφ φ x = mapAt r) (hj : evφ φ j = enc k) (hm : MapAt h r enc f n) (hf : f k = none) {Q : Value → Hp → Prop} (q : Q z h) : MapP E (.raw (.lookup t x j false) ty) φ h Q :=
  raw_lookup1 ht hd he hz K hx hj hm (by rw [hf]; exact q)
structure QS where
  tv : Value
  T : List Sp
  S : List Int
  f : K5 → Option Value
  H : Hp
structure Wd (h : Hp) (P T5 A8 A9 M : Nat) (bp : List Value) (R : List Q4) (n : Nat) (c to : List Int) (s : QS) (i z A11 : Nat) (ms es : List Nat) : Prop where
  m : RWM h s.H P T5 A8 A9 M bp (pad5 to) s.tv s.T s.f s.T.length s.tv (es ++ A11 :: ms)
  sn : Seen (s.T.map Sp.d) s.f
  a11 : s.H.at A11 = some (.row 3 true [int z])
  h11 : h.next ≤ A11
  mks : ∀ d ∈ ms, s.H.at d = some .noDefers
  nd : ms.Nodup
  ge : ∀ d ∈ ms, h.next ≤ d
  w : Ws R n c s.T s.S i
  il : i ≤ s.T.length
  no : ∀ (a : Nat) (x : Sp), a < i → s.T[a]? = some x → x.d ≠ to
section
variable {h : Hp} {P T5 A8 A9 M : Nat} {bp : List Value} {R : List Q4} {n : Nat} {c to : List Int} {tv : Value} {T : List Sp} {S : List Int} {f : K5 → Option Value} {H H' : Hp} {i z A11 : Nat} {ms es : List Nat}
theorem Wd.ext (k : Wd h P T5 A8 A9 M bp R n c to ⟨tv, T, S, f, H⟩ i z A11 ms es) (g : Grows H H') : Wd h P T5 A8 A9 M bp R n c to ⟨tv, T, S, f, H'⟩ i z A11 ms es :=
  ⟨k.m.ext g, k.sn, g.at_ _ _ k.a11, k.h11, fun d hd => g.at_ _ _ (k.mks d hd), k.nd, k.ge, k.w, k.il, k.no⟩
theorem Wd.keep {l : Nat} (k : Wd h P T5 A8 A9 M bp R n c to ⟨tv, T, S, f, H⟩ i z A11 ms es) (hl : l ∈ es) (h8 : A11 ≠ l) (hm : l ∉ ms) (h7 : h.next ≤ l) (y : Keeps l H H') : Wd h P T5 A8 A9 M bp R n c to ⟨tv, T, S, f, H'⟩ i z A11 ms es :=
  ⟨k.m.other (d := l) (by simp [hl]) (Kx.keeps y) (y.grows k.m.gr h7) (by rw [y.next]; exact Nat.le_refl _), k.sn, y.at_ _ _ h8 k.a11, k.h11, fun d hd => y.at_ _ _ (fun e => hm (e ▸ hd)) (k.mks d hd), k.nd, k.ge, k.w, k.il, k.no⟩
end
def WyR (R : List Q4) (c to : List Int) (h' : Hp) (w : Value) (b : Bool) : Prop := (b = false → w = .slice none 0 0 ∧ ¬ Rs R c to) ∧ (b = true → ∃ W, LV h' w W ∧ doW R c W = (to, W.length) ∧ (∀ k, Wy R k c to → W.length ≤ k) ∧ W.length ≤ 100000)
attribute [local irreducible] E idxN cellAt cellsAt storeAt callable helems hmoved lookIn findKey keyOk hentries Hp.at Hp.set Hp.lay arBits hupdated setAt CallP YieldP BoolOf IsWrap Rnd LoopP AppP CutP Int.tmod Int.tdiv Int.fdiv
section
variable [Unknowns]
attribute [local irreducible] ResP sameAt finP endQ
theorem way_spec (v : Value) (p : Prot) (n : Nat) (c to : List Int) (h : Hp) (hv : PV h v p) (hP : POk p) (en : p.n = n) (hc : CrOk n c) (ht : CrOk n to) : CallP E 77 [v, cv (pad5 c), cv (pad5 to)] h (fun r h' => (∃ w b, r = .tuple ⟨[w, .bool b]⟩ ∧ WyR p.rules c to h' w b) ∧ Grows h h') := by
  obtain ⟨bp, rfl, hbl, b0, -, -, ⟨a3, b3, k3⟩, -⟩ := hv.box
  have hcl := hc.len
  have htl := ht.len
  have hn5 : n ≤ 5 := by have := hP.n5; omega
  have hn1 : 1 ≤ n := by have := hP.n1; omega
  have hrl := hP.rl
  have hRq : ∀ x ∈ p.rules, QIn n x := fun x hx => by
    obtain ⟨k, hk, e⟩ := List.getElem_of_mem hx
    have := hP.qin k hk
    rw [en] at this
    rw [← e]
    exact this
  have hp5 := pad5_len (c := c) (by omega)
  have hpl : ((pad5 c).map int).length = 5 := by rw [List.length_map, hp5]
  have hq5 := pad5_len (c := to) (by omega)
  have hql : ((pad5 to).map int).length = 5 := by rw [List.length_map, hq5]
  obtain ⟨i147, t147, d147⟩ := ty147
  obtain ⟨i4, t4, z4⟩ := ty4
  have h5 := pad5_five (d := c) (by omega)
  obtain ⟨v1, v2, v3, v4, v5, e5⟩ := h5
  have ekc : Value.agg ⟨[int v1, int v2, int v3, int v4, int v5]⟩ = enc5 (kk c) := by rw [← e5]; exact (enc_k5 hp5).symm
  unfold cv
  rw [e5]
  refine enter77 (by simp) ?_
  conv => whnf
  refine SeqP.go ?_
  conv => whnf
  refine SeqP.go ?_
  conv => whnf
  have aF : ((h.lay (.row 25 true bp)).lay (.row 107 true [int v1, int v2, int v3, int v4, int v5])).at (h.lay (.row 25 true bp)).next = some (.row 107 true [int v1, int v2, int v3, int v4, int v5]) := Hp.at_lay_self _ _
  have aF1 : ((((h.lay (.row 25 true bp)).lay (.row 107 true [int v1, int v2, int v3, int v4, int v5])).lay (.row 107 true ((pad5 to).map int))).lay (.map [] 0)).at (h.lay (.row 25 true bp)).next = some (.row 107 true [int v1, int v2, int v3, int v4, int v5]) := Hp.at_lay_old _ (Hp.at_lay_old _ aF)
  refine ⟨[int v1, int v2, int v3, int v4, int v5], all_cells aF1 rfl, ?_⟩
  conv => whnf
  refine raw_insert t147 d147 key107 (k := kk c) (v := .bool true) (n := 0) rfl (by exact ekc) rfl (MapAt.new _) ?_
  intro H4 hm4 y4
  have aF4 : H4.at (h.lay (.row 25 true bp)).next = some (.row 107 true [int v1, int v2, int v3, int v4, int v5]) := y4.at_ _ _ (by simp only [Hp.next_lay]; omega) aF1
  conv => whnf
  refine ⟨rfl, _, storeAt_all (vs := [mapAt _]) rfl rfl rfl, ?_⟩
  conv => whnf
  refine SeqP.cut (α := Nat × Nat × Nat × Nat × Nat × Value × (K5 → Option Value) × Hp) (fun s => [(9, ptr s.2.2.2.1 0), (8, ptr s.2.2.1 0), (5, ptr s.2.1 0), (3, ptr s.1 0)]) (fun s H => s.2.2.2.2.2.2.2 = H ∧ RWM h H s.1 s.2.1 s.2.2.1 s.2.2.2.1 s.2.2.2.2.1 bp (pad5 to) s.2.2.2.2.2.1 [⟨c, -1, -1⟩] s.2.2.2.2.2.2.1 1 s.2.2.2.2.2.1 [] ∧ Seen [c] s.2.2.2.2.2.2.1) ?_ ?_
  · conv => whnf
    refine ⟨[int v1, int v2, int v3, int v4, int v5], all_cells (Hp.at_lay_old _ aF4) rfl, ?_⟩
    conv => whnf
    refine ⟨rfl, _, storeAt_all (vs := [slc _ 0 1 1]) rfl rfl rfl, ?_⟩
    conv => whnf
    refine ⟨(_, _, _, _, _, _, _, _), ⟨rfl, rfl, rfl, rfl, trivial⟩, ⟨rfl, RWM.start' (z := ⟨c, -1, -1⟩) (by unfold sp7; rw [e5]; rfl) (by show c.length ≤ 5; omega) y4 hm4, ?_⟩, rfl⟩
    have := Seen.add (L := []) (f := fun _ => none) ⟨fun d hd => by simp at hd, fun k v e => by cases e⟩ c
    exact this
  rintro ⟨P, T5, A8, A9, M, tv0, f0, H0⟩ φ1 _ ⟨rfl, m0, sn0⟩
  dsimp only at m0 sn0 ⊢
  clear hm4 y4 aF aF1 aF4
  conv => whnf
  refine SeqP.go ?_
  conv => whnf
  refine SeqP.go ?_
  conv => whnf
  refine SeqP.cutM (α := Int × QS × Nat × Nat × List Nat) (fun s => [(10, int s.1), (9, ptr A9 0)]) (fun s => s.2.2.2.2) (fun s H => s.2.1.H = H ∧ (∃ i z, Wd h P T5 A8 A9 M bp p.rules n c to s.2.1 i z s.2.2.1 s.2.2.2.2 [] ∧ ((s.1 = -1 ∧ i = s.2.1.T.length) ∨ (s.1 = (i : Int) ∧ ∃ x, s.2.1.T[i]? = some x ∧ x.d = to)))) ?_ ?_
  rotate_left
  · rintro ⟨fnd, ⟨tv, T, S, f, H⟩, A11, dummy, ms⟩ φ9 _ ⟨rfl, i, z, k, hcase⟩
    dsimp only at k hcase ⊢
    have hok : ∀ x ∈ T, CrOk n x.d := fun x hx => k.w.g.ok x.d (List.mem_map.2 ⟨x, hx, rfl⟩)
    have hlen5 : ∀ x ∈ T, x.d.length ≤ 5 := fun x hx => by have := (hok x hx).len; omega
    have hfew := crowds_few hn5 k.w.g.ok k.w.g.nodup
    rw [List.length_map] at hfew
    dsimp only at hfew
    have hms : ∀ H', Grows H H' → Marks h.next ms H' := fun H' g => ⟨k.nd, fun d hd => ⟨k.ge d hd, g.at_ _ _ (k.mks d hd)⟩⟩
    have hgh : ∀ H' h3, Grows H H' → h3.next = H'.next → (∀ q o, q < h.next → H'.at q = some o → h3.at q = some o) → Grows h h3 := fun H' h3 g e1 e2 => ⟨by rw [e1]; exact Nat.le_trans k.m.gr.next g.next, fun r o ho => e2 r o (Hp.lt_of_at ho) (g.at_ _ _ (k.m.gr.at_ _ _ ho))⟩
    rcases hcase with ⟨rfl, hi⟩ | ⟨rfl, x, hx, hxt⟩
    · have hno : ¬ Rs p.rules c to := fun hr => by
        have hg := k.w.g
        dsimp only at hg
        have el : i = (T.map Sp.d).length := by rw [List.length_map]; exact hi
        rw [el] at hg
        have hm := hg.done.mem.2 hr
        obtain ⟨x, hx, ex⟩ := List.mem_map.1 hm
        obtain ⟨a, ha⟩ := List.getElem?_of_mem hx
        exact k.no a x (by have := (List.getElem?_eq_some_iff.1 ha).1; omega) ha ex
      conv => whnf
      repeat (refine SeqP.go ?_; conv => whnf)
      refine cmpT (by omega) ?_
      conv => whnf
      repeat (refine SeqP.go ?_; conv => whnf)
      refine finP_marks (hms _ (Grows.refl _)) ?_
      intro h3 n3 k3' k4
      exact finP_two rfl rfl rfl rfl ⟨⟨_, false, rfl, fun _ => ⟨rfl, hno⟩, fun e => (by cases e)⟩, hgh H h3 (Grows.refl _) n3 k3'⟩
    have hiT := (List.getElem?_eq_some_iff.1 hx).1
    have hSl := k.w.s.len
    rw [List.length_map] at hSl
    dsimp only at hSl
    have hSi := k.w.s.le i (by dsimp only; omega)
    dsimp only at hSi
    have hS0 : ∀ a, a < T.length → 0 ≤ gl S a := fun a ha => by
      obtain ⟨q, e, -⟩ := k.w.s.way a T[a].d (by dsimp only; rw [List.getElem?_map, List.getElem?_eq_getElem ha]; rfl)
      dsimp only at e
      omega
    have hfirst : ∀ z, T[0]? = some z → z.d = c := fun z hz => by
      have := k.w.g.first
      dsimp only at this
      rw [List.getElem?_map, hz] at this
      simpa using this
    conv => whnf
    refine SeqP.cut (α := Unit) (fun _ => [(10, int i), (9, ptr A9 0)]) (fun _ H' => H = H') ?_ ?_
    · conv => whnf
      repeat (refine SeqP.go ?_; conv => whnf)
      refine cmpF (by omega) ?_
      conv => whnf
      exact ⟨(), ⟨rfl, rfl, trivial⟩, rfl, rfl⟩
    rintro _ φ8 _ rfl
    conv => whnf
    refine SeqP.go ?_
    conv => whnf
    refine SeqP.cut (α := List Int × Value × Hp) (fun s => [(14, s.2.1)]) (fun s H' => s.2.2 = H' ∧ Grows H s.2.2 ∧ Built H s.2.2 3 s.2.1 s.1.reverse ∧ doW p.rules c s.1 = (to, s.1.length) ∧ (s.1.length : Int) = gl S i) ?_ ?_
    rotate_left
    · rintro ⟨W, ov, H'⟩ φ7 _ ⟨rfl, g1, hb, hdo, hWl⟩
      dsimp only at g1 hb hdo hWl ⊢
      conv => whnf
      repeat (refine SeqP.go ?_; conv => whnf)
      refine CallP.mono (reverse_spec H _ W.reverse _ hb g1 (by rw [List.length_reverse]; omega)) ?_
      rintro r8 H8 ⟨hb8, g8⟩
      rw [List.reverse_reverse] at hb8
      have hk8 := (LV.of hb8).known
      obtain ⟨a8, rfl⟩ := hk8
      conv => whnf
      repeat (refine SeqP.go ?_; conv => whnf)
      refine finP_marks (hms _ g8) ?_
      intro h3 n3 k3' k4
      have hxm : (T.map Sp.d)[i]? = some to := by rw [List.getElem?_map, hx, ← hxt]; rfl
      refine finP_two rfl rfl rfl rfl ⟨⟨_, true, rfl, fun e => (by cases e), fun _ => ⟨W, LV.of (built_stay hb8 fun r o e ho => k4 r o (fun hm => ?_) ho), hdo, fun q wq => ?_, ?_⟩⟩, hgh H8 h3 g8 n3 k3'⟩
      · have h1 := (hb8.ad_lt r e).1
        have h2 := Hp.lt_of_at (k.mks r hm)
        dsimp only at h2
        omega
      · have := k.w.s.least_at k.w.g.first k.w.g.nodup hxm wq
        dsimp only at this
        omega
      · show W.length ≤ 100000
        omega
    conv => whnf
    refine SeqP.go ?_
    conv => whnf
    refine loop_inv (α := Nat × List Int × Value × Hp) (fun s => [(15, int s.1), (14, s.2.2.1), (9, ptr A9 0)]) (fun s => s.2.2.2) (fun s => s.1 < T.length ∧ Grows H s.2.2.2 ∧ Built H s.2.2.2 3 s.2.2.1 s.2.1.reverse ∧ (∃ z, T[s.1]? = some z ∧ doW p.rules z.d s.2.1 = (to, s.2.1.length)) ∧ (s.2.1.length : Int) + gl S s.1 = gl S i) (fun s => s.1) (i, [], .slice none 0 0, H) ⟨hiT, Grows.refl _, .inl ⟨rfl, rfl⟩, ⟨x, hx, by rw [hxt]; rfl⟩, by simp⟩ ⟨rfl, rfl, rfl, trivial⟩ (Hp.Le.refl _) ?_
    rintro ⟨a, W, ov, H'⟩ φ7 ⟨ha, g1, hb, ⟨z, hz, hdo⟩, hWl⟩
    dsimp only at ha g1 hb hz hdo hWl ⊢
    have hSa := hS0 a ha
    have hcc := sp_cells k.m.t hlen5 hz
    obtain ⟨rc, erc, -, hcb, hcr⟩ := hcc
    dsimp only at erc hcb hcr
    subst erc
    have hcb := g1.cell hcb
    have hcr := g1.cell hcr
    have a9' := g1.at_ _ _ k.m.a9
    dsimp only at a9'
    have hk9 := (LV.of hb).known
    obtain ⟨ao, rfl⟩ := hk9
    have hlr : W.reverse.length = W.length := List.length_reverse
    have hpar := k.w.par a z hz
    conv => whnf
    repeat (refine SeqP.go ?_; conv => whnf)
    refine ⟨_, cellAt_row a9' rfl, ?_⟩
    conv => whnf
    refine ⟨rfl, ⟨by omega, by omega⟩, ?_⟩
    conv => whnf
    refine ⟨_, hcb, ?_⟩
    conv => whnf
    rcases hpar with ⟨rfl, ezb⟩ | ⟨b, y, ezb, hba, hyb, hst, hsb⟩
    · rw [ezb]
      refine cmpF (by omega) ?_
      conv => whnf
      repeat (refine SeqP.go ?_; conv => whnf)
      have hzc := hfirst z hz
      rw [hzc] at hdo
      have hs0 := k.w.s.start_
      dsimp only at hs0
      exact ⟨(W, _, H'), ⟨rfl, trivial⟩, ⟨rfl, g1, hb, hdo, by show (W.length : Int) = _; omega⟩, rfl⟩
    · rw [ezb]
      rw [ezb] at hcb
      dsimp only at hsb
      refine cmpT (by omega) ?_
      conv => whnf
      repeat (refine SeqP.go ?_; conv => whnf)
      refine ⟨_, cellAt_row a9' rfl, ?_⟩
      conv => whnf
      refine ⟨rfl, ⟨by omega, by omega⟩, ?_⟩
      conv => whnf
      refine ⟨_, hcr, ?_⟩
      conv => whnf
      refine AppP.ints (new := [z.r]) (hb.ext (Grows.lay _ _)) (g1.then_lay _) Elems.lay1 (by simp; omega) ?_
      intro v4 H5 hv4 hg5 hkeep
      have a95 := hg5.at_ _ _ k.m.a9
      have hcb5 : cellAt H5 rc (offAt 0 a 7 + 5) = some (int b) := by
        have h1 := sp_cells (k.m.t.ext hg5) hlen5 hz
        obtain ⟨rc', erc', -, h2, -⟩ := h1
        cases erc'
        rw [← ezb]
        exact h2
      dsimp only at a95
      conv => whnf
      repeat (refine SeqP.go ?_; conv => whnf)
      refine ⟨_, cellAt_row a95 rfl, ?_⟩
      conv => whnf
      refine ⟨rfl, ⟨by omega, by omega⟩, ?_⟩
      conv => whnf
      refine ⟨_, hcb5, ?_⟩
      conv => whnf
      refine Rnd.mk (b, z.r :: W, v4, H5) ⟨by show b < T.length; omega, hg5, by show Built H H5 3 v4 (z.r :: W).reverse; rw [List.reverse_cons]; exact hv4, ⟨y, hyb, ?_⟩, ?_⟩ hba ⟨rfl, rfl, rfl, trivial⟩ (Hp.Le.refl _) rfl
      · show doW p.rules y.d (z.r :: W) = (to, (z.r :: W).length)
        rw [doW_some hst, hdo]
        rfl
      · show ((z.r :: W).length : Int) + gl S b = gl S i
        rw [List.length_cons]
        omega
  conv => whnf
  refine SeqP.go ?_
  conv => whnf
  refine ⟨rfl, _, storeAt_all (vs := [int 0]) rfl rfl rfl, ?_⟩
  conv => whnf
  refine loop_invM (α := Nat × QS × Nat × List Nat) (fun s => [(11, ptr s.2.2.1 0), (10, int (-1)), (9, ptr A9 0), (8, ptr A8 0), (5, ptr T5 0), (3, ptr P 0)]) (fun s => s.2.1.H) (fun s => s.2.2.2) (fun s => Wd h P T5 A8 A9 M bp p.rules n c to s.2.1 s.1 s.1 s.2.2.1 s.2.2.2 []) (fun s => 100000 - s.1) (0, ⟨tv0, [⟨c, -1, -1⟩], [0], f0, _⟩, H0.next, []) ?_ ⟨rfl, rfl, rfl, rfl, rfl, rfl, trivial⟩ (Hp.Le.refl _) rfl ?_
  · refine ⟨?_, sn0, Hp.at_lay_self _ _, m0.gr.next, fun d hd => by simp at hd, List.nodup_nil, fun d hd => by simp at hd, Ws.start hc, Nat.zero_le _, fun a x ha => absurd ha (Nat.not_lt_zero _)⟩
    exact m0.more (Grows.lay _ _) [H0.next] (fun x hx => by rw [List.mem_singleton.1 hx, Hp.next_lay]; omega)
  rintro ⟨i, ⟨tv, T, S, f, H⟩, A11, ms⟩ φ3 k
  dsimp only at k ⊢
  have hok : ∀ x ∈ T, CrOk n x.d := fun x hx => k.w.g.ok x.d (List.mem_map.2 ⟨x, hx, rfl⟩)
  have hlen5 : ∀ x ∈ T, x.d.length ≤ 5 := fun x hx => by have := (hok x hx).len; omega
  have hfew := crowds_few hn5 k.w.g.ok k.w.g.nodup
  rw [List.length_map] at hfew
  have hil := k.il
  have hks := k.m.t.slice
  dsimp only at hks
  obtain ⟨ac, rfl, -⟩ := hks
  conv => whnf
  refine SeqP.go ?_
  conv => whnf
  refine ⟨_, cellAt_row k.a11 rfl, ?_⟩
  conv => whnf
  refine ⟨_, cellAt_row k.m.a9 rfl, ?_⟩
  conv => whnf
  repeat (refine SeqP.go ?_; conv => whnf)
  dsimp only at hfew hil
  refine cmpB (fun c1 => ?_) (fun c1 => ?_)
  rotate_left
  · have : i = T.length := by omega
    conv => whnf
    repeat (refine SeqP.go ?_; conv => whnf)
    exact ⟨(-1, ⟨_, T, S, f, H⟩, A11, 0, ms), ⟨rfl, rfl, trivial⟩, ⟨rfl, i, i, k, .inl ⟨rfl, this⟩⟩, rfl⟩
  have hiL : i < T.length := by omega
  have hexd : ∃ y, T[i]? = some y := ⟨_, List.getElem?_eq_getElem hiL⟩
  obtain ⟨y, hy⟩ := hexd
  have hym := List.mem_of_getElem? hy
  have hyok := hok y hym
  have hcc := sp_cells k.m.t hlen5 hy
  obtain ⟨rc, erc, hcc, -, -⟩ := hcc
  cases erc
  dsimp only at hcc
  have hy5 := pad5_len (c := y.d) (by have := hyok.len; omega)
  have eky : Value.agg ⟨(pad5 y.d).map int⟩ = enc5 (kk y.d) := (enc_k5 hy5).symm
  have ekt : Value.agg ⟨(pad5 to).map int⟩ = enc5 (kk to) := (enc_k5 hq5).symm
  conv => whnf
  refine SeqP.cutM (α := QS × Nat) (fun _ => [(11, ptr A11 0), (10, int (-1)), (9, ptr A9 0), (8, ptr A8 0), (5, ptr T5 0), (3, ptr P 0)]) (fun s => s.2 :: ms) (fun s H => s.1.H = H ∧ Wd h P T5 A8 A9 M bp p.rules n c to s.1 (i + 1) i A11 (s.2 :: ms) []) ?_ ?_
  rotate_left
  · rintro ⟨⟨tv', T', S', f', H'⟩, D⟩ φ4 _ ⟨rfl, k2⟩
    dsimp only at k2 ⊢
    have hlt8 : A11 < H'.next := Hp.lt_of_at k2.a11
    have h88 : h.next ≤ A11 := k2.h11
    have hil2 := k2.il
    have hfew2 := crowds_few hn5 k2.w.g.ok k2.w.g.nodup
    rw [List.length_map] at hfew2
    dsimp only at hil2 hfew2
    conv => whnf
    refine SeqP.go ?_
    conv => whnf
    refine SeqP.go ?_
    conv => whnf
    refine ⟨_, cellAt_row k2.a11 rfl, ?_⟩
    conv => whnf
    refine ⟨rfl, _, storeAt_all (vs := [int i]) rfl rfl rfl, ?_⟩
    conv => whnf
    refine ⟨int i, cellAt_row (Hp.at_lay_self _ _) rfl, ?_⟩
    conv => whnf
    refine ⟨((i + 1 : Nat) : Int), wie (by omega) (by omega), ?_⟩
    conv => whnf
    refine ⟨rfl, _, storeAt_all (vs := [int (i + 1 : Nat)]) rfl rfl rfl, ?_⟩
    conv => whnf
    refine RndM.mk (i + 1, ⟨tv', T', S', f', H'.lay (.row 3 true [int (i + 1 : Nat)])⟩, H'.next, D :: ms) ⟨?_, k2.sn, Hp.at_lay_self _ _, by show h.next ≤ H'.next; omega, fun d hd => Hp.at_lay_old _ (k2.mks d hd), k2.nd, k2.ge, k2.w, k2.il, k2.no⟩ (by show 100000 - (i + 1) < 100000 - i; omega) ⟨rfl, rfl, rfl, rfl, rfl, rfl, trivial⟩ (Hp.Le.refl _) rfl
    exact (k2.m.more (Grows.lay H' (.row 3 true [int (i + 1 : Nat)])) [H'.next] (fun x hx => by rw [List.mem_singleton.1 hx]; exact ⟨Nat.le_refl _, by rw [Hp.next_lay]; exact Nat.lt_succ_self _⟩)).less (fun x hx => by simp at hx ⊢; rcases hx with h | h | h <;> simp [h])
  conv => whnf
  refine SeqP.cut (α := Unit) (fun _ => [(11, ptr A11 0), (10, int (-1)), (9, ptr A9 0), (8, ptr A8 0), (5, ptr T5 0), (3, ptr P 0)]) (fun _ H' => H = H' ∧ y.d ≠ to) ?_ ?_
  · conv => whnf
    refine SeqP.go ?_
    conv => whnf
    refine ⟨_, cellAt_row k.m.a9 rfl, ?_⟩
    conv => whnf
    refine ⟨_, cellAt_row k.a11 rfl, ?_⟩
    conv => whnf
    refine ⟨rfl, ⟨by omega, by omega⟩, ?_⟩
    conv => whnf
    refine ⟨(pad5 y.d).map int, hcc, ?_⟩
    conv => whnf
    refine ⟨(pad5 to).map int, all_cells k.m.t5 hql, ?_⟩
    conv => whnf
    refine resP_val (v := .bool (decide (kk y.d = kk to))) (h := H) ?_ ?_
    · show hval _ (aBin E .eql 107 _ _ (.agg ⟨(pad5 y.d).map int⟩) (.agg ⟨(pad5 to).map int⟩)) = _
      rw [eky, ekt, arr5_eql]
      rfl
    by_cases hkk : kk y.d = kk to
    · have hyt : y.d = to := k5_pad hyok ht hn5 hkk
      rw [decide_eq_true hkk]
      conv => whnf
      repeat (refine SeqP.go ?_; conv => whnf)
      refine ⟨_, cellAt_row k.a11 rfl, ?_⟩
      conv => whnf
      exact ⟨((i : Int), ⟨_, T, S, f, H⟩, A11, 0, ms), ⟨rfl, rfl, trivial⟩, ⟨rfl, i, i, k, .inr ⟨rfl, y, hy, hyt⟩⟩, rfl⟩
    · rw [decide_eq_false hkk]
      conv => whnf
      repeat (refine SeqP.go ?_; conv => whnf)
      exact ⟨(), ⟨rfl, rfl, rfl, rfl, rfl, rfl, trivial⟩, ⟨rfl, fun e => hkk (by rw [e])⟩, rfl⟩
  rintro _ φ5 _ ⟨rfl, hyt⟩
  conv => whnf
  refine SeqP.go ?_
  conv => whnf
  refine ⟨bp, all_cells k.m.p hbl, ?_⟩
  conv => whnf
  refine ⟨_, cellAt_row k.m.a9 rfl, ?_⟩
  conv => whnf
  refine ⟨_, cellAt_row k.a11 rfl, ?_⟩
  conv => whnf
  refine ⟨rfl, ⟨by omega, by omega⟩, ?_⟩
  conv => whnf
  refine ⟨(pad5 y.d).map int, hcc, ?_⟩
  conv => whnf
  refine CallP.mono (meetings_spec bp (pad5 y.d) _) ?_
  rintro r _ ⟨rfl, rfl⟩
  conv => whnf
  have nH1 : (H.lay (.row 25 true bp)).next = H.next + 1 := Hp.next_lay _ _
  have nH2 : ((H.lay (.row 25 true bp)).lay (.row 107 true ((pad5 y.d).map int))).next = H.next + 2 := by rw [Hp.next_lay, nH1]
  have nH3 : (((H.lay (.row 25 true bp)).lay (.row 107 true ((pad5 y.d).map int))).lay .noDefers).next = H.next + 3 := by rw [Hp.next_lay, nH2]
  have h88 : h.next ≤ A11 := k.h11
  have hlt8 : A11 < H.next := Hp.lt_of_at k.a11
  have hRn : ∀ j, (hj : j < p.rules.length) → QIn 5 p.rules[j] := fun j hj => by
    have := hRq _ (List.getElem_mem hj)
    unfold QIn at this ⊢
    omega
  have hbd : ∀ j, -100 ≤ gl (pad5 y.d) j ∧ gl (pad5 y.d) j ≤ 100 := fun j => by
    rw [gl_pad]
    have := hyok.nn j
    have := hyok.le j
    omega
  have hst : ∀ o, ∃ tv T S f, Wd h P T5 A8 A9 M bp p.rules n c to ⟨tv, T, S, f, (((H.lay (.row 25 true bp)).lay (.row 107 true ((pad5 y.d).map int))).lay .noDefers).lay o⟩ i i A11 ((H.next + 2) :: ms) ([] ++ [H.next + 3, H.next, H.next + 1]) ∧ ((((H.lay (.row 25 true bp)).lay (.row 107 true ((pad5 y.d).map int))).lay .noDefers).lay o).at H.next = some (.row 25 true bp) ∧ ((((H.lay (.row 25 true bp)).lay (.row 107 true ((pad5 y.d).map int))).lay .noDefers).lay o).at (H.next + 1) = some (.row 107 true ((pad5 y.d).map int)) ∧ T[i]? = some y ∧ ∀ (m : Nat) (x : Int) (e : List Int), m < 0 → (posN p.rules (pad5 y.d) p.rules.length)[m]? = some x → step p.rules y.d x = some e → e ∈ T.map Sp.d := by
    intro o
    have g0 : Grows H ((((H.lay (.row 25 true bp)).lay (.row 107 true ((pad5 y.d).map int))).lay .noDefers).lay o) := (((Grows.lay _ _).then_lay _).then_lay _).then_lay _
    have k0 := k.ext g0
    refine ⟨_, T, S, f, ⟨?_, k.sn, k0.a11, k.h11, ?_, ?_, ?_, k.w, k.il, k.no⟩, ?_, ?_, hy, fun m x e hm => absurd hm (Nat.not_lt_zero _)⟩
    · have := k.m.more g0 [H.next + 3, H.next, H.next + 1, H.next + 2] (fun x hx => by
        simp only [Hp.next_lay]
        simp at hx
        omega)
      exact this.less (fun x hx => by simp at hx ⊢; rcases hx with e | e | e | e | e | e <;> simp [e])
    · intro x hx
      rcases List.mem_cons.1 hx with rfl | hx
      · exact at_nx2 nH2 (Hp.at_lay_old _ (Hp.at_lay_self _ _))
      · exact k0.mks x hx
    · refine List.nodup_cons.2 ⟨fun hx => ?_, k.nd⟩
      have := Hp.lt_of_at (k.mks _ hx)
      dsimp only at this
      omega
    · intro x hx
      rcases List.mem_cons.1 hx with rfl | hx
      · omega
      · exact k.ge x hx
    · exact Hp.at_lay_old _ (Hp.at_lay_old _ (Hp.at_lay_old _ (Hp.at_lay_self _ _)))
    · exact at_nx2 nH1 (Hp.at_lay_old _ (Hp.at_lay_old _ (Hp.at_lay_self _ _)))
  refine range_goE (fun hh => Grows h hh ∧ hh.at H.next = some (.row 25 true bp) ∧ hh.at (H.next + 1) = some (.row 107 true ((pad5 y.d).map int))) ((posN p.rules (pad5 y.d) p.rules.length).map (mv p.rules (pad5 y.d))) (fun q es hh => ∃ tv T S f, Wd h P T5 A8 A9 M bp p.rules n c to ⟨tv, T, S, f, hh⟩ i i A11 ((H.next + 2) :: ms) (es ++ [H.next + 3, H.next, H.next + 1]) ∧ hh.at H.next = some (.row 25 true bp) ∧ hh.at (H.next + 1) = some (.row 107 true ((pad5 y.d).map int)) ∧ T[i]? = some y ∧ ∀ (m : Nat) (x : Int) (e : List Int), m < q → (posN p.rules (pad5 y.d) p.rules.length)[m]? = some x → step p.rules y.d x = some e → e ∈ T.map Sp.d) (fun _ => False) can108 ?_ rfl (fun I S hx hJ h0 hit => meet_iter _ _ _ bp p.rules (pad5 y.d) h _ b3 k3 hbl hrl hy5 hbd hRn I S _ hx hJ h0 hit) ?_ ?_ ?_ ?_ ?_ ?_
  · intro k hk
    rw [List.getElem_map]
    rfl
  · refine ⟨?_, ?_⟩
    · rintro k es h1 h2 ds ⟨tv, T, S, f, q1, q2, q3, q4, q5⟩ g hds
      have q1' := q1.ext g
      refine ⟨tv, T, S, f, { q1' with m := ?_ }, g.at_ _ _ q2, g.at_ _ _ q3, q4, q5⟩
      have := q1.m.more g ds hds
      rw [← List.append_assoc, ← List.append_assoc] at this
      exact this
    · rintro k es ds h1 ⟨tv, T, S, f, q1, q2, q3, q4, q5⟩
      refine ⟨tv, T, S, f, { q1 with m := q1.m.less fun x hx => ?_ }, q2, q3, q4, q5⟩
      simp at hx ⊢
      rcases hx with e | e | e | e | e | e <;> simp [e]
  · rintro k es hh ⟨tv, T, S, f, q1, q2, q3, q4, q5⟩
    exact ⟨q1.m.gr, q2, q3⟩
  · exact hst _
  · rintro m es xs hget H3 hl3 ⟨tv3, T3, S3, f3, k3', aP3, aC3, hy3, hcur⟩
    have hget2 := List.getElem?_eq_some_iff.1 hget
    obtain ⟨hml, exs⟩ := hget2
    rw [List.getElem_map] at exs
    rw [List.length_map] at hml
    have hexx : ∃ x, (posN p.rules (pad5 y.d) p.rules.length)[m] = x := ⟨_, rfl⟩
    obtain ⟨x, ex⟩ := hexx
    rw [ex] at exs
    have hxm : x ∈ posN p.rules (pad5 y.d) p.rules.length := by rw [← ex]; exact List.getElem_mem _
    have hxi : (posN p.rules (pad5 y.d) p.rules.length)[m]? = some x := by rw [List.getElem?_eq_getElem hml, ex]
    have hst2 := mv_step hyok hRq hxm
    obtain ⟨e, hse, emv⟩ := hst2
    rw [emv] at exs
    subst exs
    have heok := step_ok hRq hyok hse
    have hel := heok.len
    have he5 := pad5_len (c := e) (by omega)
    have hw5 := pad5_five (d := e) (by omega)
    obtain ⟨u1, u2, u3, u4, u5, ee5⟩ := hw5
    have eke : Value.agg ⟨[int u1, int u2, int u3, int u4, int u5]⟩ = enc5 (kk e) := by rw [← ee5]; exact (enc_k5 he5).symm
    unfold cv
    rw [ee5]
    clear hget
    have hl3' := at_nx2 nH3 hl3
    have n8l : A11 ≠ H.next + 3 := by omega
    have nml : H.next + 3 ∉ (H.next + 2) :: ms := fun hx => by
      rcases List.mem_cons.1 hx with e | hx
      · omega
      · have := Hp.lt_of_at (k.mks _ hx)
        dsimp only at this
        omega
    have hlt3 := Hp.lt_of_at hl3'
    have hge := k.m.gr.next
    dsimp only at hge
    conv => whnf
    refine SeqP.go ?_
    conv => whnf
    refine ⟨rfl, _, storeAt_all (vs := [int u1, int u2, int u3, int u4, int u5]) rfl rfl rfl, ?_⟩
    have g4 : Grows H3 (H3.lay (.row 107 true [int u1, int u2, int u3, int u4, int u5])) := Grows.lay _ _
    have k4 := k3'.ext g4
    have k4m := k3'.m.more g4 [H3.next] (fun z hz => by rw [List.mem_singleton.1 hz]; exact ⟨Nat.le_refl _, by rw [Hp.next_lay]; exact Nat.lt_succ_self _⟩)
    have aP4 := g4.at_ _ _ aP3
    have aC4 := g4.at_ _ _ aC3
    have hl4 := Hp.at_lay_old (.row 107 true [int u1, int u2, int u3, int u4, int u5]) hl3
    have a10 : (H3.lay (.row 107 true [int u1, int u2, int u3, int u4, int u5])).at H3.next = some (.row 107 true [int u1, int u2, int u3, int u4, int u5]) := Hp.at_lay_self _ _
    have ke4 : KE es H3 (H3.lay (.row 107 true [int u1, int u2, int u3, int u4, int u5])) := KE.grows g4
    conv => whnf
    refine bodyQ_go hl4 ?_
    intro BO hb2 eBO hbl hbk
    have hbl' := at_nx2 nH3 hbl
    have hbk' := hbk
    rw [nH3] at hbk'
    have k5 := k4.keep (l := H.next + 3) (by simp) n8l nml (by omega) hbk'
    have k5m := k4m.other (d := H.next + 3) (by simp) (Kx.keeps hbk') (hbk'.grows k4m.gr (by omega)) (by rw [hbk'.next]; exact Nat.le_refl _)
    dsimp only at k5m
    have aP5 := hbk'.at_ _ _ (by omega) aP4
    have aC5 := hbk'.at_ _ _ (by omega) aC4
    have a105 := hbk'.at_ _ _ (by omega) a10
    have hok5 : ∀ x ∈ T3, CrOk n x.d := fun x hx => k5.w.g.ok x.d (List.mem_map.2 ⟨x, hx, rfl⟩)
    have hfew4 := crowds_few hn5 k5.w.g.ok k5.w.g.nodup
    rw [List.length_map] at hfew4
    dsimp only at hfew4
    have hts := k5m.t.slice
    obtain ⟨at3, rfl, -⟩ := hts
    conv => whnf
    refine SeqP.cut (α := Bool) (fun b => [(48, .bool b), (13, ptr H3.next 0), (12, int x), (11, ptr A11 0), (9, ptr A9 0), (8, ptr A8 0)]) (fun b H' => hb2 = H' ∧ (b = true ↔ e ∉ T3.map Sp.d)) ?_ ?_
    · conv => whnf
      refine ⟨mapAt M, cellAt_row k5.m.a8 rfl, ?_⟩
      conv => whnf
      refine ⟨_, all_cells a105 rfl, ?_⟩
      conv => whnf
      by_cases hm : e ∈ T3.map Sp.d
      · refine raw_look1_some t147 d147 t4 z4 key107 (k := kk e) rfl (by exact eke) k5.m.m (k5.sn.has e hm) ?_
        conv => whnf
        exact ⟨false, ⟨rfl, rfl, rfl, rfl, rfl, rfl, trivial⟩, ⟨rfl, ⟨fun x => (by cases x), fun x => absurd hm x⟩⟩, rfl⟩
      · have hfn : f3 (kk e) = none := by
          cases hfe : f3 (kk e) with
          | none => rfl
          | some v =>
            obtain ⟨d', hd', ek'⟩ := k5.sn.only _ _ hfe
            obtain ⟨x', hx', rfl⟩ := List.mem_map.1 hd'
            have := k5_pad heok (hok5 x' hx') hn5 ek'
            exact absurd (this ▸ hd') hm
        refine raw_look1_none t147 d147 t4 z4 key107 (k := kk e) rfl (by exact eke) k5.m.m hfn ?_
        conv => whnf
        exact ⟨true, ⟨rfl, rfl, rfl, rfl, rfl, rfl, trivial⟩, ⟨rfl, ⟨fun _ => hm, fun _ => rfl⟩⟩, rfl⟩
    rintro b φ6 _ ⟨rfl, hb⟩
    cases b with
    | false =>
    have hm : e ∈ T3.map Sp.d := Classical.byContradiction fun h => by have := hb.2 h; cases this
    have kR8 := k5
    have ke8 : KE ([H3.next] ++ (es ++ [H.next + 3, H.next, H.next + 1] ++ A11 :: (H.next + 2) :: ms)) hb2 hb2 := fun d hd o e => e
    have aP8 := aP5
    have aC8 := aC5
    have hy8 := hy3
    have hcur8 : ∀ (m' : Nat) (x' : Int) (e' : List Int), m' < m + 1 → (posN p.rules (pad5 y.d) p.rules.length)[m']? = some x' → step p.rules y.d x' = some e' → e' ∈ T3.map Sp.d := fun m' x' e' h1 h2 h3 => by
      by_cases em : m' = m
      · subst em
        rw [hxi] at h2
        cases h2
        rw [hse] at h3
        cases h3
        exact hm
      · exact hcur m' x' e' (by omega) h2 h3
    conv => whnf
    refine endQ_next eBO (at_nx2 nH3.symm hbl') ?_
    intro h9 hr9 hk9
    have hk9' := hk9
    rw [nH3] at hk9'
    have hr9' := at_nx2 nH3 hr9
    refine .inl ⟨rfl, hr9, ⟨_, _, _, _, kR8.keep (l := H.next + 3) (by simp) n8l nml (by omega) hk9', hk9'.at_ _ _ (by omega) aP8, hk9'.at_ _ _ (by omega) aC8, hy8, hcur8⟩, fun z hz o ho => ?_⟩
    by_cases exl : z = H.next + 3
    · subst exl
      rw [hl3'] at ho
      cases ho
      exact hr9'
    · have e1 := hbk'.at_ z o exl (ke4 z hz o ho)
      exact hk9'.at_ z o exl (ke8 z (by simp [hz]) o e1)
    | true =>
    have hm : e ∉ T3.map Sp.d := hb.1 rfl
    have hfn : f3 (kk e) = none := by
      cases hfe : f3 (kk e) with
      | none => rfl
      | some v =>
        obtain ⟨d', hd', ek'⟩ := k5.sn.only _ _ hfe
        obtain ⟨x', hx', rfl⟩ := List.mem_map.1 hd'
        have := k5_pad heok (hok5 x' hx') hn5 ek'
        exact absurd (this ▸ hd') hm
    have a115 := k5.a11
    conv => whnf
    refine SeqP.go ?_
    conv => whnf
    refine ⟨mapAt M, cellAt_row k5m.a8 rfl, ?_⟩
    conv => whnf
    refine ⟨_, all_cells a105 rfl, ?_⟩
    conv => whnf
    refine raw_update t147 d147 key107 (k := kk e) (v := .bool true) rfl (by exact eke) rfl k5m.m ?_
    intro H6 hm6 y6
    rw [hfn] at hm6
    have k6 := k5m.mapped y6 hm6
    have ke6 := k5m.ke (v := pl M) (by simp) (Kx.keeps y6)
    have a106 := ke6 H3.next (by simp) _ a105
    have a116 := ke6 A11 (by simp) _ a115
    conv => whnf
    refine ⟨_, cellAt_row k6.a9 rfl, ?_⟩
    conv => whnf
    refine ⟨[int u1, int u2, int u3, int u4, int u5], all_cells a106 rfl, ?_⟩
    conv => whnf
    refine ⟨_, cellAt_row a116 rfl, ?_⟩
    conv => whnf
    refine k6.t_app (z := ⟨e, i, x⟩) (by show e.length ≤ 5; omega) (by omega) (by unfold sp7; dsimp only; rw [ee5]; rfl) ?_
    intro tv7 H7 k7 ke7
    have hts7 := k7.t.slice
    obtain ⟨at7, rfl, -⟩ := hts7
    conv => whnf
    refine ⟨rfl, _, storeAt_row k7.a9 (o := 0) (by simp) rfl, ?_⟩
    have k8 := k7.put (.slice at7 (T3 ++ [(⟨e, i, x⟩ : Sp)]).length (T3 ++ [(⟨e, i, x⟩ : Sp)]).length)
    have ke78 := k7.ke (v := pl A9) (by simp) (Kx.set H7 A9 (.row 150 true [.slice at7 (T3 ++ [(⟨e, i, x⟩ : Sp)]).length (T3 ++ [(⟨e, i, x⟩ : Sp)]).length]))
    have ke8 := (ke6.trans ke7).trans ke78
    have aP8 := ke8 H.next (by simp) _ aP5
    have aC8 := ke8 (H.next + 1) (by simp) _ aC5
    have aB8 := ke8 (H.next + 3) (by simp) _ hbl'
    have a118 := ke8 A11 (by simp) _ a115
    have mk8 : ∀ z ∈ (H.next + 2) :: ms, (H7.set A9 (.row 150 true [.slice at7 (T3 ++ [(⟨e, i, x⟩ : Sp)]).length (T3 ++ [(⟨e, i, x⟩ : Sp)]).length])).at z = some .noDefers := fun z hz => ke8 z (by rcases List.mem_cons.1 hz with rfl | hz <;> simp [*]) _ (k5.mks z hz)
    have hy8 : (T3 ++ [(⟨e, i, x⟩ : Sp)])[i]? = some y := getE_snoc hy3
    have hws := k5.w.add hRq hy3 hse hm
    have hil3 : i < T3.length := (List.getElem?_eq_some_iff.1 hy3).1
    have kR8 : Wd h P T5 A8 A9 M bp p.rules n c to ⟨.slice at7 (T3 ++ [(⟨e, i, x⟩ : Sp)]).length (T3 ++ [(⟨e, i, x⟩ : Sp)]).length, T3 ++ [(⟨e, i, x⟩ : Sp)], S3 ++ [gl S3 i + 1], (fun k' => if k' = kk e then some (.bool true) else f3 k'), H7.set A9 (.row 150 true [.slice at7 (T3 ++ [(⟨e, i, x⟩ : Sp)]).length (T3 ++ [(⟨e, i, x⟩ : Sp)]).length])⟩ i i A11 ((H.next + 2) :: ms) (es ++ [H.next + 3, H.next, H.next + 1]) := by
      refine ⟨?_, ?_, a118, k.h11, mk8, k5.nd, k5.ge, hws, ?_, ?_⟩
      · have := k8.less (es' := es ++ [H.next + 3, H.next, H.next + 1] ++ A11 :: (H.next + 2) :: ms) (fun z hz => by simp at hz ⊢; rcases hz with e | e | e | e | e | e | e <;> simp [e])
        dsimp only
        rw [List.length_append] at this ⊢
        exact this
      · show Seen ((T3 ++ [(⟨e, i, x⟩ : Sp)]).map Sp.d) _
        rw [List.map_append]
        exact k5.sn.add e
      · show i ≤ (T3 ++ [(⟨e, i, x⟩ : Sp)]).length
        rw [List.length_append]
        omega
      · intro a z ha hz
        dsimp only at hz
        rw [List.getElem?_append_left (by omega)] at hz
        exact k5.no a z ha hz
    have hcur8 : ∀ (m' : Nat) (x' : Int) (e' : List Int), m' < m + 1 → (posN p.rules (pad5 y.d) p.rules.length)[m']? = some x' → step p.rules y.d x' = some e' → e' ∈ (T3 ++ [(⟨e, i, x⟩ : Sp)]).map Sp.d := fun m' x' e' h1 h2 h3 => by
      rw [List.map_append]
      by_cases em : m' = m
      · subst em
        rw [hxi] at h2
        cases h2
        rw [hse] at h3
        cases h3
        simp
      · exact List.mem_append_left _ (hcur m' x' e' (by omega) h2 h3)
    conv => whnf
    refine endQ_next eBO (at_nx2 nH3.symm aB8) ?_
    intro h9 hr9 hk9
    have hk9' := hk9
    rw [nH3] at hk9'
    have hr9' := at_nx2 nH3 hr9
    refine .inl ⟨rfl, hr9, ⟨_, _, _, _, kR8.keep (l := H.next + 3) (by simp) n8l nml (by omega) hk9', hk9'.at_ _ _ (by omega) aP8, hk9'.at_ _ _ (by omega) aC8, hy8, hcur8⟩, fun z hz o ho => ?_⟩
    by_cases exl : z = H.next + 3
    · subst exl
      rw [hl3'] at ho
      cases ho
      exact hr9'
    · have e1 := hbk'.at_ z o exl (ke4 z hz o ho)
      exact hk9'.at_ z o exl (ke8 z (by simp [hz]) o e1)
  · rintro h2 h3 ⟨tv', T', S', f', q1, q2, q3, q4, q5⟩ hkp
    rw [List.length_map] at q5
    rw [nH3] at hkp
    have q1' := q1.keep (l := H.next + 3) (by simp) (by omega) (fun hx => by
      rcases List.mem_cons.1 hx with e | hx
      · omega
      · have := Hp.lt_of_at (k.mks _ hx)
        dsimp only at this
        omega) (by have := k.m.gr.next; dsimp only at this; omega) hkp
    have hyT : (T'.map Sp.d)[i]? = some y.d := by rw [List.getElem?_map, q4]; rfl
    have hall : ∀ x e, step p.rules y.d x = some e → e ∈ T'.map Sp.d := fun x e he => by
      obtain ⟨m, hm, em⟩ := List.getElem_of_mem (step_pos he)
      exact q5 m x e hm (by rw [List.getElem?_eq_getElem hm, em]) he
    have hiT := (List.getElem?_eq_some_iff.1 q4).1
    refine ⟨(⟨tv', T', S', f', h3⟩, H.next + 2), ⟨rfl, rfl, rfl, rfl, rfl, rfl, trivial⟩, ⟨rfl, q1'.m.less (fun x hx => by simp at hx ⊢; rcases hx with e | e | e <;> simp [e]), q1'.sn, q1'.a11, q1'.h11, q1'.mks, q1'.nd, q1'.ge, ⟨q1'.w.g.turn hyT hall, q1'.w.s.turn2 (by rw [List.length_map]; exact hiT) hyT hall, q1'.w.par⟩, hiT, fun a z ha hz => ?_⟩, congrArg (· :: ms) nH2⟩
    by_cases ea : a = i
    · subst ea
      dsimp only at hz
      rw [q4] at hz
      cases hz
      exact hyt
    · exact q1'.no a z (by omega) hz
  · intro h2 hF
    exact hF.elim
end
end Go.Proofs.Ytpiplaicnbapbaa
namespace Go.Proofs.Ytpiplaicnbapbaa
open Go.Rx Go.RowKit
def StepsR (R : List Q4) (c to : List Int) (s : Int) : Prop := (s = -1 ∧ ¬ Rs R c to) ∨ ∃ k : Nat, s = (k : Int) ∧ k ≤ 1000000 ∧ Wy R k c to ∧ ∀ q, Wy R q c to → k ≤ q
theorem under61 : Try.prog.underlying 61 = some (.array 2 22) := Try.underlying61
theorem two_arg {ts : List Tr} (hy : TyT Try.prog 61 ts) : ∃ l0 l1 : List Int, l0.length ≤ maxLen ∧ l1.length ≤ maxLen ∧ ∀ h v, AbsT h v (.ag ts) → ∃ v0 v1, v = .agg ⟨[v0, v1]⟩ ∧ View h v0 l0 ∧ View h v1 l1 := by
  obtain ⟨hl, hx⟩ := ty_array under61 hy
  have hl : ts.length = 2 := hl.trans (by kernel_rfl)
  have f0 := hx 0 (by omega)
  have f1 := hx 1 (by omega)
  rw [cells22] at f0 f1
  rw [show (ts.drop (0 * 1)).take 1 = [ts[0]] from by rw [Nat.zero_mul, List.drop_eq_getElem_cons (by omega), List.take_succ_cons, List.take_zero]] at f0
  rw [show (ts.drop (1 * 1)).take 1 = [ts[1]] from by rw [Nat.mul_one, List.drop_eq_getElem_cons (by omega), List.take_succ_cons, List.take_zero]] at f1
  obtain ⟨l0, e0, m0, r0⟩ := ty_ints under22 cells3 under3 f0
  obtain ⟨l1, e1, m1, r1⟩ := ty_ints under22 cells3 under3 f1
  refine ⟨l0, l1, m0, m1, fun h v k => ?_⟩
  obtain ⟨vs, rfl, hvl, hk⟩ := ag_inv k
  match vs, hvl with
  | [v0, v1], _ =>
  have k0 := hk 0 v0 _ rfl (List.getElem?_eq_getElem (by omega))
  have k1 := hk 1 v1 _ rfl (List.getElem?_eq_getElem (by omega))
  rw [e0] at k0
  rw [e1] at k1
  exact ⟨v0, v1, rfl, k0.view, k1.view⟩
  | [], h | [_], h | _ :: _ :: _ :: _, h => simp [hl] at h
attribute [local irreducible] E idxN cellAt cellsAt storeAt callable helems hmoved lookIn findKey keyOk hentries Hp.at Hp.set Hp.lay arBits hupdated setAt CallP YieldP BoolOf IsWrap Rnd LoopP AppP CutP Int.tmod Int.tdiv Int.fdiv
section
variable [Unknowns]
attribute [local irreducible] ResP sameAt
theorem Way_ok (v w u : Value) (p : Prot) (n : Nat) (a b : List Int) (h : Hp) (hv : PV h v p) (hw : View h w a) (hu : View h u b) (hP : POk p) (en : p.n = n) (ha : CrOk n a) (hb : CrOk n b) : CallP E 29 [v, w, u] h (fun r h' => (∃ w b', r = .tuple ⟨[w, .bool b', int 0]⟩ ∧ WyR p.rules a b h' w b') ∧ Grows h h') := by
  obtain ⟨bx, rfl, hbl, -⟩ := hv.box
  obtain ⟨aw, cw, rfl⟩ := hw.known
  obtain ⟨au, cu, rfl⟩ := hu.known
  have hol := hP.outl
  have hn5 := hP.n5
  have hn1 := hP.n1
  have hst2 := hP.st2
  have hrl := hP.rl
  have hal := ha.len
  have hbll := hb.len
  have hCa : Cnt a p.n := by rw [en]; exact ha.cnt
  have hCb : Cnt b p.n := by rw [en]; exact hb.cnt
  have hp5 := pad5_len (c := a) (by omega)
  have hq5 := pad5_len (c := b) (by omega)
  have hpl : ((pad5 a).map int).length = 5 := by rw [List.length_map, hp5]
  have hql : ((pad5 b).map int).length = 5 := by rw [List.length_map, hq5]
  have g0 : Grows h (h.lay (.row 25 true bx)) := Grows.lay _ _
  have a0 : (h.lay (.row 25 true bx)).at h.next = some (.row 25 true bx) := Hp.at_lay_self _ _
  refine enter29 (by simp) ?_
  conv => whnf
  refine SeqP.go ?_
  conv => whnf
  refine SeqP.cut (α := Nat × Nat × Hp) (fun s => [(11, int 0), (10, ptr s.2.1 0), (9, ptr s.1 0), (3, ptr h.next 0)]) (fun s H => s.2.2 = H ∧ Grows h s.2.2 ∧ s.2.2.at h.next = some (.row 25 true bx) ∧ s.2.2.at s.1 = some (.row 107 true ((pad5 a).map int)) ∧ s.2.2.at s.2.1 = some (.row 107 true ((pad5 b).map int))) ?_ ?_
  · conv => whnf
    refine ⟨bx, all_cells a0 hbl, ?_⟩
    conv => whnf
    refine CallP.mono (both_spec _ _ _ p a b _ (hv.ext g0) (hw.ext g0) (hu.ext g0) (by unfold InR; omega) (by omega) (by omega) (by omega) (by omega) (by omega)) ?_
    rintro r h1 ⟨⟨la, lb, e, rfl, hla, hlb, e1, e2, e3⟩, g1⟩
    obtain ⟨rfl, rfl, rfl⟩ := e3 hP hCa hCb
    unfold cv
    have at9 : ((h1.lay (.row 107 true [int 0, int 0, int 0, int 0, int 0])).lay (.row 107 true [int 0, int 0, int 0, int 0, int 0])).at h1.next = some (.row 107 true [int 0, int 0, int 0, int 0, int 0]) := Hp.at_lay_old _ (Hp.at_lay_self _ _)
    have at10 : ((h1.lay (.row 107 true [int 0, int 0, int 0, int 0, int 0])).lay (.row 107 true [int 0, int 0, int 0, int 0, int 0])).at (h1.lay (.row 107 true [int 0, int 0, int 0, int 0, int 0])).next = some (.row 107 true [int 0, int 0, int 0, int 0, int 0]) := Hp.at_lay_self _ _
    have ne : (h1.lay (.row 107 true [int 0, int 0, int 0, int 0, int 0])).next ≠ h1.next := by rw [Hp.next_lay]; omega
    have gl2 : Grows h1 ((h1.lay (.row 107 true [int 0, int 0, int 0, int 0, int 0])).lay (.row 107 true [int 0, int 0, int 0, int 0, int 0])) := (Grows.lay _ _).then_lay _
    conv => whnf
    refine ⟨by show ((pad5 a).map int).length = 5; exact hpl, _, storeAt_full (vs := (pad5 a).map int) at9 (by rw [hpl]; rfl) (ints_one _) (over_int (k := [0, 0, 0, 0, 0]) (by rw [hp5]; rfl)), ?_⟩
    conv => whnf
    refine ⟨by show ((pad5 b).map int).length = 5; exact hql, _, storeAt_full (vs := (pad5 b).map int) (by rw [Hp.at_set_ne _ ne]; exact at10) (by rw [hql]; rfl) (ints_one _) (over_int (k := [0, 0, 0, 0, 0]) (by rw [hq5]; rfl)), ?_⟩
    conv => whnf
    have hn1' : h.next + 1 ≤ h1.next := by
      have := g1.next
      rw [Hp.next_lay] at this
      exact this
    have hnl : (h1.lay (.row 107 true [int 0, int 0, int 0, int 0, int 0])).next = h1.next + 1 := Hp.next_lay _ _
    refine ⟨(h1.next, _, _), ⟨rfl, rfl, rfl, rfl, trivial⟩, ⟨rfl, ?_, ?_, ?_, ?_⟩, rfl⟩
    · exact ((g0.trans (g1.trans gl2)).then_set _ (by omega)).then_set _ (by rw [Hp.next_lay]; omega)
    · show (Hp.set _ _ _).at h.next = _
      rw [Hp.at_set_ne _ (by rw [Hp.next_lay]; omega), Hp.at_set_ne _ (by omega)]
      exact gl2.at_ _ _ (g1.at_ _ _ a0)
    · show (Hp.set _ _ _).at h1.next = _
      rw [Hp.at_set_ne _ (fun e => ne e.symm)]
      exact Hp.at_set_self _ (Hp.lt_of_at at9)
    · exact Hp.at_set_self _ (by rw [Hp.next_set]; exact Hp.lt_of_at at10)
  rintro ⟨X, Y, H1⟩ φ1 _ ⟨rfl, g1, b1, d1, d2⟩
  dsimp only at g1 b1 d1 d2 ⊢
  conv => whnf
  refine SeqP.cut (α := Unit) (fun s => [(10, ptr Y 0), (9, ptr X 0), (3, ptr h.next 0)]) (fun s H => H1 = H) ?_ ?_
  · conv => whnf
    repeat (refine SeqP.go ?_; conv => whnf)
    refine cmpF (by omega) ?_
    conv => whnf
    repeat (refine SeqP.go ?_; conv => whnf)
    exact ⟨(), ⟨rfl, rfl, rfl, trivial⟩, rfl, rfl⟩
  rintro _ φ2 _ rfl
  have hvH := hv.ext g1
  conv => whnf
  repeat (refine SeqP.go ?_; conv => whnf)
  refine ⟨bx, all_cells b1 hbl, ?_⟩
  conv => whnf
  refine ⟨(pad5 a).map int, all_cells d1 hpl, ?_⟩
  conv => whnf
  refine ⟨(pad5 b).map int, all_cells d2 hql, ?_⟩
  conv => whnf
  refine CallP.mono (way_spec _ p n a b _ hvH hP en ha hb) ?_
  rintro r2 H2 ⟨⟨w2, b2, rfl, hwr⟩, g2⟩
  have hwk : ∃ x y z, w2 = .slice x y z := by
    cases b2 with
    | false => exact ⟨_, _, _, (hwr.1 rfl).1⟩
    | true =>
      obtain ⟨W, hW, -⟩ := hwr.2 rfl
      obtain ⟨x, e⟩ := hW.known
      exact ⟨_, _, _, e⟩
  obtain ⟨x, y, z, rfl⟩ := hwk
  conv => whnf
  repeat (refine SeqP.go ?_; conv => whnf)
  exact ⟨⟨_, b2, rfl, hwr⟩, g1.trans g2⟩
theorem RSteps_spec (v w u : Value) (p : Prot) (n : Nat) (c to : List Int) (h : Hp) (hv : PV h v p) (hw : View h w c) (hu : View h u to) (hP : POk p) (en : p.n = n) (hc : CrOk n c) (ht : CrOk n to) : CallP E 40 [v, w, u] h (fun r h' => (∃ s, r = int s ∧ StepsR p.rules c to s) ∧ Grows h h') := by
  obtain ⟨bp, rfl, hbl, -⟩ := hv.box
  obtain ⟨ac, cc, rfl⟩ := hw.known
  obtain ⟨au, cu, rfl⟩ := hu.known
  have hn5 : n ≤ 5 := by have := hP.n5; omega
  have htl := ht.len
  have nine : ∀ {d : List Int}, CrOk n d → ∀ i, 0 ≤ gl d i ∧ gl d i ≤ 9 := fun hd i => ⟨hd.nn i, hd.le i⟩
  have g0 : Grows h (h.lay (.row 26 true bp)) := Grows.lay _ _
  have a0 : (h.lay (.row 26 true bp)).at h.next = some (.row 26 true bp) := Hp.at_lay_self _ _
  refine enter40 (by simp) ?_
  conv => whnf
  refine SeqP.go ?_
  conv => whnf
  refine SeqP.cut (α := List Value × List (List Int) × List (List Int) × Nat × Hp) (fun s => [(7, ptr s.2.2.2.1 0), (2, .slice au to.length cu)]) (fun s H => s.2.2.2.2 = H ∧ CR H s.1 p.rules n c s.2.1 s.2.2.1 ∧ Grows h H ∧ H.at s.2.2.2.1 = some (.row 64 true s.1)) ?_ ?_
  · conv => whnf
    refine ⟨bp, all_cells a0 hbl, ?_⟩
    conv => whnf
    refine CallP.mono (RReached_ok _ _ p n c _ (hv.ext g0) (hw.ext g0) hP en hc) ?_
    rintro r1 H1 ⟨⟨bx, L, N, rfl, hx⟩, g1⟩
    have hst := hx.stored
    obtain ⟨u0, m0, k0, u1, m1, k1, u2, m2, k2, ebx⟩ := hst
    subst ebx
    conv => whnf
    refine ⟨rfl, _, storeAt_all (vs := [.slice u0 m0 k0, .slice u1 m1 k1, .slice u2 m2 k2]) rfl rfl rfl, ?_⟩
    conv => whnf
    exact ⟨(_, L, N, H1.next, _), ⟨rfl, rfl, trivial⟩, ⟨rfl, hx.ext (Grows.lay _ _), (g0.trans g1).then_lay _, Hp.at_lay_self _ _⟩, rfl⟩
  rintro ⟨bx, L, N, X, H1⟩ φ1 _ ⟨rfl, hx, hg1, hX1⟩
  dsimp only at hx hg1 hX1 ⊢
  have hu1 := hu.ext hg1
  obtain ⟨-, -, ⟨lv, q3, q4⟩, -, -, hgr, hok, hfew, ⟨sv, S, q5, hSv, hS⟩⟩ := hx
  obtain ⟨la, lc, rfl, hcL⟩ := q4
  have hSi := hSv.ints
  obtain ⟨sa, sc, rfl, hcS⟩ := hSi
  have hSl := hS.len
  conv => whnf
  refine SeqP.cut (α := Unit) (fun _ => []) (fun _ H => H1 = H ∧ to ∉ L) ?_ ?_
  rotate_left
  · rintro _ φ9 _ ⟨rfl, hno⟩
    conv => whnf
    repeat (refine SeqP.go ?_; conv => whnf)
    exact ⟨⟨-1, rfl, .inl ⟨rfl, fun hr => hno (hgr.mem.2 hr)⟩⟩, hg1⟩
  conv => whnf
  repeat (refine SeqP.go ?_; conv => whnf)
  refine loop_inv (α := Nat) (fun s => [(8, int s), (7, ptr X 0), (2, .slice au to.length cu)]) (fun _ => H1) (fun s => s ≤ L.length ∧ ∀ a, (ha : a < L.length) → a < s → L[a] ≠ to) (fun s => L.length - s) 0 ⟨Nat.zero_le _, fun a _ h0 => absurd h0 (Nat.not_lt_zero _)⟩ ⟨rfl, rfl, rfl, trivial⟩ (Hp.Le.refl _) ?_
  rintro i φ2 ⟨hi, hno⟩
  conv => whnf
  repeat (refine SeqP.go ?_; conv => whnf)
  refine ⟨_, cellAt_row hX1 q3, ?_⟩
  conv => whnf
  refine cmpB (fun c1 => ?_) (fun c1 => ?_)
  rotate_left
  · conv => whnf
    repeat (refine SeqP.go ?_; conv => whnf)
    refine ⟨(), trivial, ⟨rfl, fun hm => ?_⟩, rfl⟩
    obtain ⟨a, ha, e⟩ := List.getElem_of_mem hm
    exact hno a ha (by omega) e
  have hil : i < L.length := by omega
  have hci := hcL i hil
  obtain ⟨r5, o5, sp5, w5, ea5, hsp5, hc5, hv5⟩ := hci
  subst ea5
  have hexd : ∃ d, L[i] = d := ⟨_, rfl⟩
  obtain ⟨d, ed⟩ := hexd
  have hdok : CrOk n d := by rw [← ed]; exact hok _ (List.getElem_mem _)
  rw [ed] at hv5
  have hdl := hdok.len
  have hkk := hv5.known
  obtain ⟨a5, c5, rfl⟩ := hkk
  have hLi : L[i]? = some d := by rw [List.getElem?_eq_getElem hil, ed]
  conv => whnf
  repeat (refine SeqP.go ?_; conv => whnf)
  refine ⟨_, cellAt_row hX1 q3, ?_⟩
  conv => whnf
  refine ⟨hsp5, ⟨by omega, by omega⟩, ?_⟩
  conv => whnf
  refine ⟨_, (by rw [offAt_eq, Nat.mul_one, Nat.add_comm]; exact hc5), ?_⟩
  conv => whnf
  refine CallP.mono (key_spec _ d _ hv5.ints (by omega) (nine hdok)) ?_
  rintro r6 _ ⟨rfl, rfl⟩
  conv => whnf
  refine CallP.mono (key_spec _ to _ hu1.ints (by omega) (nine ht)) ?_
  rintro r7 _ ⟨rfl, rfl⟩
  conv => whnf
  refine cmpB (fun c2 => ?_) (fun c2 => ?_)
  · have edt : d = to := keyOf_inj hdok ht c2
    subst edt
    have hcs := hcS i (by omega)
    obtain ⟨rs, os, sps, eas, hsps, hcs⟩ := hcs
    subst eas
    obtain ⟨k, ek, hwy⟩ := hS.way i d hLi
    have hle := hS.le i (by omega)
    have eS : S[i]'(by omega) = (k : Int) := by rw [← ek, gl_at]
    rw [eS] at hcs
    conv => whnf
    repeat (refine SeqP.go ?_; conv => whnf)
    refine ⟨_, cellAt_row hX1 q5, ?_⟩
    conv => whnf
    refine ⟨hsps, ⟨by omega, by omega⟩, ?_⟩
    conv => whnf
    refine ⟨_, (by rw [offAt_eq, Nat.mul_one, Nat.add_comm]; exact hcs), ?_⟩
    conv => whnf
    repeat (refine SeqP.go ?_; conv => whnf)
    refine ⟨⟨k, rfl, .inr ⟨k, rfl, by omega, hwy, fun q hq => ?_⟩⟩, hg1⟩
    obtain ⟨b, hb1, hb2⟩ := hS.least hgr.first hq
    have hbl' := (List.getElem?_eq_some_iff.1 hb1).1
    have : b = i := (List.getElem?_inj hbl' hgr.nodup).1 (hb1.trans hLi.symm)
    subst this
    omega
  · conv => whnf
    repeat (refine SeqP.go ?_; conv => whnf)
    refine ⟨((i + 1 : Nat) : Int), wie (by omega) (by omega), ?_⟩
    conv => whnf
    refine Rnd.mk (i + 1) ⟨by show i + 1 ≤ L.length; omega, fun a ha ha1 => ?_⟩ (by show L.length - (i + 1) < L.length - i; omega) ⟨rfl, rfl, rfl, trivial⟩ (Hp.Le.refl _) rfl
    by_cases e3 : a = i
    · subst e3
      rw [ed]
      intro e4
      exact c2 (by rw [e4])
    · exact hno a ha (by omega)
end
end Go.Proofs.Ytpiplaicnbapbaa
namespace Go.Proofs.Ytpiplaicnbapbaa
open Go.Rx Go.RowKit
theorem ways_same {R : List Q4} {c to : List Int} {h' : Hp} {w : Value} {b : Bool} {s : Int} (hw : WyR R c to h' w b) (hs : StepsR R c to s) : (b = false ∧ s = -1 ∧ w = .slice none 0 0) ∨ ∃ W, b = true ∧ s = (W.length : Nat) ∧ LV h' w W ∧ doW R c W = (to, W.length) ∧ W.length ≤ 100000 := by
  cases b with
  | false =>
    obtain ⟨e1, e2⟩ := hw.1 rfl
    rcases hs with ⟨rfl, -⟩ | ⟨k, rfl, -, hk, -⟩
    · exact .inl ⟨rfl, rfl, e1⟩
    · exact absurd hk.rs e2
  | true =>
    obtain ⟨W, h1, h2, h3, h4⟩ := hw.2 rfl
    have hy := wy_of_do (.refl c) h2
    rw [Nat.zero_add] at hy
    rcases hs with ⟨-, hn⟩ | ⟨k, rfl, -, hk, hmin⟩
    · exact absurd hy.rs hn
    · have e1 := h3 k hk
      have e2 := hmin _ hy
      refine .inr ⟨W, rfl, by congr 1; omega, h1, h2, h4⟩
attribute [local irreducible] E idxN cellAt cellsAt storeAt callable helems hmoved lookIn findKey keyOk hentries Hp.at Hp.set Hp.lay arBits hupdated setAt CallP YieldP BoolOf IsWrap Rnd LoopP AppP CutP Int.tmod Int.tdiv Int.fdiv
section
variable [Unknowns]
attribute [local irreducible] ResP sameAt
theorem ways_law (ts0 : List Tr) (hy0 : TyT Try.prog 25 ts0) (ts1 : List Tr) (hy1 : TyT Try.prog 61 ts1) : ∀ h vs, AllT h vs [.ag ts0, .ag ts1] → CallP E 5 vs h (fun r _ => r = .bool true) := by
  have hmax : maxLen < 9223372036854775808 := by decide
  intro h vs hvs
  match vs, hvs with
  | [a0, a1], hvs =>
  obtain ⟨k0, k1, -⟩ := hvs
  obtain ⟨P, pn, po, ps, pr, hP⟩ := prot_arg hy0
  obtain ⟨l0, l1, hl0, hl1, hLL⟩ := two_arg hy1
  have hP := hP h a0 k0
  obtain ⟨v0, v1, rfl, hL0, hL1⟩ := hLL h a1 k1
  obtain ⟨bp, rfl, hbp⟩ := hP.box
  have hk := hL0.known
  obtain ⟨al0, cl0, rfl⟩ := hk
  have hk := hL1.known
  obtain ⟨al1, cl1, rfl⟩ := hk
  have g0 : Grows h ((h.lay (.row 25 true bp)).lay (.row 61 true [.slice al0 l0.length cl0, .slice al1 l1.length cl1])) := (Grows.lay _ _).then_lay _
  have x0 : ((h.lay (.row 25 true bp)).lay (.row 61 true [.slice al0 l0.length cl0, .slice al1 l1.length cl1])).at h.next = some (.row 25 true bp) := Hp.at_lay_old _ (Hp.at_lay_self _ _)
  have x1 : ((h.lay (.row 25 true bp)).lay (.row 61 true [.slice al0 l0.length cl0, .slice al1 l1.length cl1])).at (h.next + 1) = some (.row 61 true [.slice al0 l0.length cl0, .slice al1 l1.length cl1]) := at_nx2 (Hp.next_lay _ _) (Hp.at_lay_self _ _)
  refine enter5 (by simp) ?_
  conv => whnf
  refine SeqP.go ?_
  conv => whnf
  refine SeqP.cut (α := Prot × List Value × Hp × Nat) (fun s => [(5, ptr s.2.2.2 0), (3, ptr (h.next + 1) 0)]) (fun s H => s.2.2.1 = H ∧ Grows h s.2.2.1 ∧ s.2.2.1.at s.2.2.2 = some (.row 26 true s.2.1) ∧ s.2.1.length = 4 ∧ PV s.2.2.1 (.agg ⟨s.2.1⟩) s.1 ∧ POk s.1 ∧ s.2.2.1.at (h.next + 1) = some (.row 61 true [.slice al0 l0.length cl0, .slice al1 l1.length cl1])) ?_ ?_
  · conv => whnf
    refine ⟨bp, all_cells x0 hbp, ?_⟩
    conv => whnf
    refine CallP.mono (tame_spec _ P _ (hP.ext g0) pn (by omega) (by omega) (by omega) 5 (by omega) (by omega)) ?_
    rintro r H2 ⟨⟨x, hx, hok, -⟩, g2⟩
    obtain ⟨v1, v2, v3, rfl, e1, e2, e3⟩ := id hx
    obtain ⟨w1, rfl⟩ := e1.known
    obtain ⟨w2, rfl⟩ := e2.known
    obtain ⟨w3, rfl, -⟩ := e3.slice
    unfold pval at hx ⊢
    conv => whnf
    refine ⟨rfl, _, storeAt_all (vs := [int x.n, .slice w1 x.out.length x.out.length, .slice w2 x.start.length x.start.length, .slice w3 x.rules.length x.rules.length]) rfl rfl rfl, ?_⟩
    conv => whnf
    exact ⟨(x, [int x.n, .slice w1 x.out.length x.out.length, .slice w2 x.start.length x.start.length, .slice w3 x.rules.length x.rules.length], _, H2.next), ⟨rfl, congrArg (fun k => ptr k 0) (Hp.next_lay _ _), trivial⟩, ⟨rfl, (g0.trans g2).then_lay _, Hp.at_lay_self _ _, rfl, hx.ext (Grows.lay _ _), hok, Hp.at_lay_old _ (g2.at_ _ _ x1)⟩, rfl⟩
  rintro ⟨x, b9, H2, X⟩ φ2 _ ⟨rfl, hg2, hX, hb9, hPV, hOk, hx1⟩
  dsimp only at hg2 hX hb9 hPV hOk hx1 ⊢
  obtain ⟨b9', eb9, -, y0, -⟩ := hPV.box
  cases eb9
  have hol := hOk.outl
  have hst2 := hOk.st2
  have hrl := hOk.rl
  have hexn : ∃ n : Nat, x.n = (n : Int) := ⟨x.n.toNat, by have := hOk.n1; omega⟩
  obtain ⟨n, en⟩ := hexn
  have hn5 : n ≤ 5 := by have := hOk.n5; omega
  have hn1 : 1 ≤ n := by have := hOk.n1; omega
  rw [en] at y0
  conv => whnf
  refine SeqP.cut (α := List Value × Hp × Nat) (fun s => [(6, ptr s.2.2 0), (5, ptr X 0), (3, ptr (h.next + 1) 0)]) (fun s H => s.2.1 = H ∧ Grows H2 s.2.1 ∧ s.2.1.at s.2.2 = some (.row 25 true s.1) ∧ s.1.length = 4 ∧ PV s.2.1 (.agg ⟨s.1⟩) x) ?_ ?_
  · conv => whnf
    refine ⟨b9, all_cells hX hb9, ?_⟩
    conv => whnf
    refine CallP.mono (given_spec _ x _ hPV (by omega) (by omega) (by omega)) ?_
    rintro r H3 ⟨hx, g3⟩
    obtain ⟨v1, v2, v3, rfl, e1, e2, e3⟩ := id hx
    obtain ⟨w1, rfl⟩ := e1.known
    obtain ⟨w2, rfl⟩ := e2.known
    obtain ⟨w3, rfl, -⟩ := e3.slice
    unfold pval at hx ⊢
    conv => whnf
    refine ⟨rfl, _, storeAt_all (vs := [int x.n, .slice w1 x.out.length x.out.length, .slice w2 x.start.length x.start.length, .slice w3 x.rules.length x.rules.length]) rfl rfl rfl, ?_⟩
    conv => whnf
    exact ⟨([int x.n, .slice w1 x.out.length x.out.length, .slice w2 x.start.length x.start.length, .slice w3 x.rules.length x.rules.length], _, H3.next), ⟨rfl, rfl, rfl, trivial⟩, ⟨rfl, g3.then_lay _, Hp.at_lay_self _ _, rfl, hx.ext (Grows.lay _ _)⟩, rfl⟩
  rintro ⟨b8, H3, Y⟩ φ3 _ ⟨rfl, hg3, hY, hb8, hPY⟩
  dsimp only at hg3 hY hb8 hPY ⊢
  have hX3 := hg3.at_ _ _ hX
  have hx13 := hg3.at_ _ _ hx1
  have hg03 := hg2.trans hg3
  have okx : ∀ (H' : Hp) (i : Nat) (v : Value), Grows H3 H' → b9[i]? = some v → hval H' (cellAt H' X i) = .val v H' := fun H' i v g e => by
    rw [cellAt_row (g.at_ _ _ hX3) e]
    rfl
  have okl : ∀ (H' : Hp) (i : Nat) (v : Value), Grows H3 H' → [Value.slice al0 l0.length cl0, .slice al1 l1.length cl1][i]? = some v → hval H' (cellAt H' (h.next + 1) i) = .val v H' := fun H' i v g e => by
    rw [cellAt_row (g.at_ _ _ hx13) e]
    rfl
  have gok : ∀ (c : List Int), c.length = n → (∀ x ∈ c, 0 ≤ x) → 1 ≤ c.sum → c.sum ≤ (9 : Nat) → CrOk n c := fun c h1 h2 h3 h4 => ⟨h1, gl_mem (p := fun x => 0 ≤ x) h2 (by omega), h3, by omega⟩
  conv => whnf
  refine SeqP.cut (α := Value × List Int × Value × List Int × Hp) (fun s => [(8, s.2.2.1), (7, s.1), (6, ptr Y 0), (5, ptr X 0)]) (fun s H => s.2.2.2.2 = H ∧ LV s.2.2.2.2 s.1 s.2.1 ∧ CrOk n s.2.1 ∧ LV s.2.2.2.2 s.2.2.1 s.2.2.2.1 ∧ CrOk n s.2.2.2.1 ∧ Grows H3 s.2.2.2.2) ?_ ?_
  · conv => whnf
    refine ⟨⟨by omega, by omega⟩, ?_⟩
    conv => whnf
    refine ⟨.slice al0 l0.length cl0, cellAt_row hx13 rfl, ?_⟩
    conv => whnf
    refine ⟨_, cellAt_row hX3 y0, ?_⟩
    conv => whnf
    refine CallP.mono (gathered_spec _ l0 _ (hL0.ext hg03).ints (by omega) n 9 (by omega) (by omega) (by omega) (by omega)) ?_
    rintro r4 H4 ⟨c, hc1, hc2, hc3, hc4, hc5, g4⟩
    conv => whnf
    refine ⟨⟨by omega, by omega⟩, ?_⟩
    conv => whnf
    refine ⟨.slice al1 l1.length cl1, cellAt_row (g4.at_ _ _ hx13) rfl, ?_⟩
    conv => whnf
    refine ⟨_, cellAt_row (g4.at_ _ _ hX3) y0, ?_⟩
    conv => whnf
    refine CallP.mono (gathered_spec _ l1 _ (hL1.ext (hg03.trans g4)).ints (by omega) n 9 (by omega) (by omega) (by omega) (by omega)) ?_
    rintro r5 H5 ⟨d, hd1, hd2, hd3, hd4, hd5, g5⟩
    have g45 := g4.trans g5
    conv => whnf
    refine ⟨?_, ?_⟩
    · repeat' (first | exact True.intro | (refine And.intro ?_ ?_ <;> (conv => whnf)))
      all_goals first
        | exact sameAt_val (h2 := _) rfl (sameV_ptr3 _ _)
        | exact sameAt_val (h2 := _) rfl (sameV_int _)
        | exact sameAt_val (h2 := _) (show hval _ (idxAV 2 1 (ptr (h.next + 1) 0) (int (1 : Nat))) = _ from idxA_val' ⟨by omega, by omega⟩) (sameV_ptr3 _ _)
        | exact sameAt_val (h2 := _) (show hval _ (idxAV 2 1 (ptr (h.next + 1) 0) (int (0 : Nat))) = _ from idxA_val' ⟨by omega, by omega⟩) (sameV_ptr3 _ _)
        | exact sameAt_val (h2 := _) (okx _ 0 _ (Grows.refl _) y0) (sameV_int _)
        | exact sameAt_val (h2 := _) (okx _ 0 _ g4 y0) (sameV_int _)
        | exact sameAt_val (h2 := _) (okx _ 0 _ g45 y0) (sameV_int _)
        | exact sameAt_val (h2 := _) (okl _ 0 _ (Grows.refl _) rfl) (sameV_slice _ _ _)
        | exact sameAt_val (h2 := _) (okl _ 0 _ g4 rfl) (sameV_slice _ _ _)
        | exact sameAt_val (h2 := _) (okl _ 0 _ g45 rfl) (sameV_slice _ _ _)
        | exact sameAt_val (h2 := _) (okl _ 1 _ (Grows.refl _) rfl) (sameV_slice _ _ _)
        | exact sameAt_val (h2 := _) (okl _ 1 _ g4 rfl) (sameV_slice _ _ _)
        | exact sameAt_val (h2 := _) (okl _ 1 _ g45 rfl) (sameV_slice _ _ _)
        | trace_state
    conv => whnf
    exact ⟨(r4, c, r5, d, H5), ⟨rfl, rfl, rfl, rfl, trivial⟩, ⟨rfl, LV.of (hc1.ext g5), gok c hc2 hc3 hc4 hc5, LV.of hd1, gok d hd2 hd3 hd4 hd5, g45⟩, rfl⟩
  rintro ⟨av, a, bv0, bl0, H5⟩ φ4 _ ⟨rfl, hav, haok, hbv0, hbok0, hg5⟩
  dsimp only at hav haok hbv0 hbok0 hg5 ⊢
  have hal := haok.len
  have hkk := hav.known
  obtain ⟨aav, rfl⟩ := hkk
  have hkk := hbv0.known
  obtain ⟨abv, rfl⟩ := hkk
  have hX5 := hg5.at_ _ _ hX3
  have hY5 := hg5.at_ _ _ hY
  have hPX5 := hPV.ext (hg3.trans hg5)
  have hPY5 := hPY.ext hg5
  conv => whnf
  refine SeqP.cut (α := List Value × List (List Int) × List (List Int) × Nat × Hp) (fun s => [(9, ptr s.2.2.2.1 0), (8, .slice abv bl0.length bl0.length), (7, .slice aav a.length a.length), (6, ptr Y 0), (5, ptr X 0)]) (fun s H => s.2.2.2.2 = H ∧ CR H s.1 x.rules n a s.2.1 s.2.2.1 ∧ Grows H5 H ∧ H.at s.2.2.2.1 = some (.row 64 true s.1)) ?_ ?_
  · conv => whnf
    refine ⟨b9, all_cells hX5 hb9, ?_⟩
    conv => whnf
    refine CallP.mono (RReached_ok _ _ x n a _ hPX5 hav.view hOk en haok) ?_
    rintro r1 H1 ⟨⟨bx, L, N, rfl, hx⟩, g1⟩
    have hst := hx.stored
    obtain ⟨u0, m0, k0, u1, m1, k1, u2, m2, k2, ebx⟩ := hst
    subst ebx
    conv => whnf
    refine ⟨rfl, _, storeAt_all (vs := [.slice u0 m0 k0, .slice u1 m1 k1, .slice u2 m2 k2]) rfl rfl rfl, ?_⟩
    conv => whnf
    exact ⟨(_, L, N, H1.next, _), ⟨rfl, rfl, rfl, rfl, rfl, trivial⟩, ⟨rfl, hx.ext (Grows.lay _ _), g1.then_lay _, Hp.at_lay_self _ _⟩, rfl⟩
  rintro ⟨bx, L, N, Z, H6⟩ φ5 _ ⟨rfl, hx, hg6, hZ⟩
  dsimp only at hx hg6 hZ ⊢
  obtain ⟨-, -, ⟨lv, q3, q4⟩, -, -, hgr, hLok, hfew, -⟩ := hx
  obtain ⟨la, lc, elv, hcL⟩ := id q4
  subst elv
  have hpos := hgr.pos
  conv => whnf
  refine SeqP.cut (α := Hp) (fun s => [(10, int (L.length : Nat)), (11, int 0), (9, ptr Z 0), (8, .slice abv bl0.length bl0.length), (7, .slice aav a.length a.length), (6, ptr Y 0), (5, ptr X 0)]) (fun s H => s = H ∧ Grows H6 s) ?_ ?_
  · conv => whnf
    refine ⟨b8, all_cells (hg6.at_ _ _ hY5) hb8, ?_⟩
    conv => whnf
    refine CallP.mono (Reached_ok _ _ x n a _ (hPY5.ext hg6) (hav.ext hg6).view hOk en haok) ?_
    rintro r7 H7 ⟨⟨L2, rfl, hL2, -⟩, g7⟩
    rw [hL2.len_uniq hgr]
    conv => whnf
    exact ⟨H7, ⟨rfl, rfl, rfl, rfl, rfl, rfl, rfl, trivial⟩, ⟨rfl, g7⟩, rfl⟩
  rintro H7 φ6 _ ⟨rfl, hg7⟩
  have hZ7 := hg7.at_ _ _ hZ
  have hg57 := hg6.trans hg7
  have hX7 := hg57.at_ _ _ hX5
  have hY7 := hg57.at_ _ _ hY5
  have hPX7 := hPX5.ext hg57
  have hPY7 := hPY5.ext hg57
  have hav7 := hav.ext hg57
  have q47 := q4.ext hg7
  conv => whnf
  refine SeqP.cut (α := Unit) (fun s => [(9, ptr Z 0), (8, .slice abv bl0.length bl0.length), (7, .slice aav a.length a.length), (6, ptr Y 0), (5, ptr X 0)]) (fun s H => H7 = H) ?_ ?_
  · conv => whnf
    repeat (refine SeqP.go ?_; conv => whnf)
    refine cmpF (by omega) ?_
    conv => whnf
    refine ⟨_, cellAt_row hZ7 q3, ?_⟩
    conv => whnf
    refine cmpF (by omega) ?_
    conv => whnf
    repeat (refine SeqP.go ?_; conv => whnf)
    exact ⟨(), ⟨rfl, rfl, rfl, rfl, rfl, trivial⟩, rfl, rfl⟩
  rintro _ φ7 _ rfl
  conv => whnf
  refine SeqP.cut (α := Unit) (fun _ => []) (fun _ H => True) ?_ ?_
  rotate_left
  · rintro _ φ16 H14 _
    conv => whnf
    repeat (refine SeqP.go ?_; conv => whnf)
    refine memo27 ?_
    conv => whnf
    repeat (refine SeqP.go ?_; conv => whnf)
    rfl
  conv => whnf
  repeat (refine SeqP.go ?_; conv => whnf)
  refine loop_inv (α := Nat × Value × List Int × Hp) (fun s => [(12, int s.1), (9, ptr Z 0), (8, s.2.1), (7, .slice aav a.length a.length), (6, ptr Y 0), (5, ptr X 0)]) (fun s => s.2.2.2) (fun s => s.1 ≤ 2 ∧ Grows H7 s.2.2.2 ∧ View s.2.2.2 s.2.1 s.2.2.1 ∧ CrOk n s.2.2.1) (fun s => 2 - s.1) (0, .slice abv bl0.length bl0.length, bl0, H7) ⟨Nat.zero_le _, Grows.refl _, (hbv0.ext hg57).view, hbok0⟩ ⟨rfl, rfl, rfl, rfl, rfl, rfl, trivial⟩ (Hp.Le.refl _) ?_
  rintro ⟨i, bv, b, H⟩ φ8 ⟨hi, hg, hbv, hbok⟩
  dsimp only at hi hg hbv hbok ⊢
  conv => whnf
  repeat (refine SeqP.go ?_; conv => whnf)
  refine cmpB (fun c1 => ?_) (fun c1 => ?_)
  rotate_left
  · conv => whnf
    repeat (refine SeqP.go ?_; conv => whnf)
    exact ⟨(), trivial, trivial, rfl⟩
  have hbl := hbok.len
  have hkk := hbv.known
  obtain ⟨ab, cb, rfl⟩ := hkk
  conv => whnf
  refine SeqP.cut (α := Value × List Int × Hp) (fun s => [(12, int i), (9, ptr Z 0), (8, s.1), (7, .slice aav a.length a.length), (6, ptr Y 0), (5, ptr X 0)]) (fun s H' => s.2.2 = H' ∧ Grows H s.2.2 ∧ View s.2.2 s.1 s.2.1 ∧ CrOk n s.2.1) ?_ ?_
  rotate_left
  · rintro ⟨bv', b', H'⟩ φ9 _ ⟨rfl, g', hb', hok'⟩
    dsimp only at g' hb' hok' ⊢
    conv => whnf
    refine ⟨((i + 1 : Nat) : Int), wie (by omega) (by omega), ?_⟩
    conv => whnf
    exact Rnd.mk (i + 1, bv', b', H') ⟨by show i + 1 ≤ 2; omega, hg.trans g', hb', hok'⟩ (by show 2 - (i + 1) < 2 - i; omega) ⟨rfl, rfl, rfl, rfl, rfl, rfl, trivial⟩ (Hp.Le.refl _) rfl
  have hYH := hg.at_ _ _ hY7
  have hXH := hg.at_ _ _ hX7
  have hZH := hg.at_ _ _ hZ7
  conv => whnf
  refine SeqP.cut (α := Value × Bool × Hp) (fun s => [(13, s.1), (14, .bool s.2.1), (15, int 0), (12, int i), (9, ptr Z 0), (8, .slice ab b.length cb), (7, .slice aav a.length a.length), (6, ptr Y 0), (5, ptr X 0)]) (fun s H' => s.2.2 = H' ∧ Grows H s.2.2 ∧ WyR x.rules a b s.2.2 s.1 s.2.1) ?_ ?_
  · conv => whnf
    refine ⟨b8, all_cells hYH hb8, ?_⟩
    conv => whnf
    refine CallP.mono (Way_ok _ _ _ x n a b _ (hPY7.ext hg) (hav7.ext hg).view hbv hOk en haok hbok) ?_
    rintro r9 H9 ⟨⟨w, bb, rfl, hw⟩, g9⟩
    have hwk : ∃ x y z, w = .slice x y z := by
      cases bb with
      | false => exact ⟨_, _, _, (hw.1 rfl).1⟩
      | true =>
        obtain ⟨W, hW, -⟩ := hw.2 rfl
        obtain ⟨x, e⟩ := hW.known
        exact ⟨_, _, _, e⟩
    obtain ⟨wx, wy, wz, rfl⟩ := hwk
    conv => whnf
    exact ⟨(_, bb, H9), ⟨rfl, rfl, rfl, rfl, rfl, rfl, rfl, rfl, rfl, trivial⟩, ⟨rfl, g9, hw⟩, rfl⟩
  rintro ⟨w, bb, H9⟩ φ9 _ ⟨rfl, hg9, hw⟩
  dsimp only at hg9 hw ⊢
  have hgg9 := hg.trans hg9
  conv => whnf
  refine SeqP.cut (α := Int × Hp) (fun s => [(16, int s.1), (13, w), (14, .bool bb), (15, int 0), (12, int i), (9, ptr Z 0), (8, .slice ab b.length cb), (7, .slice aav a.length a.length), (6, ptr Y 0), (5, ptr X 0)]) (fun s H' => s.2 = H' ∧ Grows H9 s.2 ∧ StepsR x.rules a b s.1) ?_ ?_
  · conv => whnf
    refine ⟨b9, all_cells (hg9.at_ _ _ hXH) hb9, ?_⟩
    conv => whnf
    refine CallP.mono (RSteps_spec _ _ _ x n a b _ (hPX7.ext hgg9) (hav7.ext hgg9).view (hbv.ext hg9) hOk en haok hbok) ?_
    rintro r10 H10 ⟨⟨s, rfl, hs⟩, g10⟩
    conv => whnf
    exact ⟨(s, H10), ⟨rfl, rfl, rfl, rfl, rfl, rfl, rfl, rfl, rfl, rfl, trivial⟩, ⟨rfl, g10, hs⟩, rfl⟩
  rintro ⟨s, H10⟩ φ10 _ ⟨rfl, hg10, hs⟩
  dsimp only at hg10 hs ⊢
  have hsame := ways_same hw hs
  have hgg10 := hgg9.trans hg10
  have hX10 := hgg10.at_ _ _ hX7
  have hZ10 := hgg10.at_ _ _ hZ7
  have hbv10 := hbv.ext (hg9.trans hg10)
  have hPX10 := hPX7.ext hgg10
  have hav10 := hav7.ext hgg10
  have q410 := q47.ext hgg10
  conv => whnf
  refine SeqP.cut (α := Unit) (fun s_ => [(16, int s), (13, w), (14, .bool bb), (12, int i), (9, ptr Z 0), (8, .slice ab b.length cb), (7, .slice aav a.length a.length), (6, ptr Y 0), (5, ptr X 0)]) (fun s_ H' => H10 = H') ?_ ?_
  · rcases hsame with ⟨rfl, rfl, rfl⟩ | ⟨W, rfl, rfl, hWv, hdo, hWl⟩
    · conv => whnf
      repeat (refine SeqP.go ?_; conv => whnf)
      refine cmpF (by omega) ?_
      conv => whnf
      refine cmpF (by omega) ?_
      conv => whnf
      refine resP_val (v := .bool false) (h := H10) ?_ ?_
      · show hval _ (aBin E .neq 4 _ _ (.bool false) (.bool false)) = _
        rw [bool_neq]
        rfl
      conv => whnf
      refine cmpF (by omega) ?_
      conv => whnf
      repeat (refine SeqP.go ?_; conv => whnf)
      exact ⟨(), ⟨rfl, rfl, rfl, rfl, rfl, rfl, rfl, rfl, rfl, trivial⟩, rfl, rfl⟩
    · conv => whnf
      repeat (refine SeqP.go ?_; conv => whnf)
      refine cmpF (by omega) ?_
      conv => whnf
      refine cmpT (by omega) ?_
      conv => whnf
      refine resP_val (v := .bool false) (h := H10) ?_ ?_
      · show hval _ (aBin E .neq 4 _ _ (.bool true) (.bool true)) = _
        rw [bool_neq]
        rfl
      conv => whnf
      repeat (refine SeqP.go ?_; conv => whnf)
      exact ⟨(), ⟨rfl, rfl, rfl, rfl, rfl, rfl, rfl, rfl, rfl, trivial⟩, rfl, rfl⟩
  rintro _ φ11 _ rfl
  conv => whnf
  refine SeqP.cut (α := Hp) (fun s_ => [(12, int i), (9, ptr Z 0), (7, .slice aav a.length a.length), (6, ptr Y 0), (5, ptr X 0)]) (fun s_ H' => s_ = H' ∧ Grows H10 s_) ?_ ?_
  · rcases hsame with ⟨rfl, rfl, rfl⟩ | ⟨W, rfl, rfl, hWv, hdo, hWl⟩
    · conv => whnf
      refine SeqP.go ?_
      conv => whnf
      refine ⟨b9, all_cells hX10 hb9, ?_⟩
      conv => whnf
      refine CallP.mono (RDo_spec _ _ _ x a [] n _ hPX10 hav10.view ⟨none, 0, rfl, fun k hk => by simp at hk⟩ (by simp) hOk en haok) ?_
      rintro r11 H11 ⟨⟨wv, rfl, hwv⟩, -, g11⟩
      have hwk := hwv.known
      obtain ⟨awv, cwv, rfl⟩ := hwk
      conv => whnf
      repeat (refine SeqP.go ?_; conv => whnf)
      exact ⟨H11, ⟨rfl, rfl, rfl, rfl, rfl, trivial⟩, ⟨rfl, g11⟩, rfl⟩
    · have hWv10 : LV H10 w W := hWv.ext hg10
      have hwk := hWv10.known
      obtain ⟨aW, rfl⟩ := hwk
      conv => whnf
      refine SeqP.go ?_
      conv => whnf
      refine ⟨b9, all_cells hX10 hb9, ?_⟩
      conv => whnf
      refine CallP.mono (RDo_spec _ _ _ x a W n _ hPX10 hav10.view hWv10.ints (by omega) hOk en haok) ?_
      rintro r11 H11 ⟨⟨wv, rfl, hwv⟩, -, g11⟩
      rw [hdo] at hwv ⊢
      dsimp only at hwv ⊢
      have hwk := hwv.known
      obtain ⟨awv, cwv, rfl⟩ := hwk
      conv => whnf
      repeat (refine SeqP.go ?_; conv => whnf)
      refine cmpF (by omega) ?_
      conv => whnf
      refine cmpF (by omega) ?_
      conv => whnf
      refine CallP.mono (ints_same _ _ b _ hwv.ints (hbv10.ext g11).ints (by omega)) ?_
      rintro r12 _ ⟨rfl, rfl⟩
      conv => whnf
      repeat (refine SeqP.go ?_; conv => whnf)
      exact ⟨_, ⟨rfl, rfl, rfl, rfl, rfl, trivial⟩, ⟨rfl, g11⟩, rfl⟩
  rintro H11 φ12 _ ⟨rfl, hg11⟩
  have hZ11 := hg11.at_ _ _ hZ10
  have q411 := q410.ext hg11
  obtain ⟨la2, lc2, elv2, hcL2⟩ := q411
  cases elv2
  have hcl := hcL2 (L.length - 1) (by omega)
  obtain ⟨r5, o5, sp5, w5, ea5, hsp5, hc5, hv5⟩ := hcl
  subst ea5
  have hdok : CrOk n L[L.length - 1] := hLok _ (List.getElem_mem _)
  have hkk := hv5.known
  obtain ⟨a5, c5, rfl⟩ := hkk
  conv => whnf
  repeat (refine SeqP.go ?_; conv => whnf)
  refine ⟨_, cellAt_row hZ11 q3, ?_⟩
  conv => whnf
  refine ⟨_, cellAt_row hZ11 q3, ?_⟩
  conv => whnf
  refine ⟨((L.length - 1 : Nat) : Int), wie (by omega) (by omega), ?_⟩
  conv => whnf
  refine ⟨hsp5, ⟨by omega, by omega⟩, ?_⟩
  conv => whnf
  refine ⟨_, (by rw [offAt_eq, Nat.mul_one, Nat.add_comm]; exact hc5), ?_⟩
  conv => whnf
  exact ⟨(_, L[L.length - 1], H11), ⟨rfl, rfl, rfl, rfl, rfl, rfl, trivial⟩, ⟨rfl, (hg9.trans hg10).trans hg11, hv5, hdok⟩, rfl⟩
end
end Go.Proofs.Ytpiplaicnbapbaa
