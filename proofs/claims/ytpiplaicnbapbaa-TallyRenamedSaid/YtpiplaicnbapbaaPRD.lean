/- Contracts of the functions that PRD comes to. -/
import Derived.Test.YtpiplaicnbapbaaPRC
set_option maxRecDepth 100000
set_option maxHeartbeats 2000000
set_option linter.unusedVariables false
set_option linter.unusedSectionVars false
set_option linter.unusedSimpArgs false
namespace Go.Proofs.Ytpiplaicnbapbaa
open Go.Rx Go.RowKit
theorem elemsC_ext {h h' : Hp} {s m : Nat} {x : Value} {new : List Value} (g : Grows h h') (k : ElemsC h s x m new) : ElemsC h' s x m new := by
  obtain ⟨h1, h2, h3, h4⟩ := k
  refine ⟨h1, ?_, h3, h4⟩
  cases x with
  | slice a n c =>
    cases a with
    | none => exact h2
    | some ad =>
      obtain ⟨r, o, sp⟩ := ad
      unfold helems at h2 ⊢
      dsimp only at h2 ⊢
      split at h2
      · exact h2
      · exact g.cells h2
  | _ => exact h2
def C4 (h : Hp) (v : Value) (n : Nat) (l : List Int) : Prop := (∃ a, v = .slice a n n) ∧ ∀ k, k ≤ n → ∃ x, ElemsC h 4 x k ((l.take (k * 4)).map int) ∧ (∀ h', Grows h h' → hcutS h' 4 v none (some (int k)) none = .val x h') ∧ sameV 4 x x = true
theorem C4.ext {h h' : Hp} {v : Value} {n : Nat} {l : List Int} (k : C4 h v n l) (g : Grows h h') : C4 h' v n l :=
  ⟨k.1, fun j hj => let ⟨x, h1, h2, h3⟩ := k.2 j hj; ⟨x, elemsC_ext g h1, fun h2' g2 => h2 h2' (g.trans g2), h3⟩⟩
theorem C4.of {h0 h : Hp} {v : Value} {n : Nat} {l : List Int} (k : BuiltC h0 h 96 4 v n (l.map int)) : C4 h v n l := by
  obtain ⟨hl, hb⟩ := k
  rw [List.length_map] at hl
  have hbd : ∀ j : Nat, BdOf none (some (int j)) n 0 j := fun j => ⟨.inl ⟨rfl, rfl⟩, .inr rfl⟩
  rcases hb with ⟨rfl, rfl⟩ | ⟨r, rfl, -, x, hr⟩
  · refine ⟨⟨_, rfl⟩, fun j hj => ⟨.slice none 0 0, ?_, fun h' _ => ?_, sameV_slice _ _ _⟩⟩
    · have : j = 0 := by omega
      subst this
      exact ⟨rfl, rfl, rfl, rfl⟩
    · have : j = 0 := by omega
      subst this
      unfold hcutS
      dsimp only
      rw [bounds_of (len := 0) (i := 0) (j := 0) ⟨.inl ⟨rfl, rfl⟩, .inr rfl⟩ (by omega) (by omega) (Nat.le_refl _)]
      rfl
  · refine ⟨⟨_, rfl⟩, fun k hk => ?_⟩
    have hlen : ((l.take (k * 4)).map int).length = k * 4 := by rw [List.length_map, List.length_take]; omega
    have el : ∀ x, x = slc r 0 k n ∨ x = void ∧ k = 0 → ElemsC h 4 x k ((l.take (k * 4)).map int) := by
      rintro x (rfl | ⟨rfl, rfl⟩)
      · refine ⟨rfl, ?_, hlen, ints_one _⟩
        show cellsAt h r 0 (k * 4) = _
        rw [cellsAt_row hr (by rw [List.length_map]; omega), List.drop_zero, List.map_take]
      · exact ⟨rfl, rfl, by simp, by simp⟩
    have shape : ∀ h', Grows h h' → hcutS h' 4 (slc r 0 n n) none (some (int k)) none = hcutObj h' 4 r 0 true (some (0, k, n)) (some (.row 96 x (l.map int))) := by
      intro h' g
      unfold hcutS
      dsimp only [slc]
      rw [bounds_of (hbd k) (by omega) hk (Nat.le_refl _)]
      show hcutObj h' 4 r 0 true (some (0, k, n)) (h'.at r) = _
      rw [g.at_ _ _ hr]
    have opened : ∃ y, (y = slc r 0 k n ∨ y = void ∧ k = 0) ∧ ∀ h', hcutObj h' 4 r 0 true (some (0, k, n)) (some (.row 96 x (l.map int))) = .val y h' := by
      cases x with
      | true =>
        refine ⟨slc r 0 k n, .inl rfl, fun h' => ?_⟩
        have e0 : cutTo 4 0 0 n = 0 := by
          unfold cutTo
          cases Nat.beq n 0 <;> rfl
        unfold hcutObj cutExact
        dsimp only
        rw [e0]
        rfl
      | false =>
        show ∃ y, (y = slc r 0 k n ∨ y = void ∧ k = 0) ∧ ∀ h', lift (cutOf D0 4 r 0 true (some (0, k, n))) h' = .val y h'
        unfold cutOf cutOpen
        dsimp only
        cases hble : Nat.ble (Nat.succ 0) n with
        | true => exact ⟨_, .inl rfl, fun h' => rfl⟩
        | false =>
          have hn : ¬ 1 ≤ n := fun hle => by rw [Nat.ble_eq_true_of_le hle] at hble; cases hble
          unfold cutAll
          have e1 : Nat.sub k 0 = 0 := by show k - 0 = 0; omega
          have e2 : Nat.sub n 0 = 0 := by show n - 0 = 0; omega
          rw [e1, e2]
          exact ⟨_, .inr ⟨rfl, by omega⟩, fun h' => rfl⟩
    obtain ⟨y, hy, hy2⟩ := opened
    refine ⟨y, el y hy, fun h' g => by rw [shape h' g, hy2 h'], ?_⟩
    rcases hy with rfl | ⟨rfl, _⟩ <;> exact sameV_slice _ _ _
def PX (h : Hp) (v : Value) (p : Prot) : Prop := ∃ vo vs vr, v = pval p.n vo vs vr ∧ View h vo p.out ∧ View h vs p.start ∧ C4 h vr p.rules.length (flat4 p.rules)
theorem PX.of {h : Hp} {v : Value} {p : Prot} (k : PV h v p) : PX h v p := by
  obtain ⟨a, b, c, e, h1, h2, h3⟩ := k
  exact ⟨a, b, c, e, h1.view, h2.view, C4.of h3⟩
theorem PX.ext {h h' : Hp} {v : Value} {p : Prot} (g : Grows h h') (k : PX h v p) : PX h' v p := by
  obtain ⟨a, b, c, e, h1, h2, h3⟩ := k
  exact ⟨a, b, c, e, h1.ext g, h2.ext g, h3.ext g⟩
theorem nodup_sub : ∀ {l m : List (List Int)}, l.Nodup → (∀ x ∈ l, x ∈ m) → l.length ≤ m.length
  | [], m, _, _ => Nat.zero_le _
  | x :: l, m, hn, hs => by
    have hc := List.nodup_cons.1 hn
    have hx : x ∈ m := hs x (by simp)
    have h1 := nodup_sub (l := l) (m := m.erase x) hc.2 (fun y hy => by
      have hne : y ≠ x := fun e => hc.1 (e ▸ hy)
      exact (List.mem_erase_of_ne hne).2 (hs y (by simp [hy])))
    rw [List.length_erase_of_mem hx] at h1
    have := List.length_pos_of_mem hx
    simp only [List.length_cons]
    omega
theorem Gr.len_uniq {R : List Q4} {c : List Int} {L L' : List (List Int)} (g : Gr R c L) (g' : Gr R c L') : L.length = L'.length :=
  Nat.le_antisymm (nodup_sub g.nodup fun x hx => g'.mem.2 (g.mem.1 hx)) (nodup_sub g'.nodup fun x hx => g.mem.2 (g'.mem.1 hx))
end Go.Proofs.Ytpiplaicnbapbaa
namespace Go.Proofs.Ytpiplaicnbapbaa
open Go.Rx Go.RowKit
def PN (h h' : Hp) (r : Value) (p : Prot) : Prop := ∃ A B C x y z, r = pval p.n (slc A 0 p.out.length p.out.length) (slc B 0 p.start.length p.start.length) (slc C 0 p.rules.length p.rules.length) ∧ h'.at A = some (.row 3 x (p.out.map int)) ∧ h'.at B = some (.row 3 y (p.start.map int)) ∧ h'.at C = some (.row 96 z ((flat4 p.rules).map int)) ∧ h.next ≤ A ∧ h.next ≤ B ∧ h.next ≤ C ∧ A ≠ B
theorem PN.pv {h h' : Hp} {r : Value} {p : Prot} (k : PN h h' r p) : PV h' r p := by
  obtain ⟨A, B, C, x, y, z, e, h1, h2, h3, h4, h5, h6, -⟩ := k
  exact ⟨_, _, _, e, .inr ⟨A, rfl, Nat.zero_le _, x, h1⟩, .inr ⟨B, rfl, Nat.zero_le _, y, h2⟩, by rw [List.length_map, flat4_len], .inr ⟨C, rfl, Nat.zero_le _, z, h3⟩⟩
theorem finP_two {φ : Rx.Frame} {h : Hp} {a b : Nat} {x y : Value} {Q : Value → Hp → Prop} (ha : φ a = x) (hb : φ b = y) (ux : isUndef x = false) (uy : isUndef y = false) (q : Q (.tuple ⟨[x, y]⟩) h) : finP E [.tmp a, .tmp b] ⟨φ, h, []⟩ Q := by
  unfold finP
  dsimp only
  rw [show takeMarksφ [] h = some h from rfl]
  dsimp only
  rw [show resultsφ E φ h [.tmp a, .tmp b] = some [x, y] from by simp only [resultsφ, resultφ, ha, hb, ux, uy]]
  exact q
attribute [local irreducible] E idxN cellAt cellsAt storeAt callable helems hmoved lookIn findKey keyOk hentries Hp.at Hp.set Hp.lay arBits hupdated setAt CallP YieldP BoolOf IsWrap Rnd LoopP AppP CutP Int.tmod Int.tdiv Int.fdiv
section
variable [Unknowns]
attribute [local irreducible] ResP sameAt finP
theorem Reached_ok (v w : Value) (p : Prot) (n : Nat) (c : List Int) (h : Hp) (hv : PV h v p) (hw : View h w c) (hP : POk p) (en : p.n = n) (hc : CrOk n c) : CallP E 30 [v, w] h (fun r h' => (∃ L, r = .tuple ⟨[int (L.length : Nat), int 0]⟩ ∧ Gr p.rules c L ∧ L.length ≤ 100000) ∧ Grows h h') := by
  obtain ⟨bx, rfl, hbl, -⟩ := hv.box
  obtain ⟨ac, cc, rfl⟩ := hw.known
  have hol := hP.outl
  have hn5 := hP.n5
  have hn1 := hP.n1
  have hst2 := hP.st2
  have hrl := hP.rl
  have hcl := hc.len
  have hC : Cnt c p.n := by rw [en]; exact hc.cnt
  have hp5 := pad5_len (c := c) (by omega)
  have g0 : Grows h (h.lay (.row 25 true bx)) := Grows.lay _ _
  have a0 : (h.lay (.row 25 true bx)).at h.next = some (.row 25 true bx) := Hp.at_lay_self _ _
  refine enter30 (by simp) ?_
  conv => whnf
  refine SeqP.go ?_
  conv => whnf
  refine SeqP.cut (α := Nat × Hp) (fun s => [(7, int 0), (6, ptr s.1 0), (2, ptr h.next 0)]) (fun s H => s.2 = H ∧ Grows h s.2 ∧ s.2.at h.next = some (.row 25 true bx) ∧ s.2.at s.1 = some (.row 107 true ((pad5 c).map int))) ?_ ?_
  · conv => whnf
    refine ⟨bx, all_cells a0 hbl, ?_⟩
    conv => whnf
    refine CallP.mono (read_spec _ _ p c _ (hv.ext g0) (hw.ext g0) (by unfold InR; omega) (by omega) (by omega) (by omega) (by omega)) ?_
    rintro r h1 ⟨⟨l, e, rfl, hl, e1, e2, e3⟩, g1⟩
    obtain ⟨rfl, rfl⟩ := e3 hP hC
    unfold cv
    conv => whnf
    refine ⟨by show ((pad5 c).map int).length = 5; rw [List.length_map, hl], _, storeAt_all (vs := (pad5 c).map int) (by rw [List.length_map, hl]; rfl) (ints_one _) (over_int (k := [0, 0, 0, 0, 0]) (by rw [hl]; rfl)), ?_⟩
    conv => whnf
    exact ⟨(h1.next, _), ⟨rfl, rfl, rfl, trivial⟩, ⟨rfl, (g0.trans g1).then_lay _, Hp.at_lay_old _ (g1.at_ _ _ a0), Hp.at_lay_self _ _⟩, rfl⟩
  rintro ⟨X, H1⟩ φ1 _ ⟨rfl, g1, b1, d1⟩
  dsimp only at g1 b1 d1 ⊢
  conv => whnf
  refine SeqP.cut (α := Unit) (fun s => [(6, ptr X 0), (2, ptr h.next 0)]) (fun s H => H1 = H) ?_ ?_
  · conv => whnf
    repeat (refine SeqP.go ?_; conv => whnf)
    refine cmpF (by omega) ?_
    conv => whnf
    repeat (refine SeqP.go ?_; conv => whnf)
    exact ⟨(), ⟨rfl, rfl, trivial⟩, rfl, rfl⟩
  rintro _ φ2 _ rfl
  have hvH := hv.ext g1
  conv => whnf
  repeat (refine SeqP.go ?_; conv => whnf)
  refine ⟨bx, all_cells b1 hbl, ?_⟩
  conv => whnf
  refine ⟨(pad5 c).map int, all_cells d1 (by rw [List.length_map, hp5]), ?_⟩
  conv => whnf
  refine CallP.mono (PReached_ok _ p n c _ hvH hP en hc) ?_
  rintro r2 H2 ⟨⟨bq, L, B, rfl, hx⟩, g2⟩
  obtain ⟨q1, q2, ⟨lv, q3, q4⟩, ⟨wv, q5, q6⟩, q7, q8, q9, q10⟩ := hx
  obtain ⟨la, lc, rfl, -⟩ := q4
  obtain ⟨wa, wc, rfl, -⟩ := q6
  match bq, q1, q3, q5 with
  | [_, _], _, q3, q5 =>
  cases q3
  cases q5
  conv => whnf
  repeat (refine SeqP.go ?_; conv => whnf)
  exact finP_two rfl rfl rfl rfl ⟨⟨L, rfl, q8, q10⟩, g1.trans g2⟩
end
end Go.Proofs.Ytpiplaicnbapbaa
namespace Go.Proofs.Ytpiplaicnbapbaa
open Go.Rx Go.RowKit
structure RZ (h H : Hp) (tz Z : Nat) (ov sv rv : Value) (O S : List Int) (Q : List Q4) (cs : List Value) : Prop where
  gr : Grows h H
  z : H.at Z = some (.row tz true cs)
  o : BuiltC h H 3 1 ov O.length (O.map int)
  s : BuiltC h H 3 1 sv S.length (S.map int)
  r : BuiltC h H 96 4 rv Q.length ((flat4 Q).map int)
  hZ : h.next ≤ Z
  sep : Rx.Sep H [pl Z, ov, sv, rv] []
section
variable {h H H' : Hp} {tz Z : Nat} {ov sv rv : Value} {O S : List Int} {Q : List Q4} {cs : List Value}
theorem RZ.ext (k : RZ h H tz Z ov sv rv O S Q cs) (g : Grows H H') : RZ h H' tz Z ov sv rv O S Q cs :=
  ⟨k.gr.trans g, g.at_ _ _ k.z, k.o.ext g, k.s.ext g, k.r.ext g, k.hZ, k.sep.ext g⟩
theorem RZ.pv (k : RZ h H tz Z ov sv rv O S Q cs) {n : Int} : PV H (pval n ov sv rv) ⟨n, O, S, Q⟩ :=
  ⟨ov, sv, rv, rfl, LV.of k.o.b, LV.of k.s.b, k.r.back (Nat.zero_le _)⟩
theorem RZ.put (k : RZ h H tz Z ov sv rv O S Q cs) (cs' : List Value) : RZ h (H.set Z (.row tz true cs')) tz Z ov sv rv O S Q cs' := by
  have x : Kx (ad (pl Z)) H (H.set Z (.row tz true cs')) := Kx.set _ _ _
  have a := fun j v hj hv => k.sep.ap 0 j (pl Z) v hj rfl hv
  exact ⟨k.gr.then_set _ k.hZ, Hp.at_set_self _ (Hp.lt_of_at k.z), k.o.kx x (a 1 _ (by decide) rfl), k.s.kx x (a 2 _ (by decide) rfl), k.r.kx x (a 3 _ (by decide) rfl), k.hZ, k.sep.next (Nat.le_refl _)⟩
theorem RZ.o_app {z : Int} {b : Bool} {K : Value → Hp → Prop} (k : RZ h H tz Z ov sv rv O S Q cs) (hl : O.length ≤ 1000000)
    (q : ∀ ov' H', (∃ a n, ov' = .slice a n n) → RZ h H' tz Z ov' sv rv (O ++ [z]) S Q cs → K ov' H') : AppP E (H.lay (.row 3 b [int z])) 3 1 8 ov (slc H.next 0 1 1) K := by
  have k1 := k.ext (Grows.lay H (.row 3 b [int z]))
  refine AppP.cellsF k1.o k1.gr (elemsC_one (u := int z) rfl) (by omega) (by omega) (by omega) ?_
  intro v' H' hb' hg' hkeep ⟨r', er, hr'⟩
  have x := Kx.builtC k1.o hkeep
  have hv : ∀ r, ad v' = some r → (H.lay (.row 3 b [int z])).next ≤ r ∧ r < H'.next := fun r e => ⟨by rw [er] at e; cases e; exact hr', (hb'.ad_lt r e).2⟩
  have hnx : (H.lay (.row 3 b [int z])).next ≤ H'.next := by have := hv r' (by rw [er]; rfl); omega
  have a := fun j v hj hv => k1.sep.ap 1 j ov v hj rfl hv
  exact q _ _ ⟨_, _, er⟩ ⟨hg', ap_at (a := none) x k1.z (a 0 _ (by decide) rfl), by rw [List.length_append, List.map_append]; exact hb', k1.s.kx x (a 2 _ (by decide) rfl), k1.r.kx x (a 3 _ (by decide) rfl), k.hZ, k1.sep.move hnx 1 hv⟩
theorem RZ.s_app {z : Int} {b : Bool} {K : Value → Hp → Prop} (k : RZ h H tz Z ov sv rv O S Q cs) (hl : S.length ≤ 1000000)
    (q : ∀ sv' H', (∃ a n, sv' = .slice a n n) → RZ h H' tz Z ov sv' rv O (S ++ [z]) Q cs → K sv' H') : AppP E (H.lay (.row 3 b [int z])) 3 1 8 sv (slc H.next 0 1 1) K := by
  have k1 := k.ext (Grows.lay H (.row 3 b [int z]))
  refine AppP.cellsF k1.s k1.gr (elemsC_one (u := int z) rfl) (by omega) (by omega) (by omega) ?_
  intro v' H' hb' hg' hkeep ⟨r', er, hr'⟩
  have x := Kx.builtC k1.s hkeep
  have hv : ∀ r, ad v' = some r → (H.lay (.row 3 b [int z])).next ≤ r ∧ r < H'.next := fun r e => ⟨by rw [er] at e; cases e; exact hr', (hb'.ad_lt r e).2⟩
  have hnx : (H.lay (.row 3 b [int z])).next ≤ H'.next := by have := hv r' (by rw [er]; rfl); omega
  have a := fun j v hj hv => k1.sep.ap 2 j sv v hj rfl hv
  exact q _ _ ⟨_, _, er⟩ ⟨hg', ap_at (a := none) x k1.z (a 0 _ (by decide) rfl), k1.o.kx x (a 1 _ (by decide) rfl), by rw [List.length_append, List.map_append]; exact hb', k1.r.kx x (a 3 _ (by decide) rfl), k.hZ, k1.sep.move hnx 2 hv⟩
theorem RZ.r_app {z : Q4} {b : Bool} {K : Value → Hp → Prop} (k : RZ h H tz Z ov sv rv O S Q cs) (hl : Q.length ≤ 1000000)
    (q : ∀ rv' H', (∃ a n, rv' = .slice a n n) → RZ h H' tz Z ov sv rv' O S (Q ++ [z]) cs → K rv' H') : AppP E (H.lay (.row 96 b [int z.a, int z.b, int z.c, int z.d])) 96 4 32 rv (slc H.next 0 1 1) K := by
  have k1 := k.ext (Grows.lay H (.row 96 b [int z.a, int z.b, int z.c, int z.d]))
  refine AppP.cellsF k1.r k1.gr (m := 1) (new := [int z.a, int z.b, int z.c, int z.d]) ⟨rfl, all_cells (Hp.at_lay_self _ _) rfl, rfl, rfl⟩ (by omega) (by omega) (by omega) ?_
  intro v' H' hb' hg' hkeep ⟨r', er, hr'⟩
  have x := Kx.builtC k1.r hkeep
  have hv : ∀ r, ad v' = some r → (H.lay (.row 96 b [int z.a, int z.b, int z.c, int z.d])).next ≤ r ∧ r < H'.next := fun r e => ⟨by rw [er] at e; cases e; exact hr', (hb'.ad_lt r e).2⟩
  have hnx : (H.lay (.row 96 b [int z.a, int z.b, int z.c, int z.d])).next ≤ H'.next := by have := hv r' (by rw [er]; rfl); omega
  have a := fun j v hj hv => k1.sep.ap 3 j rv v hj rfl hv
  refine q _ _ ⟨_, _, er⟩ ⟨hg', ap_at (a := none) x k1.z (a 0 _ (by decide) rfl), k1.o.kx x (a 1 _ (by decide) rfl), k1.s.kx x (a 2 _ (by decide) rfl), ?_, k.hZ, k1.sep.move hnx 3 hv⟩
  rw [List.length_append, flat4_app, List.map_append]
  exact hb'
end
end Go.Proofs.Ytpiplaicnbapbaa
namespace Go.Proofs.Ytpiplaicnbapbaa
open Go.Rx Go.RowKit
def sg (n k x : Int) : Int := if x + k < n then x + k else x + k - n
def ig (n k x : Int) : Int := if x < k then x + n - k else x - k
theorem sg_bd {n k x : Int} (hk : 0 ≤ k ∧ k < n) (hx : 0 ≤ x ∧ x < n) : 0 ≤ sg n k x ∧ sg n k x < n := by unfold sg; split <;> omega
theorem ig_bd {n k x : Int} (hk : 0 ≤ k ∧ k < n) (hx : 0 ≤ x ∧ x < n) : 0 ≤ ig n k x ∧ ig n k x < n := by unfold ig; split <;> omega
theorem ig_sg {n k x : Int} (hk : 0 ≤ k ∧ k < n) (hx : 0 ≤ x ∧ x < n) : ig n k (sg n k x) = x := by unfold ig sg; split <;> split <;> omega
theorem sg_ig {n k x : Int} (hk : 0 ≤ k ∧ k < n) (hx : 0 ≤ x ∧ x < n) : sg n k (ig n k x) = x := by unfold ig sg; split <;> split <;> omega
theorem tmod_if {n x : Int} (h0 : 0 ≤ x) (h1 : x < 2 * n) : x.tmod n = if x < n then x else x - n := by
  rw [Int.tmod_eq_emod_of_nonneg h0]
  split
  · exact Int.emod_eq_of_lt h0 (by omega)
  · rw [← Int.sub_emod_right, Int.emod_eq_of_lt (by omega) (by omega)]
theorem sg_mod {n k x : Int} (hk : 0 ≤ k ∧ k < n) (hx : 0 ≤ x ∧ x < n) : (x + k).tmod n = sg n k x := by
  rw [tmod_if (by omega) (by omega)]; rfl
theorem ig_mod {n k x : Int} (hk : 0 ≤ k ∧ k < n) (hx : 0 ≤ x ∧ x < n) : (x + n - k).tmod n = ig n k x := by
  rw [tmod_if (by omega) (by omega)]; unfold ig; split <;> split <;> omega
def renp (n k : Nat) (l : List Int) (m : Nat) : List Int := (List.range m).map fun (s : Nat) => gl l (ig n k (s : Int)).toNat
def ren (n k : Nat) (l : List Int) : List Int := renp n k l n
theorem renp_succ (n k : Nat) (l : List Int) (m : Nat) : renp n k l (m + 1) = renp n k l m ++ [gl l (ig n k m).toNat] := by
  unfold renp; rw [List.range_succ, List.map_append]; rfl
theorem renp_len (n k : Nat) (l : List Int) (m : Nat) : (renp n k l m).length = m := by unfold renp; rw [List.length_map, List.length_range]
theorem ren_len (n k : Nat) (l : List Int) : (ren n k l).length = n := renp_len ..
theorem gl_ren {n k : Nat} {l : List Int} {i : Nat} (hi : i < n) : gl (ren n k l) i = gl l (ig n k i).toNat := by
  rw [gl_at (by rw [ren_len]; exact hi)]
  unfold ren renp
  rw [List.getElem_map, List.getElem_range]
theorem gl_ren_sg {n k : Nat} {l : List Int} {x : Int} (hk : k < n) (hx : 0 ≤ x ∧ x < n) : gl (ren n k l) (sg n k x).toNat = gl l x.toNat := by
  have h1 := sg_bd (n := n) (k := k) (x := x) (by omega) hx
  rw [gl_ren (by omega), show ((sg n k x).toNat : Int) = sg n k x by omega, ig_sg (by omega) hx]
theorem ext_gl {n : Nat} {l m : List Int} (hl : l.length = n) (hm : m.length = n) (h : ∀ i, i < n → gl l i = gl m i) : l = m := by
  refine List.ext_getElem (by omega) fun i h1 h2 => ?_
  have := h i (by omega)
  rw [gl_at h1, gl_at h2] at this
  exact this
theorem ren_inj {n k : Nat} {l m : List Int} (hk : k < n) (hl : l.length = n) (hm : m.length = n) (h : ren n k l = ren n k m) : l = m := by
  refine ext_gl hl hm fun i hi => ?_
  have h1 := gl_ren_sg (n := n) (k := k) (l := l) (x := i) hk (by omega)
  have h2 := gl_ren_sg (n := n) (k := k) (l := m) (x := i) hk (by omega)
  rw [h] at h1
  rw [h1] at h2
  simpa using h2
theorem ren_sum {n k : Nat} {l : List Int} (hn : n ≤ 4) (hk : k < n) (hl : l.length = n) : (ren n k l).sum = l.sum := by
  have h4 : n = 1 ∨ n = 2 ∨ n = 3 ∨ n = 4 := by omega
  rcases h4 with rfl | rfl | rfl | rfl
  · match l, hl with
    | [a], _ =>
      have : k = 0 := by omega
      subst this
      rfl
  · match l, hl with
    | [a, b], _ =>
      have : k = 0 ∨ k = 1 := by omega
      rcases this with rfl | rfl
      · show a + (b + 0) = _; simp
      · show b + (a + 0) = _; simp; omega
  · match l, hl with
    | [a, b, c], _ =>
      have : k = 0 ∨ k = 1 ∨ k = 2 := by omega
      rcases this with rfl | rfl | rfl
      · show a + (b + (c + 0)) = _; simp
      · show c + (a + (b + 0)) = _; simp; omega
      · show b + (c + (a + 0)) = _; simp; omega
  · match l, hl with
    | [a, b, c, d], _ =>
      have : k = 0 ∨ k = 1 ∨ k = 2 ∨ k = 3 := by omega
      rcases this with rfl | rfl | rfl | rfl
      · show a + (b + (c + (d + 0))) = _; simp
      · show d + (a + (b + (c + 0))) = _; simp; omega
      · show c + (d + (a + (b + 0))) = _; simp; omega
      · show b + (c + (d + (a + 0))) = _; simp; omega
theorem ren_crok {n k : Nat} {c : List Int} (hn : n ≤ 4) (hk : k < n) (h : CrOk n c) : CrOk n (ren n k c) := by
  refine ⟨ren_len .., fun i => ?_, ?_, ?_⟩
  · by_cases hi : i < n
    · rw [gl_ren hi]; exact h.nn _
    · rw [gl_out (by rw [ren_len]; omega)]; omega
  · rw [ren_sum hn hk h.len]; exact h.s1
  · rw [ren_sum hn hk h.len]; exact h.s9
def qi (n k : Nat) (r : Q4) : Q4 := ⟨min (sg n k r.a) (sg n k r.b), max (sg n k r.a) (sg n k r.b), sg n k r.c, sg n k r.d⟩
theorem qi_in {n k : Nat} {r : Q4} (hk : k < n) (h : QIn n r) : QIn n (qi n k r) ∧ (qi n k r).a ≤ (qi n k r).b := by
  unfold QIn at h
  have h1 := sg_bd (n := n) (k := k) (x := r.a) (by omega) (by omega)
  have h2 := sg_bd (n := n) (k := k) (x := r.b) (by omega) (by omega)
  have h3 := sg_bd (n := n) (k := k) (x := r.c) (by omega) (by omega)
  have h4 := sg_bd (n := n) (k := k) (x := r.d) (by omega) (by omega)
  unfold QIn qi
  dsimp only
  omega
theorem sg_inj {n k : Nat} {x y : Int} (hk : k < n) (hx : 0 ≤ x ∧ x < n) (hy : 0 ≤ y ∧ y < n) (h : sg n k x = sg n k y) : x = y := by
  have h1 := ig_sg (n := n) (k := k) (x := x) (by omega) hx
  have h2 := ig_sg (n := n) (k := k) (x := y) (by omega) hy
  rw [h] at h1
  omega
theorem qi_allowed {n k : Nat} {r : Q4} {c : List Int} (hk : k < n) (h : QIn n r) : Allowed (ren n k c) (qi n k r) ↔ Allowed c r := by
  have hq := qin' h
  have g1 := gl_ren_sg (l := c) (k := k) hk hq.1
  have g2 := gl_ren_sg (l := c) (k := k) hk hq.2.1
  unfold Allowed
  by_cases e : r.a = r.b
  · have e2 : (qi n k r).a = (qi n k r).b := by unfold qi; dsimp only; rw [e]; omega
    have e3 : (qi n k r).a = sg n k r.a := by unfold qi; dsimp only; rw [e]; omega
    rw [if_pos e, if_pos e2, e3, g1]
  · have e1 : sg n k r.a ≠ sg n k r.b := fun x => e (sg_inj hk hq.1 hq.2.1 x)
    by_cases hlt : sg n k r.a < sg n k r.b
    · have a1 : (qi n k r).a = sg n k r.a := by unfold qi; dsimp only; omega
      have a2 : (qi n k r).b = sg n k r.b := by unfold qi; dsimp only; omega
      rw [if_neg e, if_neg (by omega), a1, a2, g1, g2]
    · have a1 : (qi n k r).a = sg n k r.b := by unfold qi; dsimp only; omega
      have a2 : (qi n k r).b = sg n k r.a := by unfold qi; dsimp only; omega
      rw [if_neg e, if_neg (by omega), a1, a2, g1, g2, and_comm]
theorem ind_sg {n k i : Nat} {x : Int} (hk : k < n) (hi : i < n) (hx : 0 ≤ x ∧ x < n) : ind i (sg n k x).toNat = ind (ig n k i).toNat x.toNat := by
  have h1 := sg_bd (n := n) (k := k) (x := x) (by omega) hx
  have h2 := ig_bd (n := n) (k := k) (x := i) (by omega) (by omega)
  by_cases e : i = (sg n k x).toNat
  · rw [ind_eq e]
    have : (i : Int) = sg n k x := by omega
    rw [this, ig_sg (by omega) hx, ind_eq rfl]
  · rw [ind_ne e, ind_ne]
    intro e2
    have : ig n k i = x := by omega
    have := sg_ig (n := n) (k := k) (x := i) (by omega) (by omega)
    subst x
    omega
theorem qi_after {n k : Nat} {r : Q4} {c : List Int} (hk : k < n) (h : QIn n r) (hc : c.length = n) : after (ren n k c) (qi n k r) = ren n k (after c r) := by
  have hq := qin' h
  have hqi := qi_in hk h
  refine ext_gl (n := n) (by rw [after_len, ren_len]) (ren_len ..) fun i hi => ?_
  have hb := ig_bd (n := n) (k := k) (x := i) (by omega) (by omega)
  rw [gl_after (ren_len ..) (qin hqi.1), gl_ren hi, gl_ren hi, gl_after hc (qin h)]
  rw [← ind_sg hk hi hq.1, ← ind_sg hk hi hq.2.1, ← ind_sg hk hi hq.2.2.1, ← ind_sg hk hi hq.2.2.2]
  have e3 : (qi n k r).c = sg n k r.c := rfl
  have e4 : (qi n k r).d = sg n k r.d := rfl
  rw [e3, e4]
  by_cases hlt : sg n k r.a ≤ sg n k r.b
  · have a1 : (qi n k r).a = sg n k r.a := by unfold qi; dsimp only; omega
    have a2 : (qi n k r).b = sg n k r.b := by unfold qi; dsimp only; omega
    rw [a1, a2]
  · have a1 : (qi n k r).a = sg n k r.b := by unfold qi; dsimp only; omega
    have a2 : (qi n k r).b = sg n k r.a := by unfold qi; dsimp only; omega
    rw [a1, a2]
    omega
theorem step_iff {R : List Q4} {c e : List Int} : (∃ i, step R c i = some e) ↔ ∃ r ∈ R, Allowed c r ∧ e = after c r := by
  constructor
  · rintro ⟨i, h⟩
    unfold step at h
    split at h
    · split at h
      · cases h
        exact ⟨_, List.getElem_mem _, by assumption, rfl⟩
      · cases h
    · cases h
  · rintro ⟨r, hr, ha, rfl⟩
    obtain ⟨i, hi, rfl⟩ := List.getElem_of_mem hr
    refine ⟨i, ?_⟩
    unfold step
    rw [dif_pos ⟨by omega, by omega⟩]
    simp only [Int.toNat_natCast]
    rw [if_pos ha]
section
variable {n k : Nat} {R Rz : List Q4}
structure Rn (n k : Nat) (R Rz : List Q4) : Prop where
  hk : k < n
  n4 : n ≤ 4
  hR : ∀ x ∈ R, QIn n x
  to : ∀ r ∈ R, qi n k r ∈ Rz
  back : ∀ q ∈ Rz, ∃ r ∈ R, q = qi n k r
theorem Rn.step (h : Rn n k R Rz) {c e : List Int} (hc : CrOk n c) (s : ∃ i, step R c i = some e) : ∃ i, step Rz (ren n k c) i = some (ren n k e) := by
  obtain ⟨r, hr, ha, rfl⟩ := step_iff.1 s
  exact step_iff.2 ⟨_, h.to r hr, (qi_allowed h.hk (h.hR r hr)).2 ha, (qi_after h.hk (h.hR r hr) hc.len).symm⟩
theorem Rn.unstep (h : Rn n k R Rz) {c f : List Int} (hc : CrOk n c) (s : ∃ i, Go.Proofs.Ytpiplaicnbapbaa.step Rz (ren n k c) i = some f) : ∃ e, f = ren n k e ∧ ∃ i, Go.Proofs.Ytpiplaicnbapbaa.step R c i = some e := by
  obtain ⟨q, hq, ha, rfl⟩ := step_iff.1 s
  obtain ⟨r, hr, rfl⟩ := h.back q hq
  exact ⟨_, qi_after h.hk (h.hR r hr) hc.len, step_iff.2 ⟨r, hr, (qi_allowed h.hk (h.hR r hr)).1 ha, rfl⟩⟩
theorem Rn.rs (h : Rn n k R Rz) {c d : List Int} (hc : CrOk n c) (s : Rs R c d) : Rs Rz (ren n k c) (ren n k d) := by
  induction s with
  | refl => exact .refl _
  | tail h1 h2 ih =>
    obtain ⟨i, hi⟩ := h.step (h1.ok h.hR hc) ⟨_, h2⟩
    exact ih.tail hi
theorem Rn.unrs (h : Rn n k R Rz) {c f : List Int} (hc : CrOk n c) {c' : List Int} (ec : c' = ren n k c) (s : Rs Rz c' f) : ∃ d, f = ren n k d ∧ Rs R c d := by
  induction s with
  | refl => exact ⟨c, ec, .refl _⟩
  | tail h1 h2 ih =>
    obtain ⟨d, rfl, hd⟩ := ih
    obtain ⟨e, rfl, i, hi⟩ := h.unstep (hd.ok h.hR hc) ⟨_, h2⟩
    exact ⟨e, rfl, hd.tail hi⟩
theorem ren_all {out c : List Int} {on : Int} (hk : k < n) (ho : out.length = n) : AllOut (ren n k out) on (ren n k c) ↔ AllOut out on c := by
  unfold AllOut
  rw [ren_len, ho]
  constructor
  · intro h s hs hp
    have h1 := sg_bd (n := n) (k := k) (x := s) (by omega) (by omega)
    have h2 := gl_ren_sg (l := c) (k := k) (x := s) hk (by omega)
    have h3 := gl_ren_sg (l := out) (k := k) (x := s) hk (by omega)
    have := h (sg n k s).toNat (by omega) (by rw [h2]; simpa using hp)
    rw [h3] at this
    simpa using this
  · intro h s hs hp
    rw [gl_ren hs] at hp ⊢
    have := ig_bd (n := n) (k := k) (x := s) (by omega) (by omega)
    exact h _ (by omega) hp
theorem Rn.sett (h : Rn n k R Rz) {out c : List Int} {on : Int} (ho : out.length = n) (hc : CrOk n c) : SettC Rz (ren n k out) on (ren n k c) ↔ SettC R out on c := by
  constructor
  · intro s d hd
    exact (ren_all h.hk ho).1 (s _ (h.rs hc hd))
  · intro s f hf
    obtain ⟨d, rfl, hd⟩ := h.unrs hc rfl hf
    exact (ren_all h.hk ho).2 (s d hd)
theorem Rn.deci (h : Rn n k R Rz) {out c : List Int} {on : Int} (ho : out.length = n) (hc : CrOk n c) : DeciC Rz (ren n k out) on (ren n k c) ↔ DeciC R out on c := by
  constructor
  · intro s d hd
    have hdc := hd.ok h.hR hc
    obtain ⟨f, hf, hs⟩ := s _ (h.rs hc hd)
    obtain ⟨e, rfl, he⟩ := h.unrs hdc rfl hf
    exact ⟨e, he, (h.sett ho (he.ok h.hR hdc)).1 hs⟩
  · intro s f hf
    obtain ⟨d, rfl, hd⟩ := h.unrs hc rfl hf
    obtain ⟨e, he, hs⟩ := s d hd
    have hdc := hd.ok h.hR hc
    exact ⟨_, h.rs hdc he, (h.sett ho (he.ok h.hR hdc)).2 hs⟩
theorem Rn.gr (h : Rn n k R Rz) {c : List Int} {L : List (List Int)} (hc : CrOk n c) (g : Gr R c L) : Gr Rz (ren n k c) (L.map (ren n k)) := by
  refine ⟨?_, ?_, ?_, ?_⟩
  · refine List.pairwise_iff_getElem.2 fun i j hi hj hij => ?_
    rw [List.getElem_map, List.getElem_map]
    intro e
    rw [List.length_map] at hi hj
    have l1 := ((g.from_ _ (List.getElem_mem hi)).ok h.hR hc).len
    have l2 := ((g.from_ _ (List.getElem_mem hj)).ok h.hR hc).len
    exact List.pairwise_iff_getElem.1 g.nodup i j hi hj hij (ren_inj h.hk l1 l2 e)
  · rw [List.getElem?_map, g.first]; rfl
  · intro d hd
    obtain ⟨e, he, rfl⟩ := List.mem_map.1 hd
    exact h.rs hc (g.from_ e he)
  · intro d hd i f hf
    obtain ⟨e, he, rfl⟩ := List.mem_map.1 hd
    obtain ⟨e', rfl, j, hj⟩ := h.unstep ((g.from_ e he).ok h.hR hc) ⟨i, hf⟩
    exact List.mem_map.2 ⟨e', g.closed e he j e' hj, rfl⟩
theorem Rn.len (h : Rn n k R Rz) {c : List Int} {L L' : List (List Int)} (hc : CrOk n c) (g : Gr R c L) (g' : Gr Rz (ren n k c) L') : L'.length = L.length := by
  rw [g'.len_uniq (h.gr hc g), List.length_map]
end
theorem FirstOf.same {P Q : Int → Prop} (e : ∀ x, P x ↔ Q x) {s s' : Int} {b b' : Bool} (h : FirstOf P s b) (h' : FirstOf Q s' b') : s = s' ∧ b = b' := by
  by_cases h0 : P 0
  · obtain ⟨h1, h2⟩ := h.1 h0
    obtain ⟨h3, h4⟩ := h'.1 ((e 0).1 h0)
    exact ⟨h1.trans h3.symm, h2.trans h4.symm⟩
  · by_cases h1 : P 1
    · obtain ⟨h1, h2⟩ := h.2.1 h0 h1
      obtain ⟨h3, h4⟩ := h'.2.1 (fun x => h0 ((e 0).2 x)) ((e 1).1 (by assumption))
      exact ⟨h1.trans h3.symm, h2.trans h4.symm⟩
    · obtain ⟨h1, h2⟩ := h.2.2 h0 h1
      obtain ⟨h3, h4⟩ := h'.2.2 (fun x => h0 ((e 0).2 x)) (fun x => by rename_i hn; exact hn ((e 1).2 x))
      exact ⟨h1.trans h3.symm, h2.trans h4.symm⟩
def ky (q : Q4) : Int := 5 * q.a + q.b
structure ZI (n k : Nat) (R : List Q4) (K : Int) (i : Nat) (Q : List Q4) : Prop where
  mem : ∀ q ∈ Q, ∃ j, ∃ hj : j < R.length, q = qi n k R[j] ∧ (ky q < K ∨ ky q = K ∧ j < i)
  cov : ∀ j (hj : j < R.length), (ky (qi n k R[j]) < K ∨ ky (qi n k R[j]) = K ∧ j < i) → qi n k R[j] ∈ Q
  srt : Q.Pairwise (fun x y => ky x < ky y)
section
variable {n k : Nat} {R : List Q4}
theorem ROk.in {m : Int} (h : ROk m R R.length) : ∀ x ∈ R, QIn m x := fun x hx => by
  obtain ⟨i, hi, rfl⟩ := List.getElem_of_mem hx
  exact (h i hi hi).1
theorem ROk.uniq (hk : k < n) (h : ROk n R R.length) (hn : n ≤ 4) {i j : Nat} (hi : i < R.length) (hj : j < R.length) (e : ky (qi n k R[i]) = ky (qi n k R[j])) : i = j := by
  have srt : ∀ d a, (ha : a + d + 1 < R.length) → QLess (R[a]'(by omega)) (R[a + d + 1]'ha) := by
    intro d
    induction d with
    | zero => intro a ha; exact (h (a + 1) ha ha).2.2 (by omega)
    | succ d ih =>
      intro a ha
      have h1 := ih a (by omega)
      have h2 := (h (a + (d + 1) + 1) ha ha).2.2 (by omega)
      have e1 : R[a + (d + 1) + 1 - 1]'(by omega) = R[a + d + 1]'(by omega) := by congr 1
      rw [e1] at h2
      unfold QLess at *
      omega
  have key : ∀ a b, (ha : a < R.length) → (hb : b < R.length) → ky (qi n k R[a]) = ky (qi n k R[b]) → ¬ a < b := by
    intro a b ha hb e hab
    obtain ⟨d, rfl⟩ : ∃ d, b = a + d + 1 := ⟨b - a - 1, by omega⟩
    have hs := srt d a hb
    have o1 := h _ ha ha
    have o2 := h _ hb hb
    have q1 := qi_in hk o1.1
    have q2 := qi_in hk o2.1
    have i1 := qin' o1.1
    have i2 := qin' o2.1
    have s1 := sg_bd (n := n) (k := k) (by omega) i1.1
    have s2 := sg_bd (n := n) (k := k) (by omega) i1.2.1
    have s3 := sg_bd (n := n) (k := k) (by omega) i2.1
    have s4 := sg_bd (n := n) (k := k) (by omega) i2.2.1
    have inj := fun {x y : Int} => sg_inj (k := k) (n := n) (x := x) (y := y) hk
    have e1 := o1.2.1
    have e2 := o2.2.1
    unfold ky qi at e
    unfold QLess at hs
    dsimp only at e
    have c1 := @inj R[a].a (R[a + d + 1]'hb).a i1.1 i2.1
    have c2 := @inj R[a].b (R[a + d + 1]'hb).b i1.2.1 i2.2.1
    have c3 := @inj R[a].a (R[a + d + 1]'hb).b i1.1 i2.2.1
    have c4 := @inj R[a].b (R[a + d + 1]'hb).a i1.2.1 i2.1
    omega
  have h1 := key i j hi hj e
  have h2 := key j i hj hi e.symm
  omega
theorem ZI.start (hk : k < n) (hR : ∀ x ∈ R, QIn n x) : ZI n k R 0 0 [] := ⟨fun q hq => by simp at hq, fun j hj h => by
  have := (qi_in hk (hR _ (List.getElem_mem hj)))
  unfold QIn at this
  unfold ky at h
  omega, List.Pairwise.nil⟩
theorem ZI.skip {K : Int} {i : Nat} {Q : List Q4} (h : ZI n k R K i Q) (hi : i < R.length) (hne : ky (qi n k R[i]) ≠ K) : ZI n k R K (i + 1) Q := by
  refine ⟨fun q hq => ?_, fun j hj hc => h.cov j hj ?_, h.srt⟩
  · obtain ⟨j, hj, e, hc⟩ := h.mem q hq
    exact ⟨j, hj, e, by omega⟩
  · rcases hc with hc | ⟨hc, hji⟩
    · exact .inl hc
    · refine .inr ⟨hc, ?_⟩
      by_cases e : j = i
      · subst e; exact absurd hc hne
      · omega
theorem ZI.add (hk : k < n) (hn : n ≤ 4) (hR : ROk n R R.length) {K : Int} {i : Nat} {Q : List Q4} (h : ZI n k R K i Q) (hi : i < R.length) (he : ky (qi n k R[i]) = K) : ZI n k R K (i + 1) (Q ++ [qi n k R[i]]) := by
  refine ⟨fun q hq => ?_, fun j hj hc => ?_, ?_⟩
  · rcases List.mem_append.1 hq with hq | hq
    · obtain ⟨j, hj, e, hc⟩ := h.mem q hq
      exact ⟨j, hj, e, by omega⟩
    · rw [List.mem_singleton.1 hq]
      exact ⟨i, hi, rfl, .inr ⟨he, by omega⟩⟩
  · by_cases e : j = i
    · subst e; simp
    · exact List.mem_append_left _ (h.cov j hj (by omega))
  · refine List.pairwise_append.2 ⟨h.srt, List.pairwise_singleton _ _, fun x hx y hy => ?_⟩
    rw [List.mem_singleton.1 hy]
    obtain ⟨j, hj, rfl, hc⟩ := h.mem x hx
    rcases hc with hc | ⟨hc, hji⟩
    · omega
    · have := hR.uniq hk hn hj hi (by omega)
      omega
theorem ZI.next {K : Int} {Q : List Q4} (h : ZI n k R K R.length Q) : ZI n k R (K + 1) 0 Q := by
  refine ⟨fun q hq => ?_, fun j hj hc => h.cov j hj (by omega), h.srt⟩
  obtain ⟨j, hj, e, hc⟩ := h.mem q hq
  exact ⟨j, hj, e, by omega⟩
theorem ZI.turn (hk : k < n) (hn : n ≤ 4) (hR : ∀ x ∈ R, QIn n x) {a : Int} {Q : List Q4} (h : ZI n k R (5 * a + n) 0 Q) : ZI n k R (5 * (a + 1) + (a + 1)) 0 Q := by
  refine ⟨fun q hq => ?_, fun j hj hc => h.cov j hj ?_, h.srt⟩
  · obtain ⟨j, hj, e, hc⟩ := h.mem q hq
    have := qi_in hk (hR _ (List.getElem_mem hj))
    rw [← e] at this
    unfold QIn at this
    unfold ky at hc
    refine ⟨j, hj, e, ?_⟩
    unfold ky
    omega
  · have := qi_in hk (hR _ (List.getElem_mem hj))
    unfold QIn at this
    unfold ky at hc ⊢
    omega
theorem nodup_q : ∀ {l m : List Q4}, l.Nodup → (∀ x ∈ l, x ∈ m) → l.length ≤ m.length
  | [], m, _, _ => Nat.zero_le _
  | x :: l, m, hn, hs => by
    classical
    have hc := List.nodup_cons.1 hn
    have hx : x ∈ m := hs x (by simp)
    have h1 := nodup_q (l := l) (m := m.erase x) hc.2 (fun y hy => by
      have hne : y ≠ x := fun e => hc.1 (e ▸ hy)
      exact (List.mem_erase_of_ne hne).2 (hs y (by simp [hy])))
    rw [List.length_erase_of_mem hx] at h1
    have := List.length_pos_of_mem hx
    simp only [List.length_cons]
    omega
theorem ZI.len {K : Int} {i : Nat} {Q : List Q4} (h : ZI n k R K i Q) : Q.length ≤ R.length := by
  have h1 : Q.Nodup := h.srt.imp fun {a b} hab e => by subst e; omega
  have h2 := nodup_q (m := R.map (qi n k)) h1 fun x hx => by
    obtain ⟨j, hj, e, -⟩ := h.mem x hx
    exact e ▸ List.mem_map.2 ⟨_, List.getElem_mem hj, rfl⟩
  rwa [List.length_map] at h2
theorem ZI.done (hk : k < n) (hn : n ≤ 4) (hR : ∀ x ∈ R, QIn n x) {Q : List Q4} (h : ZI n k R (5 * n + n) 0 Q) : Rn n k R Q ∧ ROk n Q Q.length := by
  have hin : ∀ q ∈ Q, QIn n q ∧ q.a ≤ q.b := fun q hq => by
    obtain ⟨j, hj, rfl, -⟩ := h.mem q hq
    exact qi_in hk (hR _ (List.getElem_mem hj))
  refine ⟨⟨hk, hn, hR, fun r hr => ?_, fun q hq => ?_⟩, fun m hm _ => ?_⟩
  · obtain ⟨j, hj, rfl⟩ := List.getElem_of_mem hr
    refine h.cov j hj ?_
    have := qi_in hk (hR _ (List.getElem_mem hj))
    unfold QIn at this
    unfold ky
    omega
  · obtain ⟨j, hj, e, -⟩ := h.mem q hq
    exact ⟨_, List.getElem_mem hj, e⟩
  · have h1 := hin _ (List.getElem_mem hm)
    refine ⟨h1.1, h1.2, fun h0 => ?_⟩
    have h2 := hin _ (List.getElem_mem (n := m - 1) (l := Q) (by omega))
    have h3 := List.pairwise_iff_getElem.1 h.srt (m - 1) m (by omega) hm (by omega)
    unfold ky at h3
    unfold QIn at h1 h2
    unfold QLess
    omega
end
end Go.Proofs.Ytpiplaicnbapbaa
namespace Go.Proofs.Ytpiplaicnbapbaa
open Go.Rx Go.RowKit
theorem RZ.start (H : Hp) (tz : Nat) (cs : List Value) : RZ H (H.lay (.row tz true cs)) tz H.next (.slice none 0 0) (.slice none 0 0) (.slice none 0 0) [] [] [] cs := by
  refine ⟨Grows.lay _ _, Hp.at_lay_self _ _, BuiltC.nil, BuiltC.nil, BuiltC.nil, Nat.le_refl _, ⟨?_, ?_, ?_, ?_⟩⟩
  · intro v hv r e
    rw [Hp.next_lay]
    simp only [List.mem_cons, List.not_mem_nil, or_false] at hv
    rcases hv with rfl | rfl | rfl | rfl <;> cases e
    omega
  · intro v hv; simp at hv
  · intro i j v u hij hv hu
    match i, j, hij, hv, hu with
    | 0, 0, hij, _, _ => exact absurd rfl hij
    | 0, 1, _, _, hu => cases hu; exact (Ap.nil _).symm
    | 0, 2, _, _, hu => cases hu; exact (Ap.nil _).symm
    | 0, 3, _, _, hu => cases hu; exact (Ap.nil _).symm
    | 0, j + 4, _, _, hu => simp at hu
    | 1, _, _, hv, _ => cases hv; exact Ap.nil _
    | 2, _, _, hv, _ => cases hv; exact Ap.nil _
    | 3, _, _, hv, _ => cases hv; exact Ap.nil _
    | i + 4, _, _, hv, _ => simp at hv
  · intro v _ u hu; simp at hu
theorem wqOps_app {E : Env} : ∀ (l m : List G) (φ : Rx.Frame) (h : Hp) (Q : Rx.Frame → Hp → Prop), wqOps E (l ++ m) φ h Q = wqOps E l φ h fun φ h => wqOps E m φ h Q
  | [], m, φ, h, Q => rfl
  | ⟨d, op, g⟩ :: l, m, φ, h, Q => by
    have ih := wqOps_app (E := E) l m
    show wqOps E (⟨d, op, g⟩ :: (l ++ m)) φ h Q = _
    rw [wqOps_cons, wqOps_cons]
    simp only [ih]
theorem SeqP.splitN {E : Env} [TyOk E] {z : Nat} {rd : Option Nat} {b : C} {l : List G} {φ : Rx.Frame} {h : Hp} {m : List Nat} {Q : Pq} (n : Nat)
    (k : SeqP z rd (.ops (l.take n)) (.seq (.ops (l.drop n)) b) (wq E z rd (.ops (l.take n))) (wq E z rd (.seq (.ops (l.drop n)) b)) φ h m Q) : SeqP z rd (.ops l) b (wq E z rd (.ops l)) (wq E z rd b) φ h m Q := by
  refine SeqP.mk ?_
  show wqOps E l φ h (fun φ h => wq E z rd b φ h m Q)
  rw [show l = l.take n ++ l.drop n from (List.take_append_drop n l).symm, wqOps_app]
  have h1 := k.out
  have h2 := wq_mono (Q' := seqQ Q fun φ h m => wqOps E (l.drop n) φ h fun φ h => wq E z rd b φ h m Q) (fun e φ' h' m' hq => ?_) h1
  · exact h2
  · cases e with
    | normal => exact SeqP.out hq
    | _ => exact hq
attribute [local irreducible] E idxN cellAt cellsAt storeAt callable helems hmoved lookIn findKey keyOk hentries Hp.at Hp.set Hp.lay arBits hupdated setAt CallP YieldP BoolOf IsWrap Rnd LoopP AppP CutP Int.tmod Int.tdiv Int.fdiv
section
variable [Unknowns]
attribute [local irreducible] ResP sameAt
theorem renamed_law (ts0 : List Tr) (hy0 : TyT Try.prog 25 ts0) (t1 : Tr) (hy1 : TyT Try.prog 22 [t1]) (a2 : Int) (w2 : InR a2) : ∀ h vs, AllT h vs [.ag ts0, t1, .num a2] → CallP E 16 vs h (fun r _ => r = .bool true) := by
  have hmax : maxLen < 9223372036854775808 := by decide
  intro h vs hvs
  match vs, hvs with
  | [a0, a1, v2], hvs =>
  obtain ⟨k0, k1, k2, -⟩ := hvs
  cases k2
  obtain ⟨P, pn, po, ps, pr, hP⟩ := prot_arg hy0
  obtain ⟨l1, rfl, hl1, -⟩ := ty_ints under22 cells3 under3 hy1
  have hP := hP h a0 k0
  have hL1 := k1.view
  obtain ⟨bp, rfl, hbp⟩ := hP.box
  have hk := hL1.known
  obtain ⟨al1, cl1, rfl⟩ := hk
  have g0 : Grows h (h.lay (.row 25 true bp)) := Grows.lay _ _
  have x0 : (h.lay (.row 25 true bp)).at h.next = some (.row 25 true bp) := Hp.at_lay_self _ _
  refine enter16 (by simp) ?_
  conv => whnf
  refine SeqP.go ?_
  conv => whnf
  refine SeqP.cut (α := Prot × List Value × Hp × Nat) (fun s => [(7, ptr s.2.2.2 0), (1, .slice al1 l1.length cl1), (2, int a2)]) (fun s H => s.2.2.1 = H ∧ Grows h s.2.2.1 ∧ s.2.2.1.at s.2.2.2 = some (.row 26 true s.2.1) ∧ s.2.1.length = 4 ∧ PV s.2.2.1 (.agg ⟨s.2.1⟩) s.1 ∧ POk s.1 ∧ s.1.n ≤ 4) ?_ ?_
  · conv => whnf
    refine ⟨bp, all_cells x0 hbp, ?_⟩
    conv => whnf
    refine CallP.mono (tame_spec _ P _ (hP.ext g0) pn (by omega) (by omega) (by omega) 4 (by omega) (by omega)) ?_
    rintro r H2 ⟨⟨x, hx, hok, hx4⟩, g2⟩
    obtain ⟨v1, v2, v3, rfl, e1, e2, e3⟩ := id hx
    obtain ⟨w1, rfl⟩ := e1.known
    obtain ⟨w2, rfl⟩ := e2.known
    obtain ⟨w3, rfl, -⟩ := e3.slice
    unfold pval at hx ⊢
    conv => whnf
    refine ⟨rfl, _, storeAt_all (vs := [int x.n, .slice w1 x.out.length x.out.length, .slice w2 x.start.length x.start.length, .slice w3 x.rules.length x.rules.length]) rfl rfl rfl, ?_⟩
    conv => whnf
    exact ⟨(x, [int x.n, .slice w1 x.out.length x.out.length, .slice w2 x.start.length x.start.length, .slice w3 x.rules.length x.rules.length], _, H2.next), ⟨rfl, rfl, rfl, trivial⟩, ⟨rfl, (g0.trans g2).then_lay _, Hp.at_lay_self _ _, rfl, hx.ext (Grows.lay _ _), hok, hx4⟩, rfl⟩
  rintro ⟨x, b9, H2, X⟩ φ2 _ ⟨rfl, hg2, hX, hb9, hPV, hOk, hx4⟩
  dsimp only at hg2 hX hb9 hPV hOk hx4 ⊢
  obtain ⟨b9', eb9, -, y0, ⟨z1, y1, j1⟩, ⟨z2, y2, j2⟩, ⟨z3, y3, j3⟩, -⟩ := hPV.box
  cases eb9
  have hol := hOk.outl
  have hst2 := hOk.st2
  have hrl := hOk.rl
  have hexn : ∃ n : Nat, x.n = (n : Int) := ⟨x.n.toNat, by have := hOk.n1; omega⟩
  obtain ⟨n, en⟩ := hexn
  have hn4 : n ≤ 4 := by omega
  have hn1 : 1 ≤ n := by have := hOk.n1; omega
  have hoL : x.out.length = n := by omega
  rw [en] at y0
  conv => whnf
  refine SeqP.cut (α := Unit) (fun s => [(8, int n), (7, ptr X 0), (1, .slice al1 l1.length cl1), (2, int a2)]) (fun s H => H2 = H) ?_ ?_
  · conv => whnf
    refine ⟨_, cellAt_row hX y0, ?_⟩
    conv => whnf
    exact ⟨(), ⟨rfl, rfl, rfl, rfl, trivial⟩, rfl, rfl⟩
  rintro _ φ3 _ rfl
  conv => whnf
  refine SeqP.cut (α := Nat) (fun s => [(9, int s), (8, int n), (7, ptr X 0), (1, .slice al1 l1.length cl1)]) (fun s H => H2 = H ∧ s < n) ?_ ?_
  · have hux := u64_of a2
    obtain ⟨u, u0, u1, hu⟩ := hux
    have e1 := tmod_bd u0 (show (0 : Int) < (n : Int) by omega)
    have hexk : ∃ k : Nat, u.tmod n = (k : Int) := ⟨(u.tmod n).toNat, by omega⟩
    obtain ⟨k, ek⟩ := hexk
    conv => whnf
    refine ⟨u, hu, ?_⟩
    conv => whnf
    refine ⟨(n : Int), u64_id (by omega), ?_⟩
    conv => whnf
    refine ⟨by omega, ?_⟩
    conv => whnf
    refine ⟨(k : Int), wie ek (by omega), ?_⟩
    conv => whnf
    exact ⟨k, ⟨rfl, rfl, rfl, rfl, trivial⟩, ⟨rfl, by omega⟩, rfl⟩
  rintro k φ4 _ ⟨rfl, hk⟩
  conv => whnf
  refine SeqP.cut (α := Nat × Hp) (fun s => [(10, ptr s.1 0), (9, int k), (8, int n), (7, ptr X 0), (1, .slice al1 l1.length cl1)]) (fun s H => s.2 = H ∧ RZ H2 s.2 26 s.1 (.slice none 0 0) (.slice none 0 0) (.slice none 0 0) [] [] [] [int n, .slice none 0 0, .slice none 0 0, .slice none 0 0]) ?_ ?_
  · conv => whnf
    refine ⟨rfl, _, storeAt_all (vs := [int n, .slice none 0 0, .slice none 0 0, .slice none 0 0]) rfl rfl rfl, ?_⟩
    conv => whnf
    exact ⟨(H2.next, _), ⟨rfl, rfl, rfl, rfl, rfl, trivial⟩, ⟨rfl, RZ.start _ _ _⟩, rfl⟩
  rintro ⟨Z, Hz⟩ φ5 _ ⟨rfl, hz⟩
  dsimp only at hz ⊢
  conv => whnf
  refine SeqP.cut (α := Value × Hp) (fun s => [(10, ptr Z 0), (9, int k), (8, int n), (7, ptr X 0), (1, .slice al1 l1.length cl1)]) (fun s H => s.2 = H ∧ RZ H2 s.2 26 Z s.1 (.slice none 0 0) (.slice none 0 0) (ren n k x.out) [] [] [int n, s.1, .slice none 0 0, .slice none 0 0]) ?_ ?_
  · conv => whnf
    repeat (refine SeqP.go ?_; conv => whnf)
    refine loop_inv (α := Nat × Value × Hp) (fun s => [(11, int s.1), (10, ptr Z 0), (9, int k), (8, int n), (7, ptr X 0), (1, .slice al1 l1.length cl1)]) (fun s => s.2.2) (fun s => s.1 ≤ n ∧ RZ H2 s.2.2 26 Z s.2.1 (.slice none 0 0) (.slice none 0 0) (renp n k x.out s.1) [] [] [int n, s.2.1, .slice none 0 0, .slice none 0 0]) (fun s => n - s.1) (0, .slice none 0 0, Hz) ⟨Nat.zero_le _, hz⟩ ⟨rfl, rfl, rfl, rfl, rfl, rfl, trivial⟩ (Hp.Le.refl _) ?_
    clear hz
    rintro ⟨i, ov, H⟩ φ6 ⟨hi, hz⟩
    dsimp only at hi hz ⊢
    have hwk := hz.o.slice
    obtain ⟨aw, rfl, -⟩ := hwk
    conv => whnf
    repeat (refine SeqP.go ?_; conv => whnf)
    refine cmpB (fun c1 => ?_) (fun c1 => ?_)
    rotate_left
    · have : i = n := by omega
      subst this
      conv => whnf
      exact ⟨(_, H), ⟨rfl, rfl, rfl, rfl, rfl, trivial⟩, ⟨rfl, hz⟩, rfl⟩
    have hin : i < n := by omega
    have hXH := hz.gr.at_ _ _ hX
    have hib := ig_bd (n := n) (k := k) (x := i) (by omega) (by omega)
    have him := ig_mod (n := n) (k := k) (x := i) (by omega) (by omega)
    have hc := (j1.ext hz.gr).ints
    obtain ⟨ao', co', ew, hcc⟩ := hc
    cases ew
    have hc := hcc (ig n k i).toNat (by omega)
    obtain ⟨r, o, sp, ea, hsp, hci⟩ := hc
    subst ea
    conv => whnf
    refine SeqP.cut (α := Value × Hp) (fun s => [(11, int i), (10, ptr Z 0), (9, int k), (8, int n), (7, ptr X 0), (1, .slice al1 l1.length cl1)]) (fun s H' => s.2 = H' ∧ RZ H2 s.2 26 Z s.1 (.slice none 0 0) (.slice none 0 0) (renp n k x.out (i + 1)) [] [] [int n, s.1, .slice none 0 0, .slice none 0 0]) ?_ ?_
    rotate_left
    · rintro ⟨w', H'⟩ φ7 _ ⟨rfl, h1⟩
      dsimp only at h1 ⊢
      conv => whnf
      refine ⟨((i + 1 : Nat) : Int), wie (by omega) (by omega), ?_⟩
      conv => whnf
      exact Rnd.mk (i + 1, w', H') ⟨by show i + 1 ≤ n; omega, h1⟩ (by show n - (i + 1) < n - i; omega) ⟨rfl, rfl, rfl, rfl, rfl, rfl, trivial⟩ (Hp.Le.refl _) rfl
    conv => whnf
    refine SeqP.go ?_
    conv => whnf
    refine ⟨_, cellAt_row hz.z rfl, ?_⟩
    conv => whnf
    repeat (refine SeqP.go ?_; conv => whnf)
    refine ⟨_, cellAt_row hXH y1, ?_⟩
    conv => whnf
    refine ⟨(i : Int) + n, wid (by omega), ?_⟩
    conv => whnf
    refine ⟨(i : Int) + n - k, wid (by omega), ?_⟩
    conv => whnf
    refine ⟨by omega, ?_⟩
    conv => whnf
    refine ⟨hsp, ⟨by omega, by omega⟩, ?_⟩
    conv => whnf
    refine ⟨int (x.out[(ig n k i).toNat]'(by omega)), by rw [offAt_eq, Nat.add_comm, him]; simpa using hci, ?_⟩
    conv => whnf
    refine hz.o_app (by rw [renp_len]; omega) ?_
    rintro ov' H' ⟨a', m', rfl⟩ hz'
    rw [← gl_at, ← renp_succ] at hz'
    conv => whnf
    refine ⟨rfl, _, storeAt_row hz'.z (by simp) rfl, ?_⟩
    conv => whnf
    refine ⟨?_, ?_⟩
    · repeat' (first | exact True.intro | (refine And.intro ?_ ?_ <;> (conv => whnf)))
      all_goals first
        | exact sameAt_val (h2 := _) rfl (sameV_slice _ _ _)
        | exact sameAt_val (h2 := _) rfl (sameV_ptr3 _ _)
        | exact sameAt_val (h2 := _) rfl (sameV_int _)
        | trace_state
    conv => whnf
    exact ⟨(_, _), ⟨rfl, rfl, rfl, rfl, rfl, rfl, trivial⟩, ⟨rfl, hz'.put _⟩, rfl⟩
  clear hz
  rintro ⟨ov, Ho⟩ φ6 _ ⟨rfl, hz⟩
  dsimp only at hz ⊢
  conv => whnf
  refine SeqP.cut (α := Value × Hp) (fun s => [(10, ptr Z 0), (9, int k), (8, int n), (7, ptr X 0), (1, .slice al1 l1.length cl1)]) (fun s H => s.2 = H ∧ RZ H2 s.2 26 Z ov s.1 (.slice none 0 0) (ren n k x.out) (x.start.map (sg n k)) [] [int n, ov, s.1, .slice none 0 0]) ?_ ?_
  · conv => whnf
    repeat (refine SeqP.go ?_; conv => whnf)
    refine loop_inv (α := Nat × Value × Hp) (fun s => [(13, int s.1), (10, ptr Z 0), (9, int k), (8, int n), (7, ptr X 0), (1, .slice al1 l1.length cl1)]) (fun s => s.2.2) (fun s => s.1 ≤ x.start.length ∧ RZ H2 s.2.2 26 Z ov s.2.1 (.slice none 0 0) (ren n k x.out) ((x.start.take s.1).map (sg n k)) [] [int n, ov, s.2.1, .slice none 0 0]) (fun s => x.start.length - s.1) (0, .slice none 0 0, Ho) ⟨Nat.zero_le _, hz⟩ ⟨rfl, rfl, rfl, rfl, rfl, rfl, trivial⟩ (Hp.Le.refl _) ?_
    clear hz
    rintro ⟨i, sv, H⟩ φ6 ⟨hi, hz⟩
    dsimp only at hi hz ⊢
    have hwk := hz.s.slice
    obtain ⟨aw, rfl, -⟩ := hwk
    have hXH := hz.gr.at_ _ _ hX
    conv => whnf
    repeat (refine SeqP.go ?_; conv => whnf)
    refine ⟨_, cellAt_row hXH y2, ?_⟩
    conv => whnf
    refine cmpB (fun c1 => ?_) (fun c1 => ?_)
    rotate_left
    · have ei : i = x.start.length := by omega
      rw [ei, List.take_length] at hz
      conv => whnf
      repeat (refine SeqP.go ?_; conv => whnf)
      exact ⟨(_, H), ⟨rfl, rfl, rfl, rfl, rfl, trivial⟩, ⟨rfl, hz⟩, rfl⟩
    have hin : i < x.start.length := by omega
    have hsi := hOk.sts _ (List.getElem_mem hin)
    have him := sg_mod (n := n) (k := k) (x := x.start[i]) (by omega) (by omega)
    have hc := (j2.ext hz.gr).ints
    obtain ⟨ao', co', ew, hcc⟩ := hc
    cases ew
    have hc := hcc i hin
    obtain ⟨r, o, sp, ea, hsp, hci⟩ := hc
    subst ea
    conv => whnf
    refine SeqP.cut (α := Value × Hp) (fun s => [(13, int i), (10, ptr Z 0), (9, int k), (8, int n), (7, ptr X 0), (1, .slice al1 l1.length cl1)]) (fun s H' => s.2 = H' ∧ RZ H2 s.2 26 Z ov s.1 (.slice none 0 0) (ren n k x.out) ((x.start.take (i + 1)).map (sg n k)) [] [int n, ov, s.1, .slice none 0 0]) ?_ ?_
    rotate_left
    · rintro ⟨w', H'⟩ φ7 _ ⟨rfl, h1⟩
      dsimp only at h1 ⊢
      conv => whnf
      refine ⟨((i + 1 : Nat) : Int), wie (by omega) (by omega), ?_⟩
      conv => whnf
      exact Rnd.mk (i + 1, w', H') ⟨by show i + 1 ≤ x.start.length; omega, h1⟩ (by show x.start.length - (i + 1) < x.start.length - i; omega) ⟨rfl, rfl, rfl, rfl, rfl, rfl, trivial⟩ (Hp.Le.refl _) rfl
    conv => whnf
    refine SeqP.go ?_
    conv => whnf
    refine ⟨_, cellAt_row hz.z rfl, ?_⟩
    conv => whnf
    repeat (refine SeqP.go ?_; conv => whnf)
    refine ⟨_, cellAt_row hXH y2, ?_⟩
    conv => whnf
    refine ⟨hsp, ⟨by omega, by omega⟩, ?_⟩
    conv => whnf
    refine ⟨int x.start[i], by rw [offAt_eq, Nat.add_comm]; simpa using hci, ?_⟩
    conv => whnf
    refine ⟨x.start[i] + k, wid (by omega), ?_⟩
    conv => whnf
    refine ⟨by omega, ?_⟩
    conv => whnf
    refine hz.s_app (by rw [List.length_map, List.length_take]; omega) ?_
    rintro sv' H' ⟨a', m', rfl⟩ hz'
    rw [him, show [sg n k x.start[i]] = [x.start[i]].map (sg n k) from rfl, ← List.map_append, ← List.take_succ_eq_append_getElem hin] at hz'
    conv => whnf
    refine ⟨rfl, _, storeAt_row hz'.z (by simp) rfl, ?_⟩
    conv => whnf
    exact ⟨(_, _), ⟨rfl, rfl, rfl, rfl, rfl, rfl, trivial⟩, ⟨rfl, hz'.put _⟩, rfl⟩
  clear hz
  rintro ⟨sv, Hs⟩ φ7 _ ⟨rfl, hz⟩
  dsimp only at hz ⊢
  have hR := ROk.in hOk.rs
  rw [en] at hR
  have hRO := hOk.rs
  rw [en] at hRO
  conv => whnf
  refine SeqP.cut (α := Value × List Q4 × Hp) (fun s => [(10, ptr Z 0), (9, int k), (8, int n), (7, ptr X 0), (1, .slice al1 l1.length cl1)]) (fun s H => s.2.2 = H ∧ RZ H2 s.2.2 26 Z ov sv s.1 (ren n k x.out) (x.start.map (sg n k)) s.2.1 [int n, ov, sv, s.1] ∧ ZI n k x.rules (5 * n + n) 0 s.2.1) ?_ ?_
  · conv => whnf
    repeat (refine SeqP.go ?_; conv => whnf)
    refine loop_inv (α := Nat × Value × List Q4 × Hp) (fun s => [(15, int s.1), (10, ptr Z 0), (9, int k), (8, int n), (7, ptr X 0), (1, .slice al1 l1.length cl1)]) (fun s => s.2.2.2) (fun s => s.1 ≤ n ∧ RZ H2 s.2.2.2 26 Z ov sv s.2.1 (ren n k x.out) (x.start.map (sg n k)) s.2.2.1 [int n, ov, sv, s.2.1] ∧ ZI n k x.rules (5 * s.1 + s.1) 0 s.2.2.1) (fun s => n - s.1) (0, .slice none 0 0, [], Hs) ⟨Nat.zero_le _, hz, ZI.start hk hR⟩ ⟨rfl, rfl, rfl, rfl, rfl, rfl, trivial⟩ (Hp.Le.refl _) ?_
    clear hz
    rintro ⟨a, rv, Q, H⟩ φ6 ⟨ha, hz, hzi⟩
    dsimp only at ha hz hzi ⊢
    conv => whnf
    repeat (refine SeqP.go ?_; conv => whnf)
    refine cmpB (fun c1 => ?_) (fun c1 => ?_)
    rotate_left
    · have : a = n := by omega
      subst this
      conv => whnf
      exact ⟨(_, _, H), ⟨rfl, rfl, rfl, rfl, rfl, trivial⟩, ⟨rfl, hz, hzi⟩, rfl⟩
    have han : a < n := by omega
    conv => whnf
    refine SeqP.cut (α := Value × List Q4 × Hp) (fun s => [(15, int a), (10, ptr Z 0), (9, int k), (8, int n), (7, ptr X 0), (1, .slice al1 l1.length cl1)]) (fun s H' => s.2.2 = H' ∧ RZ H2 s.2.2 26 Z ov sv s.1 (ren n k x.out) (x.start.map (sg n k)) s.2.1 [int n, ov, sv, s.1] ∧ ZI n k x.rules (5 * ((a + 1 : Nat) : Int) + ((a + 1 : Nat) : Int)) 0 s.2.1) ?_ ?_
    rotate_left
    · rintro ⟨w', Q', H'⟩ φ7 _ ⟨rfl, h1, h2⟩
      dsimp only at h1 h2 ⊢
      conv => whnf
      refine ⟨((a + 1 : Nat) : Int), wie (by omega) (by omega), ?_⟩
      conv => whnf
      exact Rnd.mk (a + 1, w', Q', H') ⟨by show a + 1 ≤ n; omega, h1, h2⟩ (by show n - (a + 1) < n - a; omega) ⟨rfl, rfl, rfl, rfl, rfl, rfl, trivial⟩ (Hp.Le.refl _) rfl
    conv => whnf
    repeat (refine SeqP.go ?_; conv => whnf)
    refine loop_inv (α := Nat × Value × List Q4 × Hp) (fun s => [(16, int s.1), (15, int a), (10, ptr Z 0), (9, int k), (8, int n), (7, ptr X 0), (1, .slice al1 l1.length cl1)]) (fun s => s.2.2.2) (fun s => s.1 ≤ n ∧ a ≤ s.1 ∧ RZ H2 s.2.2.2 26 Z ov sv s.2.1 (ren n k x.out) (x.start.map (sg n k)) s.2.2.1 [int n, ov, sv, s.2.1] ∧ ZI n k x.rules (5 * a + s.1) 0 s.2.2.1) (fun s => n - s.1) (a, rv, Q, H) ⟨by show a ≤ n; omega, Nat.le_refl _, hz, hzi⟩ ⟨rfl, rfl, rfl, rfl, rfl, rfl, rfl, trivial⟩ (Hp.Le.refl _) ?_
    clear hz hzi
    rintro ⟨b, rv, Q, H⟩ φ7 ⟨hb, hab, hz, hzi⟩
    dsimp only at hb hab hz hzi ⊢
    conv => whnf
    repeat (refine SeqP.go ?_; conv => whnf)
    refine cmpB (fun c2 => ?_) (fun c2 => ?_)
    rotate_left
    · have eb : b = n := by omega
      rw [eb] at hzi
      have hzt := hzi.turn hk hn4 hR
      conv => whnf
      repeat (refine SeqP.go ?_; conv => whnf)
      exact ⟨(_, _, H), ⟨rfl, rfl, rfl, rfl, rfl, rfl, trivial⟩, ⟨rfl, hz, hzt⟩, rfl⟩
    have hbn : b < n := by omega
    conv => whnf
    refine SeqP.cut (α := Value × List Q4 × Hp) (fun s => [(16, int b), (15, int a), (10, ptr Z 0), (9, int k), (8, int n), (7, ptr X 0), (1, .slice al1 l1.length cl1)]) (fun s H' => s.2.2 = H' ∧ RZ H2 s.2.2 26 Z ov sv s.1 (ren n k x.out) (x.start.map (sg n k)) s.2.1 [int n, ov, sv, s.1] ∧ ZI n k x.rules (5 * a + ((b + 1 : Nat) : Int)) 0 s.2.1) ?_ ?_
    rotate_left
    · rintro ⟨w', Q', H'⟩ φ8 _ ⟨rfl, h1, h2⟩
      dsimp only at h1 h2 ⊢
      conv => whnf
      refine ⟨((b + 1 : Nat) : Int), wie (by omega) (by omega), ?_⟩
      conv => whnf
      exact Rnd.mk (b + 1, w', Q', H') ⟨by show b + 1 ≤ n; omega, by show a ≤ b + 1; omega, h1, h2⟩ (by show n - (b + 1) < n - b; omega) ⟨rfl, rfl, rfl, rfl, rfl, rfl, rfl, trivial⟩ (Hp.Le.refl _) rfl
    conv => whnf
    repeat (refine SeqP.go ?_; conv => whnf)
    refine loop_inv (α := Nat × Value × List Q4 × Hp) (fun s => [(17, int s.1), (16, int b), (15, int a), (10, ptr Z 0), (9, int k), (8, int n), (7, ptr X 0), (1, .slice al1 l1.length cl1)]) (fun s => s.2.2.2) (fun s => s.1 ≤ x.rules.length ∧ RZ H2 s.2.2.2 26 Z ov sv s.2.1 (ren n k x.out) (x.start.map (sg n k)) s.2.2.1 [int n, ov, sv, s.2.1] ∧ ZI n k x.rules (5 * a + b) s.1 s.2.2.1) (fun s => x.rules.length - s.1) (0, rv, Q, H) ⟨Nat.zero_le _, hz, hzi⟩ ⟨rfl, rfl, rfl, rfl, rfl, rfl, rfl, rfl, trivial⟩ (Hp.Le.refl _) ?_
    clear hz hzi
    rintro ⟨i, rv, Q, H⟩ φ8 ⟨hi, hz, hzi⟩
    dsimp only at hi hz hzi ⊢
    have hwk := hz.r.slice
    obtain ⟨aw, rfl, -⟩ := hwk
    have hXH := hz.gr.at_ _ _ hX
    conv => whnf
    repeat (refine SeqP.go ?_; conv => whnf)
    refine ⟨_, cellAt_row hXH y3, ?_⟩
    conv => whnf
    refine cmpB (fun c3 => ?_) (fun c3 => ?_)
    rotate_left
    · have ei : i = x.rules.length := by omega
      rw [ei] at hzi
      have hzn := hzi.next
      conv => whnf
      repeat (refine SeqP.go ?_; conv => whnf)
      exact ⟨(_, _, H), ⟨rfl, rfl, rfl, rfl, rfl, rfl, rfl, trivial⟩, ⟨rfl, hz, by rw [show (5 * (a : Int) + ((b + 1 : Nat) : Int)) = 5 * a + b + 1 by omega]; exact hzn⟩, rfl⟩
    have hiR : i < x.rules.length := by omega
    conv => whnf
    refine SeqP.cut (α := Value × List Q4 × Hp) (fun s => [(17, int i), (16, int b), (15, int a), (10, ptr Z 0), (9, int k), (8, int n), (7, ptr X 0), (1, .slice al1 l1.length cl1)]) (fun s H' => s.2.2 = H' ∧ RZ H2 s.2.2 26 Z ov sv s.1 (ren n k x.out) (x.start.map (sg n k)) s.2.1 [int n, ov, sv, s.1] ∧ ZI n k x.rules (5 * a + b) (i + 1) s.2.1) ?_ ?_
    rotate_left
    · rintro ⟨w', Q', H'⟩ φ9 _ ⟨rfl, h1, h2⟩
      dsimp only at h1 h2 ⊢
      conv => whnf
      refine ⟨((i + 1 : Nat) : Int), wie (by omega) (by omega), ?_⟩
      conv => whnf
      exact Rnd.mk (i + 1, w', Q', H') ⟨by show i + 1 ≤ x.rules.length; omega, h1, h2⟩ (by show x.rules.length - (i + 1) < x.rules.length - i; omega) ⟨rfl, rfl, rfl, rfl, rfl, rfl, rfl, rfl, trivial⟩ (Hp.Le.refl _) rfl
    have hcA := RV.cells (j3.ext hz.gr)
    obtain ⟨aA, eA, hcA⟩ := hcA
    cases eA
    have hck := hcA i hiR
    obtain ⟨rr, ear, hckH⟩ := hck
    subst ear
    have hqR := qin' (hR _ (List.getElem_mem hiR))
    have hskip := fun hne => hzi.skip hiR hne
    have hadd := fun he => hzi.add hk hn4 hRO hiR he
    have hqi := qi_in hk (hR _ (List.getElem_mem hiR))
    have hexq : ∃ q, x.rules[i] = q := ⟨_, rfl⟩
    obtain ⟨q, eq⟩ := hexq
    rw [eq] at hckH hqR hskip hadd hqi
    have m1 := sg_mod (n := n) (k := k) (x := q.a) (by omega) hqR.1
    have m2 := sg_mod (n := n) (k := k) (x := q.b) (by omega) hqR.2.1
    have m3 := sg_mod (n := n) (k := k) (x := q.c) (by omega) hqR.2.2.1
    have m4 := sg_mod (n := n) (k := k) (x := q.d) (by omega) hqR.2.2.2
    have d1 := sg_bd (n := n) (k := k) (x := q.a) (by omega) hqR.1
    have d2 := sg_bd (n := n) (k := k) (x := q.b) (by omega) hqR.2.1
    have d3 := sg_bd (n := n) (k := k) (x := q.c) (by omega) hqR.2.2.1
    have d4 := sg_bd (n := n) (k := k) (x := q.d) (by omega) hqR.2.2.2
    conv => whnf
    refine SeqP.cut (α := Hp) (fun s => [(18, ptr H.next 0), (17, int i), (16, int b), (15, int a), (10, ptr Z 0), (9, int k), (8, int n), (7, ptr X 0), (1, .slice al1 l1.length cl1)]) (fun s H' => s = H' ∧ s.at H.next = some (.row 96 true [int q.a, int q.b, int q.c, int q.d]) ∧ Grows H s) ?_ ?_
    · conv => whnf
      repeat (refine SeqP.go ?_; conv => whnf)
      refine ⟨_, cellAt_row hXH y3, ?_⟩
      conv => whnf
      refine ⟨rfl, ⟨by omega, by omega⟩, ?_⟩
      conv => whnf
      refine ⟨[int q.a, int q.b, int q.c, int q.d], by rw [offAt_eq]; simpa using hckH, ?_⟩
      conv => whnf
      refine ⟨rfl, _, storeAt_all (vs := [int q.a, int q.b, int q.c, int q.d]) rfl rfl rfl, ?_⟩
      conv => whnf
      exact ⟨_, ⟨rfl, rfl, rfl, rfl, rfl, rfl, rfl, rfl, rfl, trivial⟩, ⟨rfl, Hp.at_lay_self _ _, Grows.lay _ _⟩, rfl⟩
    rintro H3 φ9 _ ⟨rfl, hq3, hg3⟩
    have hz3 := hz.ext hg3
    clear hXH
    conv => whnf
    refine SeqP.cut (α := Unit) (fun s => [(19, int (sg n k q.a)), (20, int (sg n k q.b)), (18, ptr H.next 0), (17, int i), (16, int b), (15, int a), (10, ptr Z 0), (9, int k), (8, int n), (7, ptr X 0), (1, .slice al1 l1.length cl1)]) (fun s H' => H3 = H') ?_ ?_
    · conv => whnf
      refine ⟨⟨by omega, by omega⟩, ?_⟩
      conv => whnf
      refine ⟨_, cellAt_row hq3 rfl, ?_⟩
      conv => whnf
      refine ⟨q.a + k, wid (by omega), ?_⟩
      conv => whnf
      refine ⟨by omega, ?_⟩
      conv => whnf
      refine ⟨⟨by omega, by omega⟩, ?_⟩
      conv => whnf
      refine ⟨_, cellAt_row hq3 rfl, ?_⟩
      conv => whnf
      refine ⟨q.b + k, wid (by omega), ?_⟩
      conv => whnf
      refine ⟨by omega, ?_⟩
      conv => whnf
      exact ⟨(), ⟨congrArg int m1, congrArg int m2, rfl, rfl, rfl, rfl, rfl, rfl, rfl, rfl, rfl, trivial⟩, rfl, rfl⟩
    rintro _ φ10 _ rfl
    conv => whnf
    refine SeqP.go ?_
    conv => whnf
    refine ⟨_, cellAt_row hz3.z rfl, ?_⟩
    conv => whnf
    refine SeqP.go ?_
    conv => whnf
    refine resP_val (v := int (min (sg n k q.a) (sg n k q.b))) (h := H3) ?_ ?_
    · conv => lhs; whnf
      exact congrArg (HRes.val · _) (min_eq3 _ _)
    have kyq : ky (qi n k q) = 5 * min (sg n k q.a) (sg n k q.b) + max (sg n k q.a) (sg n k q.b) := rfl
    conv => whnf
    refine cmpB (fun c5 => ?_) (fun c5 => ?_)
    rotate_left
    · conv => whnf
      exact ⟨(_, _, H3), ⟨rfl, rfl, rfl, rfl, rfl, rfl, rfl, rfl, trivial⟩, ⟨rfl, hz3, hskip (by rw [kyq]; omega)⟩, rfl⟩
    conv => whnf
    refine resP_val (v := int (max (sg n k q.a) (sg n k q.b))) (h := H3) ?_ ?_
    · conv => lhs; whnf
      exact congrArg (HRes.val · _) (max_eq3 _ _)
    conv => whnf
    refine cmpB (fun c6 => ?_) (fun c6 => ?_)
    rotate_left
    · conv => whnf
      exact ⟨(_, _, H3), ⟨rfl, rfl, rfl, rfl, rfl, rfl, rfl, rfl, trivial⟩, ⟨rfl, hz3, hskip (by rw [kyq]; omega)⟩, rfl⟩
    conv => whnf
    refine ⟨⟨by omega, by omega⟩, ?_⟩
    conv => whnf
    refine ⟨_, cellAt_row hq3 rfl, ?_⟩
    conv => whnf
    refine ⟨q.c + k, wid (by omega), ?_⟩
    conv => whnf
    refine ⟨by omega, ?_⟩
    conv => whnf
    refine ⟨⟨by omega, by omega⟩, ?_⟩
    conv => whnf
    refine ⟨_, cellAt_row hq3 rfl, ?_⟩
    conv => whnf
    refine ⟨q.d + k, wid (by omega), ?_⟩
    conv => whnf
    refine ⟨by omega, ?_⟩
    conv => whnf
    have hQl := hzi.len
    have eqi : (⟨a, b, (q.c + k).tmod n, (q.d + k).tmod n⟩ : Q4) = qi n k q := by
      rw [m3, m4]
      unfold qi
      congr 1 <;> omega
    refine hz3.r_app (z := ⟨a, b, (q.c + k).tmod n, (q.d + k).tmod n⟩) (by omega) ?_
    rintro rv' H' ⟨a', m', rfl⟩ hz'
    rw [eqi] at hz'
    conv => whnf
    refine ⟨rfl, _, storeAt_row hz'.z (by simp) rfl, ?_⟩
    conv => whnf
    refine ⟨?_, ?_⟩
    · repeat' (first | exact True.intro | (refine And.intro ?_ ?_ <;> (conv => whnf)))
      all_goals first
        | exact sameAt_val (h2 := _) rfl (sameV_slice _ _ _)
        | exact sameAt_val (h2 := _) rfl (sameV_ptr3 _ _)
        | exact sameAt_val (h2 := _) rfl (sameV_int _)
        | trace_state
    conv => whnf
    exact ⟨(_, _, _), ⟨rfl, rfl, rfl, rfl, rfl, rfl, rfl, rfl, trivial⟩, ⟨rfl, hz'.put _, hadd (by rw [kyq]; omega)⟩, rfl⟩
  clear hz
  rintro ⟨rv, Q, Hq⟩ φ8 _ ⟨rfl, hz, hzi⟩
  dsimp only at hz hzi ⊢
  have hdone := hzi.done hk hn4 hR
  obtain ⟨hRn, hQok⟩ := hdone
  have hQl := hzi.len
  have hPX := hPV.ext hz.gr
  have hXq := hz.gr.at_ _ _ hX
  have hPZ := hz.pv (n := n)
  have hZq := hz.z
  have hzok : POk ⟨n, ren n k x.out, x.start.map (sg n k), Q⟩ := by
    refine ⟨by show (1 : Int) ≤ n; omega, by show (n : Int) ≤ 5; omega, by show ((ren n k x.out).length : Int) = n; rw [ren_len], ?_, ?_, ?_, ?_, by show Q.length ≤ 15; omega, hQok⟩
    · intro y hy
      obtain ⟨i, hi, rfl⟩ := List.getElem_of_mem hy
      rw [ren_len] at hi
      have hib := ig_bd (n := n) (k := k) (x := i) (by omega) (by omega)
      show 0 ≤ (ren n k x.out)[i]'(by rw [ren_len]; exact hi) ∧ (ren n k x.out)[i]'(by rw [ren_len]; exact hi) ≤ 1
      rw [← gl_at (l := ren n k x.out) (by rw [ren_len]; exact hi), gl_ren hi, gl_at (by omega)]
      exact hOk.outs _ (List.getElem_mem _)
    · show 1 ≤ (x.start.map (sg n k)).length
      rw [List.length_map]; exact hOk.st1
    · show (x.start.map (sg n k)).length ≤ 2
      rw [List.length_map]; exact hOk.st2
    · intro y hy
      obtain ⟨y', hy', rfl⟩ := List.mem_map.1 hy
      have h1 := hOk.sts y' hy'
      have := sg_bd (n := n) (k := k) (x := y') (by omega) (by omega)
      show 0 ≤ sg n k y' ∧ sg n k y' ≤ (n : Int) - 1
      omega
  have hws := hz.o.slice
  obtain ⟨ao, rfl, -⟩ := hws
  have hws := hz.s.slice
  obtain ⟨asx, rfl, -⟩ := hws
  have hws := hz.r.slice
  obtain ⟨ar, rfl, -⟩ := hws
  unfold pval at hPZ
  have hexc : ∃ bz, bz = [int n, .slice ao (ren n k x.out).length (ren n k x.out).length, .slice asx (x.start.map (sg n k)).length (x.start.map (sg n k)).length, .slice ar Q.length Q.length] := ⟨_, rfl⟩
  obtain ⟨bz, ebz⟩ := hexc
  have hbz : bz.length = 4 := by rw [ebz]; rfl
  rw [← ebz] at hPZ hZq
  clear ebz
  have hgq := hz.gr
  clear hz hzi
  conv => whnf
  refine SeqP.cut (α := Value × List Int × Hp) (fun s => [(22, s.1), (10, ptr Z 0), (9, int k), (8, int n), (7, ptr X 0)]) (fun s H => s.2.2 = H ∧ LV s.2.2 s.1 s.2.1 ∧ CrOk n s.2.1 ∧ Grows Hq s.2.2) ?_ ?_
  · conv => whnf
    refine CallP.mono (gathered_spec _ l1 _ (hL1.ext (hg2.trans hgq)).ints (by omega) n 7 (by omega) (by omega) (by omega) (by omega)) ?_
    rintro r4 H4 ⟨c, hc1, hc2, hc3, hc4, hc5, g4⟩
    conv => whnf
    exact ⟨(r4, c, H4), ⟨rfl, rfl, rfl, rfl, rfl, trivial⟩, ⟨rfl, LV.of hc1, ⟨hc2, gl_mem (p := fun x => 0 ≤ x) hc3 (by omega), hc4, by show c.sum ≤ 9; omega⟩, g4⟩, rfl⟩
  rintro ⟨cvv, c, H4⟩ φ9 _ ⟨rfl, hcv, hcr, hg4⟩
  dsimp only at hcv hcr hg4 ⊢
  have hkk := hcv.known
  obtain ⟨acv, rfl⟩ := hkk
  have hcl := hcr.len
  have hX4 := hg4.at_ _ _ hXq
  have hZ4 := hg4.at_ _ _ hZq
  have hPX4 := hPX.ext hg4
  have hPZ4 := hPZ.ext hg4
  conv => whnf
  refine SeqP.cut (α := Unit) (fun s => [(23, .slice none 0 0), (22, .slice acv c.length c.length), (10, ptr Z 0), (9, int k), (8, int n), (7, ptr X 0)]) (fun s H => H4 = H) ?_ ?_
  · conv => whnf
    exact ⟨(), ⟨rfl, rfl, rfl, rfl, rfl, rfl, trivial⟩, rfl, rfl⟩
  rintro _ φ10 _ rfl
  conv => whnf
  refine SeqP.cut (α := Value × Hp) (fun s => [(23, s.1), (22, .slice acv c.length c.length), (10, ptr Z 0), (7, ptr X 0)]) (fun s H => s.2 = H ∧ Built H4 s.2 3 s.1 (ren n k c) ∧ Grows H4 s.2) ?_ ?_
  · conv => whnf
    repeat (refine SeqP.go ?_; conv => whnf)
    refine loop_inv (α := Nat × Value × Hp) (fun s => [(24, int s.1), (23, s.2.1), (22, .slice acv c.length c.length), (10, ptr Z 0), (9, int k), (8, int n), (7, ptr X 0)]) (fun s => s.2.2) (fun s => s.1 ≤ n ∧ Built H4 s.2.2 3 s.2.1 (renp n k c s.1) ∧ Grows H4 s.2.2) (fun s => n - s.1) (0, .slice none 0 0, H4) ⟨Nat.zero_le _, .inl ⟨rfl, rfl⟩, .refl _⟩ ⟨rfl, rfl, rfl, rfl, rfl, rfl, rfl, trivial⟩ (Hp.Le.refl _) ?_
    rintro ⟨i, dv, H⟩ φ11 ⟨hi, hb, hg⟩
    dsimp only at hi hb hg ⊢
    have hwk := (LV.of hb).known
    obtain ⟨aw, rfl⟩ := hwk
    conv => whnf
    repeat (refine SeqP.go ?_; conv => whnf)
    refine cmpB (fun c1 => ?_) (fun c1 => ?_)
    rotate_left
    · have : i = n := by omega
      subst this
      conv => whnf
      exact ⟨(_, H), ⟨rfl, rfl, rfl, rfl, trivial⟩, ⟨rfl, hb, hg⟩, rfl⟩
    have hin : i < n := by omega
    have hib := ig_bd (n := n) (k := k) (x := i) (by omega) (by omega)
    have him := ig_mod (n := n) (k := k) (x := i) (by omega) (by omega)
    have hc := (hcv.ext hg).ints
    obtain ⟨ao', co', ew, hcc⟩ := hc
    cases ew
    have hc := hcc (ig n k i).toNat (by omega)
    obtain ⟨r, o, sp, ea, hsp, hci⟩ := hc
    subst ea
    conv => whnf
    repeat (refine SeqP.go ?_; conv => whnf)
    refine ⟨(i : Int) + n, wid (by omega), ?_⟩
    conv => whnf
    refine ⟨(i : Int) + n - k, wid (by omega), ?_⟩
    conv => whnf
    refine ⟨by omega, ?_⟩
    conv => whnf
    refine ⟨hsp, ⟨by omega, by omega⟩, ?_⟩
    conv => whnf
    refine ⟨int (c[(ig n k i).toNat]'(by omega)), by rw [offAt_eq, Nat.add_comm, him]; simpa using hci, ?_⟩
    conv => whnf
    refine AppP.ints (hb.ext (Grows.lay _ _)) (hg.then_lay _) Elems.lay1 (by rw [renp_len]; simp; omega) ?_
    intro w2 H2' hb2 hg2' keep2
    rw [← gl_at, ← renp_succ] at hb2
    have hwk := (LV.of hb2).known
    obtain ⟨aw2, rfl⟩ := hwk
    conv => whnf
    repeat (refine SeqP.go ?_; conv => whnf)
    refine ⟨((i + 1 : Nat) : Int), wie (by omega) (by omega), ?_⟩
    conv => whnf
    exact Rnd.mk (i + 1, _, H2') ⟨by show i + 1 ≤ n; omega, hb2, hg2'⟩ (by show n - (i + 1) < n - i; omega) ⟨rfl, rfl, rfl, rfl, rfl, rfl, rfl, trivial⟩ (Hp.Le.refl _) rfl
  rintro ⟨dv, H5⟩ φ11 _ ⟨rfl, hdb, hg5⟩
  dsimp only at hdb hg5 ⊢
  have hdv := LV.of hdb
  have hkk := hdv.known
  obtain ⟨adv, rfl⟩ := hkk
  have hdr := ren_crok hn4 hk hcr
  have hX5 := hg5.at_ _ _ hX4
  have hZ5 := hg5.at_ _ _ hZ4
  have hPX5 := hPX4.ext hg5
  have hPZ5 := hPZ4.ext hg5
  have hcv5 := hcv.ext hg5
  have hdl := hdr.len
  have hxl := x.start.length_map (sg n k)
  have hrl2 := ren_len n k x.out
  have hRx := hRn
  clear hPX4 hPZ4 hX4 hZ4 hcv hPX hXq hZq hPZ hX hPV y0 y1 y2 y3 j1 j2 j3 hL1 hP hbp
  have hGH5 := Grows.refl H5
  conv => whnf
  refine SeqP.cut (α := Int × Bool × Hp) (fun s => [(25, int s.1), (26, .bool s.2.1), (27, int 0), (23, .slice adv (ren n k c).length (ren n k c).length), (22, .slice acv c.length c.length), (10, ptr Z 0), (7, ptr X 0)]) (fun s H => s.2.2 = H ∧ FirstOf (fun on => SettC x.rules x.out on c) s.1 s.2.1 ∧ Grows H5 s.2.2) ?_ ?_
  · conv => whnf
    refine ⟨b9, all_cells (hGH5.at_ _ _ hX5) hb9, ?_⟩
    conv => whnf
    refine CallP.mono (given_spec _ x _ (hPX5.ext hGH5) (by first | omega | (dsimp only; omega)) (by first | omega | (dsimp only; omega)) (by first | omega | (dsimp only; omega))) ?_
    rintro r1 H1 ⟨hr1, g1⟩
    conv => whnf
    refine CallP.mono (Settled_ok PReached_ok _ _ _ n c _ hr1 ((hcv5.ext hGH5).ext g1).view hOk en hcr) ?_
    rintro r2 H2' ⟨⟨s, b, rfl, hf⟩, g2⟩
    conv => whnf
    exact ⟨(s, b, H2'), ⟨rfl, rfl, rfl, rfl, rfl, rfl, rfl, trivial⟩, ⟨rfl, hf, (hGH5.trans g1).trans g2⟩, rfl⟩
  rintro ⟨s1, t1, K1⟩ ψ1 _ ⟨rfl, hf1, hGK1⟩
  dsimp only at hf1 hGK1 ⊢
  conv => whnf
  refine SeqP.cut (α := Int × Bool × Hp) (fun s => [(28, int s.1), (29, .bool s.2.1), (30, int 0), (25, int s1), (26, .bool t1), (27, int 0), (23, .slice adv (ren n k c).length (ren n k c).length), (22, .slice acv c.length c.length), (10, ptr Z 0), (7, ptr X 0)]) (fun s H => s.2.2 = H ∧ FirstOf (fun on => SettC Q (ren n k x.out) on (ren n k c)) s.1 s.2.1 ∧ Grows H5 s.2.2) ?_ ?_
  · conv => whnf
    refine ⟨bz, all_cells (hGK1.at_ _ _ hZ5) hbz, ?_⟩
    conv => whnf
    refine CallP.mono (given_spec _ ⟨n, ren n k x.out, x.start.map (sg n k), Q⟩ _ (hPZ5.ext hGK1) (by first | omega | (dsimp only; omega)) (by first | omega | (dsimp only; omega)) (by first | omega | (dsimp only; omega))) ?_
    rintro r1 H1 ⟨hr1, g1⟩
    conv => whnf
    refine CallP.mono (Settled_ok PReached_ok _ _ _ n (ren n k c) _ hr1 ((hdv.ext hGK1).ext g1).view hzok rfl hdr) ?_
    rintro r2 H2' ⟨⟨s, b, rfl, hf⟩, g2⟩
    conv => whnf
    exact ⟨(s, b, H2'), ⟨rfl, rfl, rfl, rfl, rfl, rfl, rfl, rfl, rfl, rfl, trivial⟩, ⟨rfl, hf, (hGK1.trans g1).trans g2⟩, rfl⟩
  rintro ⟨s2, t2, K2⟩ ψ2 _ ⟨rfl, hf2, hGK2⟩
  dsimp only at hf2 hGK2 ⊢
  conv => whnf
  refine SeqP.cut (α := Int × Bool × Hp) (fun s => [(31, int s.1), (32, .bool s.2.1), (33, int 0), (28, int s2), (29, .bool t2), (30, int 0), (25, int s1), (26, .bool t1), (27, int 0), (23, .slice adv (ren n k c).length (ren n k c).length), (22, .slice acv c.length c.length), (10, ptr Z 0), (7, ptr X 0)]) (fun s H => s.2.2 = H ∧ FirstOf (fun on => DeciC x.rules x.out on c) s.1 s.2.1 ∧ Grows H5 s.2.2) ?_ ?_
  · conv => whnf
    refine ⟨b9, all_cells (hGK2.at_ _ _ hX5) hb9, ?_⟩
    conv => whnf
    refine CallP.mono (given_spec _ x _ (hPX5.ext hGK2) (by first | omega | (dsimp only; omega)) (by first | omega | (dsimp only; omega)) (by first | omega | (dsimp only; omega))) ?_
    rintro r1 H1 ⟨hr1, g1⟩
    conv => whnf
    refine CallP.mono (Decides_ok PReached_ok _ _ _ n c _ hr1 ((hcv5.ext hGK2).ext g1).view hOk en hcr) ?_
    rintro r2 H2' ⟨⟨s, b, rfl, hf⟩, g2⟩
    conv => whnf
    exact ⟨(s, b, H2'), ⟨rfl, rfl, rfl, rfl, rfl, rfl, rfl, rfl, rfl, rfl, rfl, rfl, rfl, trivial⟩, ⟨rfl, hf, (hGK2.trans g1).trans g2⟩, rfl⟩
  rintro ⟨s3, t3, K3⟩ ψ3 _ ⟨rfl, hf3, hGK3⟩
  dsimp only at hf3 hGK3 ⊢
  conv => whnf
  refine SeqP.cut (α := Int × Bool × Hp) (fun s => [(34, int s.1), (35, .bool s.2.1), (36, int 0), (31, int s3), (32, .bool t3), (33, int 0), (28, int s2), (29, .bool t2), (30, int 0), (25, int s1), (26, .bool t1), (27, int 0), (23, .slice adv (ren n k c).length (ren n k c).length), (22, .slice acv c.length c.length), (10, ptr Z 0), (7, ptr X 0)]) (fun s H => s.2.2 = H ∧ FirstOf (fun on => DeciC Q (ren n k x.out) on (ren n k c)) s.1 s.2.1 ∧ Grows H5 s.2.2) ?_ ?_
  · conv => whnf
    refine ⟨bz, all_cells (hGK3.at_ _ _ hZ5) hbz, ?_⟩
    conv => whnf
    refine CallP.mono (given_spec _ ⟨n, ren n k x.out, x.start.map (sg n k), Q⟩ _ (hPZ5.ext hGK3) (by first | omega | (dsimp only; omega)) (by first | omega | (dsimp only; omega)) (by first | omega | (dsimp only; omega))) ?_
    rintro r1 H1 ⟨hr1, g1⟩
    conv => whnf
    refine CallP.mono (Decides_ok PReached_ok _ _ _ n (ren n k c) _ hr1 ((hdv.ext hGK3).ext g1).view hzok rfl hdr) ?_
    rintro r2 H2' ⟨⟨s, b, rfl, hf⟩, g2⟩
    conv => whnf
    exact ⟨(s, b, H2'), ⟨rfl, rfl, rfl, rfl, rfl, rfl, rfl, rfl, rfl, rfl, rfl, rfl, rfl, rfl, rfl, rfl, trivial⟩, ⟨rfl, hf, (hGK3.trans g1).trans g2⟩, rfl⟩
  rintro ⟨s4, t4, K4⟩ ψ4 _ ⟨rfl, hf4, hGK4⟩
  dsimp only at hf4 hGK4 ⊢
  conv => whnf
  refine SeqP.cut (α := List (List Int) × Hp) (fun s => [(37, int (s.1.length : Nat)), (38, int 0), (34, int s4), (35, .bool t4), (36, int 0), (31, int s3), (32, .bool t3), (33, int 0), (28, int s2), (29, .bool t2), (30, int 0), (25, int s1), (26, .bool t1), (27, int 0), (23, .slice adv (ren n k c).length (ren n k c).length), (22, .slice acv c.length c.length), (10, ptr Z 0), (7, ptr X 0)]) (fun s H => s.2 = H ∧ Gr x.rules c s.1 ∧ Grows H5 s.2) ?_ ?_
  · conv => whnf
    refine ⟨b9, all_cells (hGK4.at_ _ _ hX5) hb9, ?_⟩
    conv => whnf
    refine CallP.mono (given_spec _ x _ (hPX5.ext hGK4) (by first | omega | (dsimp only; omega)) (by first | omega | (dsimp only; omega)) (by first | omega | (dsimp only; omega))) ?_
    rintro r1 H1 ⟨hr1, g1⟩
    conv => whnf
    refine CallP.mono (Reached_ok _ _ _ n c _ hr1 ((hcv5.ext hGK4).ext g1).view hOk en hcr) ?_
    rintro r2 H2' ⟨⟨L, rfl, hL, -⟩, g2⟩
    conv => whnf
    exact ⟨(L, H2'), ⟨rfl, rfl, rfl, rfl, rfl, rfl, rfl, rfl, rfl, rfl, rfl, rfl, rfl, rfl, rfl, rfl, rfl, rfl, trivial⟩, ⟨rfl, hL, (hGK4.trans g1).trans g2⟩, rfl⟩
  rintro ⟨L5, K5⟩ ψ5 _ ⟨rfl, hL5, hGK5⟩
  dsimp only at hL5 hGK5 ⊢
  conv => whnf
  refine SeqP.cut (α := List (List Int) × Hp) (fun s => [(39, int (s.1.length : Nat)), (40, int 0), (37, int (L5.length : Nat)), (38, int 0), (34, int s4), (35, .bool t4), (36, int 0), (31, int s3), (32, .bool t3), (33, int 0), (28, int s2), (29, .bool t2), (30, int 0), (25, int s1), (26, .bool t1), (27, int 0), (23, .slice adv (ren n k c).length (ren n k c).length), (22, .slice acv c.length c.length), (10, ptr Z 0), (7, ptr X 0)]) (fun s H => s.2 = H ∧ Gr Q (ren n k c) s.1 ∧ Grows H5 s.2) ?_ ?_
  · conv => whnf
    refine ⟨bz, all_cells (hGK5.at_ _ _ hZ5) hbz, ?_⟩
    conv => whnf
    refine CallP.mono (given_spec _ ⟨n, ren n k x.out, x.start.map (sg n k), Q⟩ _ (hPZ5.ext hGK5) (by first | omega | (dsimp only; omega)) (by first | omega | (dsimp only; omega)) (by first | omega | (dsimp only; omega))) ?_
    rintro r1 H1 ⟨hr1, g1⟩
    conv => whnf
    refine CallP.mono (Reached_ok _ _ _ n (ren n k c) _ hr1 ((hdv.ext hGK5).ext g1).view hzok rfl hdr) ?_
    rintro r2 H2' ⟨⟨L, rfl, hL, -⟩, g2⟩
    conv => whnf
    exact ⟨(L, H2'), ⟨rfl, rfl, rfl, rfl, rfl, rfl, rfl, rfl, rfl, rfl, rfl, rfl, rfl, rfl, rfl, rfl, rfl, rfl, rfl, rfl, trivial⟩, ⟨rfl, hL, (hGK5.trans g1).trans g2⟩, rfl⟩
  rintro ⟨L6, K6⟩ ψ6 _ ⟨rfl, hL6, hGK6⟩
  dsimp only at hL6 hGK6 ⊢
  have q1 := hf1.same (fun on => (hRn.sett (on := on) hoL hcr).symm) hf2
  have q2 := hf3.same (fun on => (hRn.deci (on := on) hoL hcr).symm) hf4
  have q3 := hRn.len hcr hL5 hL6
  obtain ⟨q11, q12⟩ := q1
  obtain ⟨q21, q22⟩ := q2
  subst q11 q12 q21 q22
  conv => whnf
  refine SeqP.splitN 10 ?_
  refine SeqP.cut (α := Unit) (fun _ => [(241, .bool true), (28, int s1), (29, .bool t1), (30, int 0), (25, int s1), (26, .bool t1), (27, int 0), (34, int s3), (35, .bool t3), (36, int 0), (31, int s3), (32, .bool t3), (33, int 0), (37, int (L5.length : Nat)), (38, int 0), (39, int (L6.length : Nat)), (40, int 0)]) (fun _ H => K6 = H) ?_ ?_
  · conv => whnf
    refine cmpT rfl ?_
    conv => whnf
    refine cmpT rfl ?_
    conv => whnf
    refine cmpT rfl ?_
    conv => whnf
    exact ⟨(), ⟨rfl, rfl, rfl, rfl, rfl, rfl, rfl, rfl, rfl, rfl, rfl, rfl, rfl, rfl, rfl, rfl, rfl, trivial⟩, rfl, rfl⟩
  rintro _ ψ241 _ rfl
  conv => whnf
  refine SeqP.splitN 12 ?_
  refine SeqP.cut (α := Unit) (fun _ => [(253, .bool true), (28, int s1), (29, .bool t1), (30, int 0), (25, int s1), (26, .bool t1), (27, int 0), (34, int s3), (35, .bool t3), (36, int 0), (31, int s3), (32, .bool t3), (33, int 0), (37, int (L5.length : Nat)), (38, int 0), (39, int (L6.length : Nat)), (40, int 0)]) (fun _ H => K6 = H) ?_ ?_
  · conv => whnf
    refine cmpT rfl ?_
    conv => whnf
    refine cmpT rfl ?_
    conv => whnf
    refine cmpT rfl ?_
    conv => whnf
    exact ⟨(), ⟨rfl, rfl, rfl, rfl, rfl, rfl, rfl, rfl, rfl, rfl, rfl, rfl, rfl, rfl, rfl, rfl, rfl, trivial⟩, rfl, rfl⟩
  rintro _ ψ253 _ rfl
  conv => whnf
  refine SeqP.splitN 10 ?_
  refine SeqP.cut (α := Unit) (fun _ => [(263, .bool true), (28, int s1), (29, .bool t1), (30, int 0), (25, int s1), (26, .bool t1), (27, int 0), (34, int s3), (35, .bool t3), (36, int 0), (31, int s3), (32, .bool t3), (33, int 0), (37, int (L5.length : Nat)), (38, int 0), (39, int (L6.length : Nat)), (40, int 0)]) (fun _ H => K6 = H) ?_ ?_
  · conv => whnf
    refine cmpT rfl ?_
    conv => whnf
    refine resP_val (v := .bool true) (h := K6) ?_ ?_
    · show hval _ (aBin E .eql 4 _ _ (.bool _) (.bool _)) = _
      rw [bool_eqT]
      rfl
    conv => whnf
    exact ⟨(), ⟨rfl, rfl, rfl, rfl, rfl, rfl, rfl, rfl, rfl, rfl, rfl, rfl, rfl, rfl, rfl, rfl, rfl, trivial⟩, rfl, rfl⟩
  rintro _ ψ263 _ rfl
  conv => whnf
  refine SeqP.splitN 10 ?_
  refine SeqP.cut (α := Unit) (fun _ => [(273, .bool true), (28, int s1), (29, .bool t1), (30, int 0), (25, int s1), (26, .bool t1), (27, int 0), (34, int s3), (35, .bool t3), (36, int 0), (31, int s3), (32, .bool t3), (33, int 0), (37, int (L5.length : Nat)), (38, int 0), (39, int (L6.length : Nat)), (40, int 0)]) (fun _ H => K6 = H) ?_ ?_
  · conv => whnf
    refine cmpT rfl ?_
    conv => whnf
    refine resP_val (v := .bool true) (h := K6) ?_ ?_
    · show hval _ (aBin E .eql 4 _ _ (.bool _) (.bool _)) = _
      rw [bool_eqT]
      rfl
    conv => whnf
    exact ⟨(), ⟨rfl, rfl, rfl, rfl, rfl, rfl, rfl, rfl, rfl, rfl, rfl, rfl, rfl, rfl, rfl, rfl, rfl, trivial⟩, rfl, rfl⟩
  rintro _ ψ273 _ rfl
  conv => whnf
  repeat (refine SeqP.go ?_; conv => whnf)
  refine cmpT (by omega) ?_
  conv => whnf
  refine memo27 ?_
  conv => whnf
  repeat (refine SeqP.go ?_; conv => whnf)
  rfl
end
end Go.Proofs.Ytpiplaicnbapbaa
