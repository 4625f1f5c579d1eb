/- Contracts of the functions that POD comes to. -/
import Derived.Test.YtpiplaicnbapbaaPOC
set_option maxRecDepth 100000
set_option maxHeartbeats 2000000
set_option linter.unusedVariables false
set_option linter.unusedSectionVars false
set_option linter.unusedSimpArgs false
namespace Go.Proofs.Ytpiplaicnbapbaa
open Go.Rx Go.RowKit
theorem elemsC_ext {h h' : Hp} {s m : Nat} {x : Value} {new : List Value} (g : Grows h h') (k : ElemsC h s x m new) : ElemsC h' s x m new := by
  obtain ⟨h1, h2, h3, h4⟩ := k
  refine ⟨h1, ?_, h3, h4⟩
  cases x with
  | slice a n c =>
    cases a with
    | none => exact h2
    | some ad =>
      obtain ⟨r, o, sp⟩ := ad
      unfold helems at h2 ⊢
      dsimp only at h2 ⊢
      split at h2
      · exact h2
      · exact g.cells h2
  | _ => exact h2
/-- Rows of four that can be cut. -/
def C4 (h : Hp) (v : Value) (n : Nat) (l : List Int) : Prop := (∃ a, v = .slice a n n) ∧ ∀ k, k ≤ n → ∃ x, ElemsC h 4 x k ((l.take (k * 4)).map int) ∧ (∀ h', Grows h h' → hcutS h' 4 v none (some (int k)) none = .val x h') ∧ sameV 4 x x = true
theorem C4.ext {h h' : Hp} {v : Value} {n : Nat} {l : List Int} (k : C4 h v n l) (g : Grows h h') : C4 h' v n l :=
  ⟨k.1, fun j hj => let ⟨x, h1, h2, h3⟩ := k.2 j hj; ⟨x, elemsC_ext g h1, fun h2' g2 => h2 h2' (g.trans g2), h3⟩⟩
theorem C4.of {h0 h : Hp} {v : Value} {n : Nat} {l : List Int} (k : BuiltC h0 h 96 4 v n (l.map int)) : C4 h v n l := by
  obtain ⟨hl, hb⟩ := k
  rw [List.length_map] at hl
  have hbd : ∀ j : Nat, BdOf none (some (int j)) n 0 j := fun j => ⟨.inl ⟨rfl, rfl⟩, .inr rfl⟩
  rcases hb with ⟨rfl, rfl⟩ | ⟨r, rfl, -, x, hr⟩
  · refine ⟨⟨_, rfl⟩, fun j hj => ⟨.slice none 0 0, ?_, fun h' _ => ?_, sameV_slice _ _ _⟩⟩
    · have : j = 0 := by omega
      subst this
      exact ⟨rfl, rfl, rfl, rfl⟩
    · have : j = 0 := by omega
      subst this
      unfold hcutS
      dsimp only
      rw [bounds_of (len := 0) (i := 0) (j := 0) ⟨.inl ⟨rfl, rfl⟩, .inr rfl⟩ (by omega) (by omega) (Nat.le_refl _)]
      rfl
  · refine ⟨⟨_, rfl⟩, fun k hk => ?_⟩
    have hlen : ((l.take (k * 4)).map int).length = k * 4 := by rw [List.length_map, List.length_take]; omega
    have el : ∀ x, x = slc r 0 k n ∨ x = void ∧ k = 0 → ElemsC h 4 x k ((l.take (k * 4)).map int) := by
      rintro x (rfl | ⟨rfl, rfl⟩)
      · refine ⟨rfl, ?_, hlen, ints_one _⟩
        show cellsAt h r 0 (k * 4) = _
        rw [cellsAt_row hr (by rw [List.length_map]; omega), List.drop_zero, List.map_take]
      · exact ⟨rfl, rfl, by simp, by simp⟩
    have shape : ∀ h', Grows h h' → hcutS h' 4 (slc r 0 n n) none (some (int k)) none = hcutObj h' 4 r 0 true (some (0, k, n)) (some (.row 96 x (l.map int))) := by
      intro h' g
      unfold hcutS
      dsimp only [slc]
      rw [bounds_of (hbd k) (by omega) hk (Nat.le_refl _)]
      show hcutObj h' 4 r 0 true (some (0, k, n)) (h'.at r) = _
      rw [g.at_ _ _ hr]
    have opened : ∃ y, (y = slc r 0 k n ∨ y = void ∧ k = 0) ∧ ∀ h', hcutObj h' 4 r 0 true (some (0, k, n)) (some (.row 96 x (l.map int))) = .val y h' := by
      cases x with
      | true =>
        refine ⟨slc r 0 k n, .inl rfl, fun h' => ?_⟩
        have e0 : cutTo 4 0 0 n = 0 := by
          unfold cutTo
          cases Nat.beq n 0 <;> rfl
        unfold hcutObj cutExact
        dsimp only
        rw [e0]
        rfl
      | false =>
        show ∃ y, (y = slc r 0 k n ∨ y = void ∧ k = 0) ∧ ∀ h', lift (cutOf D0 4 r 0 true (some (0, k, n))) h' = .val y h'
        unfold cutOf cutOpen
        dsimp only
        cases hble : Nat.ble (Nat.succ 0) n with
        | true => exact ⟨_, .inl rfl, fun h' => rfl⟩
        | false =>
          have hn : ¬ 1 ≤ n := fun hle => by rw [Nat.ble_eq_true_of_le hle] at hble; cases hble
          unfold cutAll
          have e1 : Nat.sub k 0 = 0 := by show k - 0 = 0; omega
          have e2 : Nat.sub n 0 = 0 := by show n - 0 = 0; omega
          rw [e1, e2]
          exact ⟨_, .inr ⟨rfl, by omega⟩, fun h' => rfl⟩
    obtain ⟨y, hy, hy2⟩ := opened
    refine ⟨y, el y hy, fun h' g => by rw [shape h' g, hy2 h'], ?_⟩
    rcases hy with rfl | ⟨rfl, _⟩ <;> exact sameV_slice _ _ _
/-- A protocol that can be read and cut. -/
def PX (h : Hp) (v : Value) (p : Prot) : Prop := ∃ vo vs vr, v = pval p.n vo vs vr ∧ View h vo p.out ∧ View h vs p.start ∧ C4 h vr p.rules.length (flat4 p.rules)
theorem PX.of {h : Hp} {v : Value} {p : Prot} (k : PV h v p) : PX h v p := by
  obtain ⟨a, b, c, e, h1, h2, h3⟩ := k
  exact ⟨a, b, c, e, h1.view, h2.view, C4.of h3⟩
theorem PX.ext {h h' : Hp} {v : Value} {p : Prot} (g : Grows h h') (k : PX h v p) : PX h' v p := by
  obtain ⟨a, b, c, e, h1, h2, h3⟩ := k
  exact ⟨a, b, c, e, h1.ext g, h2.ext g, h3.ext g⟩
theorem nodup_sub : ∀ {l m : List (List Int)}, l.Nodup → (∀ x ∈ l, x ∈ m) → l.length ≤ m.length
  | [], m, _, _ => Nat.zero_le _
  | x :: l, m, hn, hs => by
    have hc := List.nodup_cons.1 hn
    have hx : x ∈ m := hs x (by simp)
    have h1 := nodup_sub (l := l) (m := m.erase x) hc.2 (fun y hy => by
      have hne : y ≠ x := fun e => hc.1 (e ▸ hy)
      exact (List.mem_erase_of_ne hne).2 (hs y (by simp [hy])))
    rw [List.length_erase_of_mem hx] at h1
    have := List.length_pos_of_mem hx
    simp only [List.length_cons]
    omega
theorem Gr.len_uniq {R : List Q4} {c : List Int} {L L' : List (List Int)} (g : Gr R c L) (g' : Gr R c L') : L.length = L'.length :=
  Nat.le_antisymm (nodup_sub g.nodup fun x hx => g'.mem.2 (g.mem.1 hx)) (nodup_sub g'.nodup fun x hx => g.mem.2 (g'.mem.1 hx))
theorem pr_bind {α β : Type} {P : Program} : ∀ (x : Sem α) (f : α → Sem β), pureRun P (x >>= f) = match pureRun P x with | some v => pureRun P (f v) | none => none := by
  intro x f
  show pureRun P (x.bind f) = _
  induction x with
  | pure a => rfl
  | program k ih => exact ih P
  | _ => rfl
attribute [local irreducible] E idxN cellAt cellsAt storeAt callable helems hmoved lookIn findKey keyOk hentries Hp.at Hp.set Hp.lay arBits hupdated setAt CallP YieldP BoolOf IsWrap Rnd LoopP AppP CutP Int.tmod Int.tdiv Int.fdiv
section
variable [Unknowns]
attribute [local irreducible] ResP sameAt finP
theorem ownX_spec (v : Value) (p : Prot) (h : Hp) (hv : PX h v p) (ho : p.out.length < 9223372036854775808) (hs : p.start.length < 9223372036854775808) (hr : p.rules.length < 9223372036854775808) : CallP E 17 [v] h (fun r h' => PV h' r ⟨p.n, p.out.take 6, p.start.take 3, p.rules.take 16⟩ ∧ Grows h h') := by
  obtain ⟨n, out, start, rules⟩ := p
  obtain ⟨vo, vs, vr, rfl, k1, k2, k3⟩ := hv
  dsimp only at ho hs hr k1 k2 k3 ⊢
  obtain ⟨ao, co, rfl⟩ := k1.known
  obtain ⟨az, cz, rfl⟩ := k2.known
  obtain ⟨ar, rfl⟩ := k3.1
  unfold pval
  refine enter17 (by simp) ?_
  have hexb : ∃ bx : List Value, bx = [int n, .slice ao out.length co, .slice az start.length cz, .slice ar rules.length rules.length] := ⟨_, rfl⟩
  obtain ⟨bx, ebx⟩ := hexb
  have b0 : bx[0]? = some (int n) := by rw [ebx]; rfl
  have b1 : bx[1]? = some (.slice ao out.length co) := by rw [ebx]; rfl
  have b2 : bx[2]? = some (.slice az start.length cz) := by rw [ebx]; rfl
  have b3 : bx[3]? = some (.slice ar rules.length rules.length) := by rw [ebx]; rfl
  rw [← ebx]
  clear ebx
  have hat : ((h.lay (.row 25 true bx)).lay (.row 26 true [int 0, .slice none 0 0, .slice none 0 0, .slice none 0 0])).at h.next = some (.row 25 true bx) := Hp.at_lay_old _ (Hp.at_lay_self _ _)
  have g0 : Grows h ((h.lay (.row 25 true bx)).lay (.row 26 true [int 0, .slice none 0 0, .slice none 0 0, .slice none 0 0])) := (Grows.lay _ _).then_lay _
  have hlen4 : (flat4 rules).length = rules.length * 4 := flat4_len _
  conv => whnf
  repeat (refine SeqP.go ?_; conv => whnf)
  refine ⟨_, cellAt_row hat b0, ?_⟩
  conv => whnf
  refine ⟨_, cellAt_row hat b1, ?_⟩
  conv => whnf
  refine CallP.mono (few_spec _ out _ (k1.ext g0) ho 6 (by omega)) ?_
  rintro r1 H1 ⟨hb1, g1⟩
  have at1 := g1.at_ _ _ hat
  conv => whnf
  refine ⟨_, cellAt_row at1 b2, ?_⟩
  conv => whnf
  refine CallP.mono (few_spec _ start _ (k2.ext (g0.trans g1)) hs 3 (by omega)) ?_
  rintro r2 H2 ⟨hb2, g2⟩
  have g02 := (g0.trans g1).trans g2
  have at2 := g2.at_ _ _ at1
  conv => whnf
  refine ⟨_, cellAt_row at2 b3, ?_⟩
  conv => whnf
  refine ⟨_, cellAt_row at2 b3, ?_⟩
  conv => whnf
  have hcut := (k3.ext g0).2 (min rules.length 16) (Nat.min_le_left _ _)
  obtain ⟨vx, -, hx2, hx3⟩ := hcut
  have hcut' := (k3.ext g02).2 (min rules.length 16) (Nat.min_le_left _ _)
  obtain ⟨vx', hx1, hx2', -⟩ := hcut'
  have evx : vx' = vx := by
    have := (hx2' H2 (.refl _)).symm.trans (hx2 H2 (g1.trans g2))
    injection this
  subst evx
  have cutl : ∀ H', Grows ((h.lay (.row 25 true bx)).lay (.row 26 true [int 0, .slice none 0 0, .slice none 0 0, .slice none 0 0])) H' → hcutS H' 4 (.slice ar rules.length rules.length) none (some (Value.int .i64 (if (16 : Int) < (rules.length : Int) then 16 else (rules.length : Int)))) none = .val vx' H' := by
    intro H' g
    rw [show (if (16 : Int) < (rules.length : Int) then (16 : Int) else (rules.length : Int)) = ((min rules.length 16 : Nat) : Int) by split <;> omega]
    exact hx2 H' g
  refine CutP.val (v' := vx') (cutl H2 (g1.trans g2)) ?_
  conv => whnf
  refine AppP.cells (h0 := H2) BuiltC.nil (.refl _) hx1 (by omega) (by omega) ?_
  intro r3 H3 hb3 g3 _
  rw [Nat.zero_add, List.nil_append, flat4_take] at hb3
  have hl16 : (rules.take 16).length = min rules.length 16 := by rw [List.length_take, Nat.min_comm]
  have etk : rules.take (min rules.length 16) = rules.take 16 := by
    by_cases hml : 16 ≤ rules.length
    · rw [Nat.min_eq_right hml]
    · rw [Nat.min_eq_left (by omega), List.take_of_length_le (Nat.le_refl _), List.take_of_length_le (by omega)]
  rw [etk, ← hl16] at hb3
  have at3 := g3.at_ _ _ at2
  have g03 := g02.trans g3
  have ho1 : ((h.lay (.row 25 true bx)).lay (.row 26 true [int 0, .slice none 0 0, .slice none 0 0, .slice none 0 0])).at (h.next + 1) = some (.row 26 true [int 0, .slice none 0 0, .slice none 0 0, .slice none 0 0]) := at_nx2 (Hp.next_lay _ _) (Hp.at_lay_self _ _)
  have ho3 := g3.at_ _ _ (g2.at_ _ _ (g1.at_ _ _ ho1))
  have hb1' := (LV.of hb1).known
  obtain ⟨a1, rfl⟩ := hb1'
  have hb2' := (LV.of hb2).known
  obtain ⟨a2, rfl⟩ := hb2'
  have hb3' := hb3.slice
  obtain ⟨a3, rfl, -⟩ := hb3'
  conv => whnf
  refine ⟨rfl, _, storeAt_full (vs := [int n, .slice a1 (out.take 6).length (out.take 6).length, .slice a2 (start.take 3).length (start.take 3).length, .slice a3 (rules.take 16).length (rules.take 16).length]) (at_nx2 (Hp.next_lay _ _).symm ho3) rfl rfl rfl, ?_⟩
  have okl : ∀ (H' : Hp) (i : Nat) (v : Value), Grows ((h.lay (.row 25 true bx)).lay (.row 26 true [int 0, .slice none 0 0, .slice none 0 0, .slice none 0 0])) H' → bx[i]? = some v → hval H' (cellAt H' h.next i) = .val v H' := fun H' i v g e => by
    rw [cellAt_row (g.at_ _ _ hat) e]
    rfl
  have g12 := g1.trans g2
  have g13 := g12.trans g3
  conv => whnf
  refine ⟨?_, ?_⟩
  · repeat' (first | exact True.intro | (refine And.intro ?_ ?_ <;> (conv => whnf)))
    all_goals first
      | exact sameAt_val (h2 := _) rfl (sameV_ptr3 _ _)
      | exact sameAt_val (h2 := _) rfl (sameV_slice _ _ _)
      | exact sameAt_val (h2 := _) (okl _ 0 _ (Grows.refl _) b0) (sameV_int _)
      | exact sameAt_val (h2 := _) (okl _ 0 _ g1 b0) (sameV_int _)
      | exact sameAt_val (h2 := _) (okl _ 0 _ g12 b0) (sameV_int _)
      | exact sameAt_val (h2 := _) (okl _ 0 _ g13 b0) (sameV_int _)
      | exact sameAt_val (h2 := _) (okl _ 2 _ (Grows.refl _) b2) (sameV_slice _ _ _)
      | exact sameAt_val (h2 := _) (okl _ 2 _ g1 b2) (sameV_slice _ _ _)
      | exact sameAt_val (h2 := _) (okl _ 2 _ g12 b2) (sameV_slice _ _ _)
      | exact sameAt_val (h2 := _) (okl _ 2 _ g13 b2) (sameV_slice _ _ _)
      | exact sameAt_val (h2 := _) (okl _ 3 _ (Grows.refl _) b3) (sameV_slice _ _ _)
      | exact sameAt_val (h2 := _) (okl _ 3 _ g1 b3) (sameV_slice _ _ _)
      | exact sameAt_val (h2 := _) (okl _ 3 _ g12 b3) (sameV_slice _ _ _)
      | exact sameAt_val (h2 := _) (okl _ 3 _ g13 b3) (sameV_slice _ _ _)
      | exact sameAt_val (h2 := _) rfl (sameV_int _)
      | exact sameAt_val (h2 := _) (cutl _ (Grows.refl _)) hx3
      | exact sameAt_val (h2 := _) (cutl _ g1) hx3
      | exact sameAt_val (h2 := _) (cutl _ g12) hx3
      | exact sameAt_val (h2 := _) (cutl _ g13) hx3
      | trace_state
  conv => whnf
  repeat (refine SeqP.go ?_; conv => whnf)
  obtain ⟨i26, t26, ag26, sz26⟩ := ty26
  refine leave_cell (r := h.next + 1) (o := 0) (cs := [int n, .slice a1 (out.take 6).length (out.take 6).length, .slice a2 (start.take 3).length (start.take 3).length, .slice a3 (rules.take 16).length (rules.take 16).length]) ?_ t26 ag26 ?_ ?_
  · exact congrArg (fun k => ptr k 0) (Hp.next_lay _ _)
  · rw [sz26]
    refine four_cells (at_nx2 (Hp.next_lay _ _) (Hp.at_set_self _ ?_))
    rw [Hp.next_lay]
    exact Hp.lt_of_at ho3
  · have n0 : (h.lay (.row 25 true bx)).next = h.next + 1 := Hp.next_lay _ _
    have n1 : ((h.lay (.row 25 true bx)).lay (.row 26 true [int 0, .slice none 0 0, .slice none 0 0, .slice none 0 0])).next = h.next + 2 := by rw [Hp.next_lay, n0]
    have m1 := g1.next
    have m2 := g2.next
    refine ⟨⟨_, _, _, rfl, LV.of (built_set_lt (hb1.ext (g2.trans g3)) ?_), LV.of (built_set_lt (hb2.ext g3) ?_), RV.of (builtC_set_lt hb3 ?_)⟩, g03.then_set _ ?_⟩
    · rw [n0, n1]; omega
    · rw [n0]; omega
    · rw [n0]; omega
    · rw [n0]; omega
end
end Go.Proofs.Ytpiplaicnbapbaa
namespace Go.Proofs.Ytpiplaicnbapbaa
open Go.Rx Go.RowKit
def majP : Prot := ⟨4, [1, 0, 1, 0], [0, 1], [⟨0, 1, 3, 3⟩, ⟨0, 3, 0, 2⟩, ⟨1, 2, 1, 3⟩, ⟨2, 3, 3, 3⟩]⟩
/-- A protocol whose lists are new memory. -/
def PN (h h' : Hp) (r : Value) (p : Prot) : Prop := ∃ A B C x y z, r = pval p.n (slc A 0 p.out.length p.out.length) (slc B 0 p.start.length p.start.length) (slc C 0 p.rules.length p.rules.length) ∧ h'.at A = some (.row 3 x (p.out.map int)) ∧ h'.at B = some (.row 3 y (p.start.map int)) ∧ h'.at C = some (.row 96 z ((flat4 p.rules).map int)) ∧ h.next ≤ A ∧ h.next ≤ B ∧ h.next ≤ C ∧ A ≠ B
theorem arr4_eq (a b c d a' b' c' d' : Int) : pureRun Try.prog (Op.equal 96 (.agg ⟨[int a, int b, int c, int d]⟩) (.agg ⟨[int a', int b', int c', int d']⟩)) = some ((a == a') && (b == b') && (c == c') && (d == d')) := by
  have st : ∀ (k : Program → Sem Bool), pureRun Try.prog (.program k) = pureRun Try.prog (k Try.prog) := fun k => rfl
  conv => lhs; whnf
  conv => lhs; arg 2; whnf
  conv => lhs; arg 2; arg 1; rw [Std.Legacy.Range.forIn_eq_forIn_range']
  conv => lhs; arg 2; whnf
  repeat (rw [st]; conv => lhs; arg 2; whnf)
  conv => lhs; arg 2; arg 1; whnf
  conv => lhs; arg 2; arg 1; arg 1; whnf
  dsimp only
  cases h0 : (a == a')
  · rfl
  conv => lhs; arg 2; whnf
  repeat (rw [st]; conv => lhs; arg 2; whnf)
  conv => lhs; arg 2; arg 1; whnf
  conv => lhs; arg 2; arg 1; arg 1; whnf
  dsimp only
  cases h1 : (b == b')
  · rfl
  conv => lhs; arg 2; whnf
  repeat (rw [st]; conv => lhs; arg 2; whnf)
  conv => lhs; arg 2; arg 1; whnf
  conv => lhs; arg 2; arg 1; arg 1; whnf
  dsimp only
  cases h2 : (c == c')
  · rfl
  conv => lhs; arg 2; whnf
  repeat (rw [st]; conv => lhs; arg 2; whnf)
  conv => lhs; arg 2; arg 1; whnf
  conv => lhs; arg 2; arg 1; arg 1; whnf
  dsimp only
  cases h3 : (d == d')
  · rfl
  · rfl
theorem arr4_neq (x y : Operand) (a b c d : Int) : aBin E .neq 96 x y (.agg ⟨[int a, int b, int c, int d]⟩) (.agg ⟨[int a, int b, int c, int d]⟩) = some (.bool false) := by
  show binData E .neq 96 x y (.agg ⟨[int a, int b, int c, int d]⟩) (.agg ⟨[int a, int b, int c, int d]⟩) = _
  unfold binData
  have hg : pureRun E.prog (eqGuard .neq 96 x y (.agg ⟨[int a, int b, int c, int d]⟩) (.agg ⟨[int a, int b, int c, int d]⟩)) = some () := by kernel_rfl
  rw [pr_bind, hg]
  dsimp only
  have he : pureRun E.prog (Op.equal 96 (.agg ⟨[int a, int b, int c, int d]⟩) (.agg ⟨[int a, int b, int c, int d]⟩)) = some true := by
    have h4 := arr4_eq a b c d a b c d
    simp only [beq_self_eq_true, Bool.and_self] at h4
    exact h4
  have hb : Go.binOp .neq 96 (.agg ⟨[int a, int b, int c, int d]⟩) (.agg ⟨[int a, int b, int c, int d]⟩) = (do let r ← Op.equal 96 (.agg ⟨[int a, int b, int c, int d]⟩) (.agg ⟨[int a, int b, int c, int d]⟩); pure (.bool !r)) := rfl
  rw [hb, pr_bind, he]
  rfl
theorem finP_two {φ : Rx.Frame} {h : Hp} {a b : Nat} {x y : Value} {Q : Value → Hp → Prop} (ha : φ a = x) (hb : φ b = y) (ux : isUndef x = false) (uy : isUndef y = false) (q : Q (.tuple ⟨[x, y]⟩) h) : finP E [.tmp a, .tmp b] ⟨φ, h, []⟩ Q := by
  unfold finP
  dsimp only
  rw [show takeMarksφ [] h = some h from rfl]
  dsimp only
  rw [show resultsφ E φ h [.tmp a, .tmp b] = some [x, y] from by simp only [resultsφ, resultφ, ha, hb, ux, uy]]
  exact q
attribute [local irreducible] E idxN cellAt cellsAt storeAt callable helems hmoved lookIn findKey keyOk hentries Hp.at Hp.set Hp.lay arBits hupdated setAt CallP YieldP BoolOf IsWrap Rnd LoopP AppP CutP Int.tmod Int.tdiv Int.fdiv
section
variable [Unknowns]
attribute [local irreducible] ResP sameAt finP
theorem majority_spec (h : Hp) : CallP E 58 [] h (fun r h' => PN h h' r majP ∧ Grows h h') := by
  refine enter58 (by simp) ?_
  conv => whnf
  refine SeqP.go ?_
  conv => whnf
  repeat (refine SeqP.go ?_; conv => whnf)
  have a0 : ((((h.lay (.row 25 true [int 0, nilS, nilS, nilS])).lay (.row 3 true ([1, 0, 1, 0].map int))).lay (.row 3 true ([0, 1].map int))).lay (.row 96 true ((flat4 majP.rules).map int))).at h.next = some (.row 25 true [int 0, nilS, nilS, nilS]) := Hp.at_lay_old _ (Hp.at_lay_old _ (Hp.at_lay_old _ (Hp.at_lay_self _ _)))
  have a1 : ((((h.lay (.row 25 true [int 0, nilS, nilS, nilS])).lay (.row 3 true ([1, 0, 1, 0].map int))).lay (.row 3 true ([0, 1].map int))).lay (.row 96 true ((flat4 majP.rules).map int))).at (h.next + 1) = some (.row 3 true ([1, 0, 1, 0].map int)) := at_nx2 (by simp only [Hp.next_lay]) (Hp.at_lay_old _ (Hp.at_lay_old _ (Hp.at_lay_self (h.lay (.row 25 true [int 0, nilS, nilS, nilS])) _)))
  have a2 : ((((h.lay (.row 25 true [int 0, nilS, nilS, nilS])).lay (.row 3 true ([1, 0, 1, 0].map int))).lay (.row 3 true ([0, 1].map int))).lay (.row 96 true ((flat4 majP.rules).map int))).at (h.next + 2) = some (.row 3 true ([0, 1].map int)) := at_nx2 (by simp only [Hp.next_lay]) (Hp.at_lay_old _ (Hp.at_lay_self ((h.lay (.row 25 true [int 0, nilS, nilS, nilS])).lay (.row 3 true ([1, 0, 1, 0].map int))) _))
  have a3 : ((((h.lay (.row 25 true [int 0, nilS, nilS, nilS])).lay (.row 3 true ([1, 0, 1, 0].map int))).lay (.row 3 true ([0, 1].map int))).lay (.row 96 true ((flat4 majP.rules).map int))).at (h.next + 3) = some (.row 96 true ((flat4 majP.rules).map int)) := at_nx2 (by simp only [Hp.next_lay]) (Hp.at_lay_self (((h.lay (.row 25 true [int 0, nilS, nilS, nilS])).lay (.row 3 true ([1, 0, 1, 0].map int))).lay (.row 3 true ([0, 1].map int))) _)
  have g0 : Grows h ((((h.lay (.row 25 true [int 0, nilS, nilS, nilS])).lay (.row 3 true ([1, 0, 1, 0].map int))).lay (.row 3 true ([0, 1].map int))).lay (.row 96 true ((flat4 majP.rules).map int))) := (((Grows.lay _ _).then_lay _).then_lay _).then_lay _
  refine ⟨rfl, _, storeAt_full (vs := [int 4, slc _ 0 4 4, slc _ 0 2 2, slc _ 0 4 4]) a0 rfl rfl rfl, ?_⟩
  conv => whnf
  obtain ⟨i25, t25, ag25, sz25⟩ := ty25
  refine leave_cell rfl t25 ag25 (by rw [sz25]; exact all_cells (Hp.at_set_self _ (Hp.lt_of_at a0)) rfl) ⟨⟨_, _, _, true, true, true, rfl, ?_, ?_, ?_, by simp only [Hp.next_lay]; omega, by simp only [Hp.next_lay]; omega, by simp only [Hp.next_lay]; omega, by simp only [Hp.next_lay]; omega⟩, g0.then_set _ (Nat.le_refl _)⟩
  · rw [Hp.at_set_ne _ (by simp only [Hp.next_lay]; omega)]; exact at_nx2 (by simp only [Hp.next_lay]) a1
  · rw [Hp.at_set_ne _ (by simp only [Hp.next_lay]; omega)]; exact at_nx2 (by simp only [Hp.next_lay]) a2
  · rw [Hp.at_set_ne _ (by simp only [Hp.next_lay]; omega)]; exact at_nx2 (by simp only [Hp.next_lay]) a3
theorem Reached_ok (v w : Value) (p : Prot) (n : Nat) (c : List Int) (h : Hp) (hv : PV h v p) (hw : View h w c) (hP : POk p) (en : p.n = n) (hc : CrOk n c) : CallP E 30 [v, w] h (fun r h' => (∃ L, r = .tuple ⟨[int (L.length : Nat), int 0]⟩ ∧ Gr p.rules c L ∧ L.length ≤ 100000) ∧ Grows h h') := by
  obtain ⟨bx, rfl, hbl, -⟩ := hv.box
  obtain ⟨ac, cc, rfl⟩ := hw.known
  have hol := hP.outl
  have hn5 := hP.n5
  have hn1 := hP.n1
  have hst2 := hP.st2
  have hrl := hP.rl
  have hcl := hc.len
  have hC : Cnt c p.n := by rw [en]; exact hc.cnt
  have hp5 := pad5_len (c := c) (by omega)
  have g0 : Grows h (h.lay (.row 25 true bx)) := Grows.lay _ _
  have a0 : (h.lay (.row 25 true bx)).at h.next = some (.row 25 true bx) := Hp.at_lay_self _ _
  refine enter30 (by simp) ?_
  conv => whnf
  refine SeqP.go ?_
  conv => whnf
  refine SeqP.cut (α := Nat × Hp) (fun s => [(7, int 0), (6, ptr s.1 0), (2, ptr h.next 0)]) (fun s H => s.2 = H ∧ Grows h s.2 ∧ s.2.at h.next = some (.row 25 true bx) ∧ s.2.at s.1 = some (.row 107 true ((pad5 c).map int))) ?_ ?_
  · conv => whnf
    refine ⟨bx, all_cells a0 hbl, ?_⟩
    conv => whnf
    refine CallP.mono (read_spec _ _ p c _ (hv.ext g0) (hw.ext g0) (by unfold InR; omega) (by omega) (by omega) (by omega) (by omega)) ?_
    rintro r h1 ⟨⟨l, e, rfl, hl, e1, e2, e3⟩, g1⟩
    obtain ⟨rfl, rfl⟩ := e3 hP hC
    unfold cv
    conv => whnf
    refine ⟨by show ((pad5 c).map int).length = 5; rw [List.length_map, hl], _, storeAt_all (vs := (pad5 c).map int) (by rw [List.length_map, hl]; rfl) (ints_one _) (over_int (k := [0, 0, 0, 0, 0]) (by rw [hl]; rfl)), ?_⟩
    conv => whnf
    exact ⟨(h1.next, _), ⟨rfl, rfl, rfl, trivial⟩, ⟨rfl, (g0.trans g1).then_lay _, Hp.at_lay_old _ (g1.at_ _ _ a0), Hp.at_lay_self _ _⟩, rfl⟩
  rintro ⟨X, H1⟩ φ1 _ ⟨rfl, g1, b1, d1⟩
  dsimp only at g1 b1 d1 ⊢
  conv => whnf
  refine SeqP.cut (α := Unit) (fun s => [(6, ptr X 0), (2, ptr h.next 0)]) (fun s H => H1 = H) ?_ ?_
  · conv => whnf
    repeat (refine SeqP.go ?_; conv => whnf)
    refine cmpF (by omega) ?_
    conv => whnf
    repeat (refine SeqP.go ?_; conv => whnf)
    exact ⟨(), ⟨rfl, rfl, trivial⟩, rfl, rfl⟩
  rintro _ φ2 _ rfl
  have hvH := hv.ext g1
  conv => whnf
  repeat (refine SeqP.go ?_; conv => whnf)
  refine ⟨bx, all_cells b1 hbl, ?_⟩
  conv => whnf
  refine ⟨(pad5 c).map int, all_cells d1 (by rw [List.length_map, hp5]), ?_⟩
  conv => whnf
  refine CallP.mono (PReached_ok _ p n c _ hvH hP en hc) ?_
  rintro r2 H2 ⟨⟨bq, L, B, rfl, hx⟩, g2⟩
  obtain ⟨q1, q2, ⟨lv, q3, q4⟩, ⟨wv, q5, q6⟩, q7, q8, q9, q10⟩ := hx
  obtain ⟨la, lc, rfl, -⟩ := q4
  obtain ⟨wa, wc, rfl, -⟩ := q6
  match bq, q1, q3, q5 with
  | [_, _], _, q3, q5 =>
  cases q3
  cases q5
  conv => whnf
  repeat (refine SeqP.go ?_; conv => whnf)
  exact finP_two rfl rfl rfl rfl ⟨⟨L, rfl, q8, q10⟩, g1.trans g2⟩
end
end Go.Proofs.Ytpiplaicnbapbaa
namespace Go.Proofs.Ytpiplaicnbapbaa
open Go.Rx Go.RowKit
theorem storeAt_off {H : Hp} {r e : Nat} {x : Bool} {cs : List Value} {v : Value} {i : Nat} (hr : H.at r = some (.row e x cs)) (hi : i < cs.length) (h1 : oneCell v = true) : storeAt H r (offAt 0 i 1) [v] = some (H.set r (.row e x (cs.set i v))) := by
  rw [offAt_eq, Nat.zero_add, Nat.mul_one]
  exact storeAt_row hr hi h1
theorem storeAt_off4 {H : Hp} {r e : Nat} {x : Bool} {cs vs : List Value} {i n : Nat} (hr : H.at r = some (.row e x cs)) (hl : cs.length = n * 4) (hi : i < n) (hv : vs.length = 4) (h1 : vs.all oneCell = true) : ∃ cs', storeAt H r (offAt 0 i 4) vs = some (H.set r (.row e x cs')) ∧ cs'.length = n * 4 := by
  refine ⟨over cs (i * 4) vs, ?_, by rw [over_length]; exact hl⟩
  rw [offAt_eq, Nat.zero_add]
  unfold storeAt
  rw [hr]
  dsimp only
  rw [if_pos ⟨by omega, h1⟩]
attribute [local irreducible] E idxN cellAt cellsAt storeAt callable helems hmoved lookIn findKey keyOk hentries Hp.at Hp.set Hp.lay arBits hupdated setAt CallP YieldP BoolOf IsWrap Rnd LoopP AppP CutP Int.tmod Int.tdiv Int.fdiv
section
variable [Unknowns]
attribute [local irreducible] ResP sameAt
theorem own_law (ts0 : List Tr) (hy0 : TyT Try.prog 25 ts0) (t1 : Tr) (hy1 : TyT Try.prog 22 [t1]) : ∀ h vs, AllT h vs [.ag ts0, t1] → CallP E 15 vs h (fun r _ => r = .bool true) := by
  have hmax : maxLen < 9223372036854775808 := by decide
  intro h vs hvs
  match vs, hvs with
  | [a0, a1], hvs =>
  obtain ⟨k0, k1, -⟩ := hvs
  obtain ⟨P, pn, po, ps, pr, hP⟩ := prot_arg hy0
  obtain ⟨l1, rfl, hl1, -⟩ := ty_ints under22 cells3 under3 hy1
  have hP := hP h a0 k0
  have hL1 := k1.view
  obtain ⟨bp, rfl, hbp⟩ := hP.box
  have hk := hL1.known
  obtain ⟨al1, cl1, rfl⟩ := hk
  have g0 : Grows h (h.lay (.row 25 true bp)) := Grows.lay _ _
  have x0 : (h.lay (.row 25 true bp)).at h.next = some (.row 25 true bp) := Hp.at_lay_self _ _
  refine enter15 (by simp) ?_
  conv => whnf
  refine SeqP.go ?_
  conv => whnf
  refine SeqP.cut (α := Prot × List Value × Hp × Nat) (fun s => [(5, ptr s.2.2.2 0), (1, .slice al1 l1.length cl1)]) (fun s H => s.2.2.1 = H ∧ Grows h s.2.2.1 ∧ s.2.2.1.at s.2.2.2 = some (.row 26 true s.2.1) ∧ s.2.1.length = 4 ∧ PV s.2.2.1 (.agg ⟨s.2.1⟩) s.1 ∧ POk s.1) ?_ ?_
  · conv => whnf
    refine ⟨bp, all_cells x0 hbp, ?_⟩
    conv => whnf
    refine CallP.mono (tame_spec _ P _ (hP.ext g0) pn (by omega) (by omega) (by omega) 5 (by omega) (by omega)) ?_
    rintro r H2 ⟨⟨x, hx, hok, -⟩, g2⟩
    obtain ⟨v1, v2, v3, rfl, e1, e2, e3⟩ := id hx
    obtain ⟨w1, rfl⟩ := e1.known
    obtain ⟨w2, rfl⟩ := e2.known
    obtain ⟨w3, rfl, -⟩ := e3.slice
    unfold pval at hx ⊢
    conv => whnf
    refine ⟨rfl, _, storeAt_all (vs := [int x.n, .slice w1 x.out.length x.out.length, .slice w2 x.start.length x.start.length, .slice w3 x.rules.length x.rules.length]) rfl rfl rfl, ?_⟩
    conv => whnf
    exact ⟨(x, [int x.n, .slice w1 x.out.length x.out.length, .slice w2 x.start.length x.start.length, .slice w3 x.rules.length x.rules.length], _, H2.next), ⟨rfl, rfl, trivial⟩, ⟨rfl, (g0.trans g2).then_lay _, Hp.at_lay_self _ _, rfl, hx.ext (Grows.lay _ _), hok⟩, rfl⟩
  rintro ⟨x, b9, H2, X⟩ φ2 _ ⟨rfl, hg2, hX, hb9, hPV, hOk⟩
  dsimp only at hg2 hX hb9 hPV hOk ⊢
  obtain ⟨b9', eb9, -, y0, ⟨z1, y1, j1⟩, ⟨z2, y2, j2⟩, ⟨z3, y3, j3⟩, -⟩ := hPV.box
  cases eb9
  have hol := hOk.outl
  have hst2 := hOk.st2
  have hrl := hOk.rl
  have hexn : ∃ n : Nat, x.n = (n : Int) := ⟨x.n.toNat, by have := hOk.n1; omega⟩
  obtain ⟨n, en⟩ := hexn
  have hn5 : n ≤ 5 := by have := hOk.n5; omega
  have hn1 : 1 ≤ n := by have := hOk.n1; omega
  rw [en] at y0
  conv => whnf
  refine SeqP.cut (α := List Value × Hp × Nat) (fun s => [(6, ptr s.2.2 0), (5, ptr X 0), (1, .slice al1 l1.length cl1)]) (fun s H => s.2.1 = H ∧ Grows H2 s.2.1 ∧ s.2.1.at s.2.2 = some (.row 25 true s.1) ∧ s.1.length = 4 ∧ PV s.2.1 (.agg ⟨s.1⟩) x) ?_ ?_
  · conv => whnf
    refine ⟨b9, all_cells hX hb9, ?_⟩
    conv => whnf
    refine CallP.mono (given_spec _ x _ hPV (by omega) (by omega) (by omega)) ?_
    rintro r H3 ⟨hx, g3⟩
    obtain ⟨v1, v2, v3, rfl, e1, e2, e3⟩ := id hx
    obtain ⟨w1, rfl⟩ := e1.known
    obtain ⟨w2, rfl⟩ := e2.known
    obtain ⟨w3, rfl, -⟩ := e3.slice
    unfold pval at hx ⊢
    conv => whnf
    refine ⟨rfl, _, storeAt_all (vs := [int x.n, .slice w1 x.out.length x.out.length, .slice w2 x.start.length x.start.length, .slice w3 x.rules.length x.rules.length]) rfl rfl rfl, ?_⟩
    conv => whnf
    exact ⟨([int x.n, .slice w1 x.out.length x.out.length, .slice w2 x.start.length x.start.length, .slice w3 x.rules.length x.rules.length], _, H3.next), ⟨rfl, rfl, rfl, trivial⟩, ⟨rfl, g3.then_lay _, Hp.at_lay_self _ _, rfl, hx.ext (Grows.lay _ _)⟩, rfl⟩
  rintro ⟨b8, H3, Y⟩ φ3 _ ⟨rfl, hg3, hY, hb8, hPY⟩
  dsimp only at hg3 hY hb8 hPY ⊢
  have hX3 := hg3.at_ _ _ hX
  conv => whnf
  refine SeqP.cut (α := Value × List Int × Hp) (fun s => [(7, s.1), (6, ptr Y 0), (5, ptr X 0)]) (fun s H => s.2.2 = H ∧ LV s.2.2 s.1 s.2.1 ∧ CrOk n s.2.1 ∧ Grows H3 s.2.2) ?_ ?_
  · conv => whnf
    refine ⟨_, cellAt_row hX3 y0, ?_⟩
    conv => whnf
    refine CallP.mono (gathered_spec _ l1 _ (hL1.ext (hg2.trans hg3)).ints (by omega) n 9 (by omega) (by omega) (by omega) (by omega)) ?_
    rintro r4 H4 ⟨c, hc1, hc2, hc3, hc4, hc5, g4⟩
    conv => whnf
    exact ⟨(r4, c, H4), ⟨rfl, rfl, rfl, trivial⟩, ⟨rfl, LV.of hc1, ⟨hc2, gl_mem (p := fun x => 0 ≤ x) hc3 (by omega), hc4, by show c.sum ≤ 9; omega⟩, g4⟩, rfl⟩
  rintro ⟨cvv, c, H4⟩ φ4 _ ⟨rfl, hcv, hcr, hg4⟩
  dsimp only at hcv hcr hg4 ⊢
  have hcl := hcr.len
  have hC : Cnt c x.n := by rw [en]; exact hcr.cnt
  have hkk := hcv.known
  obtain ⟨acv, rfl⟩ := hkk
  have hX4 := hg4.at_ _ _ hX3
  have hY4 := hg4.at_ _ _ hY
  have hPX4 := hPV.ext (hg3.trans hg4)
  have hPY4 := hPY.ext hg4
  conv => whnf
  refine SeqP.cut (α := Value × Hp) (fun s => [(8, s.1), (7, .slice acv c.length c.length), (6, ptr Y 0), (5, ptr X 0)]) (fun s H => s.2 = H ∧ LV s.2 s.1 c ∧ Grows H4 s.2) ?_ ?_
  · conv => whnf
    refine CallP.mono (few_spec _ c _ hcv.view (by omega) 9 (by omega)) ?_
    rintro r5 H5 ⟨hb5, g5⟩
    have e3 : c.take 9 = c := List.take_of_length_le (by omega)
    rw [e3] at hb5
    conv => whnf
    exact ⟨(r5, H5), ⟨rfl, rfl, rfl, rfl, trivial⟩, ⟨rfl, LV.of hb5, g5⟩, rfl⟩
  rintro ⟨cw, H5⟩ φ5 _ ⟨rfl, hcw, hg5⟩
  dsimp only at hcw hg5 ⊢
  have hkk := hcw.known
  obtain ⟨acw, rfl⟩ := hkk
  conv => whnf
  refine SeqP.cut (α := Nat × Bool × Hp) (fun s => [(9, slc s.1 0 c.length c.length), (11, int 0), (8, .slice acw c.length c.length), (7, .slice acv c.length c.length), (6, ptr Y 0), (5, ptr X 0)]) (fun s H => s.2.2 = H ∧ Grows H5 s.2.2 ∧ H5.next ≤ s.1 ∧ s.2.2.at s.1 = some (.row 3 s.2.1 (c.map int))) ?_ ?_
  · conv => whnf
    refine ⟨b8, all_cells (hg5.at_ _ _ hY4) hb8, ?_⟩
    conv => whnf
    refine CallP.mono (Meet_spec _ _ _ x c [] _ (hPY4.ext hg5) (hcv.ext hg5).view ⟨none, 0, rfl, fun k hk => by simp at hk⟩ (by unfold InR; omega) (by omega) (by omega) (by omega) (by omega) (by simp)) ?_
    rintro r6 H6 ⟨⟨w, k, e, rfl, -, -, m3⟩, g6⟩
    obtain ⟨rfl, -, hw⟩ := m3 hOk hC
    have hw2 : Built H5 H6 3 w c := hw
    rcases hw2 with ⟨rfl, e0⟩ | ⟨r, rfl, hr, y, hat⟩
    · rw [e0] at hcl; simp at hcl; omega
    conv => whnf
    exact ⟨(r, y, H6), ⟨rfl, rfl, rfl, rfl, rfl, rfl, trivial⟩, ⟨rfl, g6, hr, hat⟩, rfl⟩
  rintro ⟨rw_, yw, H6⟩ φ6 _ ⟨rfl, hg6, hrw, hat6⟩
  dsimp only at hg6 hrw hat6 ⊢
  conv => whnf
  refine SeqP.cut (α := Hp) (fun s => [(11, int 0), (8, .slice acw c.length c.length), (7, .slice acv c.length c.length), (6, ptr Y 0), (5, ptr X 0)]) (fun s H => s = H ∧ Grows H5 s) ?_ ?_
  · conv => whnf
    repeat (refine SeqP.go ?_; conv => whnf)
    refine loop_inv (α := Nat × List Value × Hp) (fun s => [(12, int s.1), (9, slc rw_ 0 c.length c.length), (11, int 0), (8, .slice acw c.length c.length), (7, .slice acv c.length c.length), (6, ptr Y 0), (5, ptr X 0)]) (fun s => s.2.2) (fun s => s.1 ≤ c.length ∧ Grows H5 s.2.2 ∧ s.2.2.at rw_ = some (.row 3 yw s.2.1) ∧ s.2.1.length = c.length) (fun s => c.length - s.1) (0, c.map int, H6) ⟨Nat.zero_le _, hg6, hat6, List.length_map _⟩ ⟨rfl, rfl, rfl, rfl, rfl, rfl, rfl, trivial⟩ (Hp.Le.refl _) ?_
    rintro ⟨i, ws, H⟩ φ7 ⟨hi, hg, ha, hwl⟩
    dsimp only at hi hg ha hwl ⊢
    conv => whnf
    repeat (refine SeqP.go ?_; conv => whnf)
    refine cmpB (fun c1 => ?_) (fun c1 => ?_)
    rotate_left
    · conv => whnf
      repeat (refine SeqP.go ?_; conv => whnf)
      exact ⟨H, ⟨rfl, rfl, rfl, rfl, rfl, trivial⟩, ⟨rfl, hg⟩, rfl⟩
    conv => whnf
    repeat (refine SeqP.go ?_; conv => whnf)
    refine ⟨rfl, ⟨by omega, by omega⟩, ?_⟩
    conv => whnf
    refine ⟨rfl, _, storeAt_off (i := i) ha (by omega) rfl, ?_⟩
    conv => whnf
    repeat (refine SeqP.go ?_; conv => whnf)
    refine ⟨((i + 1 : Nat) : Int), wie (by omega) (by omega), ?_⟩
    conv => whnf
    exact Rnd.mk (i + 1, ws.set i (int (-7)), _) ⟨by show i + 1 ≤ _; omega, hg.then_set _ hrw, Hp.at_set_self _ (Hp.lt_of_at ha), by show (ws.set i _).length = _; rw [List.length_set]; exact hwl⟩ (by show _ - (i + 1) < _ - i; omega) ⟨rfl, rfl, rfl, rfl, rfl, rfl, rfl, trivial⟩ (Hp.Le.refl _) rfl
  clear hg6 hrw hat6
  rintro H7 φ7 _ ⟨rfl, hg7⟩
  have hg47 := hg5.trans hg7
  have hY7 := hg47.at_ _ _ hY4
  conv => whnf
  refine SeqP.cut (α := List (List Int) × Hp) (fun s => [(13, int (s.1.length : Nat)), (14, int 0), (11, int 0), (8, .slice acw c.length c.length), (7, .slice acv c.length c.length), (6, ptr Y 0), (5, ptr X 0)]) (fun s H => s.2 = H ∧ Grows H7 s.2 ∧ Gr x.rules c s.1 ∧ s.1.length ≤ 100000) ?_ ?_
  · conv => whnf
    refine ⟨b8, all_cells hY7 hb8, ?_⟩
    conv => whnf
    refine CallP.mono (Reached_ok _ _ x n c _ (hPY4.ext hg47) (hcv.ext hg47).view hOk en hcr) ?_
    rintro r8 H8 ⟨⟨L, rfl, hL, hL2⟩, g8⟩
    conv => whnf
    exact ⟨(L, H8), ⟨rfl, rfl, rfl, rfl, rfl, rfl, rfl, trivial⟩, ⟨rfl, g8, hL, hL2⟩, rfl⟩
  rintro ⟨L, H8⟩ φ8 _ ⟨rfl, hg8, hL, hL2⟩
  dsimp only at hg8 hL hL2 ⊢
  conv => whnf
  refine SeqP.cut (α := Nat × Nat × Nat × List Value × Bool × Bool × Hp) (fun s => [(15, ptr s.1 0), (13, int (L.length : Nat)), (14, int 0), (11, int 0), (8, .slice acw c.length c.length), (7, .slice acv c.length c.length), (6, ptr Y 0), (5, ptr X 0)]) (fun s H => s.2.2.2.2.2.2 = H ∧ Grows H8 s.2.2.2.2.2.2 ∧ s.2.2.2.2.2.2.at s.1 = some (.row 25 true s.2.2.2.1) ∧ s.2.2.2.1[1]? = some (slc s.2.1 0 4 4) ∧ s.2.2.2.1[3]? = some (slc s.2.2.1 0 4 4) ∧ H8.next ≤ s.2.1 ∧ H8.next ≤ s.2.2.1 ∧ s.2.2.2.2.2.2.at s.2.1 = some (.row 3 s.2.2.2.2.1 ([1, 0, 1, 0].map int)) ∧ s.2.2.2.2.2.2.at s.2.2.1 = some (.row 96 s.2.2.2.2.2.1 ((flat4 majP.rules).map int))) ?_ ?_
  · conv => whnf
    refine CallP.mono (majority_spec _) ?_
    rintro r9 H9 ⟨⟨A, B, C, y1', y2', y3', rfl, q1, q2, q3, q4, q5, q6, q7⟩, g9⟩
    unfold pval
    conv => whnf
    refine ⟨rfl, _, storeAt_all (vs := [int 4, slc A 0 4 4, slc B 0 2 2, slc C 0 4 4]) rfl rfl rfl, ?_⟩
    conv => whnf
    exact ⟨(H9.next, A, C, [int 4, slc A 0 4 4, slc B 0 2 2, slc C 0 4 4], y1', y3', _), ⟨rfl, rfl, rfl, rfl, rfl, rfl, rfl, rfl, trivial⟩, ⟨rfl, g9.then_lay _, Hp.at_lay_self _ _, rfl, rfl, q4, q6, Hp.at_lay_old _ q1, Hp.at_lay_old _ q3⟩, rfl⟩
  rintro ⟨Z, A, C, bz, yA, yC, H9⟩ φ9 _ ⟨rfl, hg9, hZ, hz1, hz3, hA1, hC1, hA, hC2⟩
  dsimp only at hg9 hZ hz1 hz3 hA1 hC1 hA hC2 ⊢
  conv => whnf
  refine SeqP.cut (α := Unit) (fun s => [(16, slc A 0 4 4), (17, slc C 0 4 4), (13, int (L.length : Nat)), (14, int 0), (11, int 0), (8, .slice acw c.length c.length), (7, .slice acv c.length c.length), (6, ptr Y 0), (5, ptr X 0)]) (fun s H => H9 = H) ?_ ?_
  · conv => whnf
    refine ⟨_, cellAt_row hZ hz1, ?_⟩
    conv => whnf
    refine ⟨_, cellAt_row hZ hz3, ?_⟩
    conv => whnf
    exact ⟨(), ⟨rfl, rfl, rfl, rfl, rfl, rfl, rfl, rfl, rfl, trivial⟩, rfl, rfl⟩
  rintro _ φ10 _ rfl
  have hAC : A ≠ C := fun e => by
    subst e
    rw [hA] at hC2
    cases hC2
  conv => whnf
  refine SeqP.cut (α := Hp) (fun s => [(17, slc C 0 4 4), (13, int (L.length : Nat)), (14, int 0), (11, int 0), (8, .slice acw c.length c.length), (7, .slice acv c.length c.length), (6, ptr Y 0), (5, ptr X 0)]) (fun s H => s = H ∧ Grows H8 s ∧ s.at C = some (.row 96 yC ((flat4 majP.rules).map int))) ?_ ?_
  · conv => whnf
    repeat (refine SeqP.go ?_; conv => whnf)
    refine loop_inv (α := Nat × List Value × Hp) (fun s => [(18, int s.1), (16, slc A 0 4 4), (17, slc C 0 4 4), (13, int (L.length : Nat)), (14, int 0), (11, int 0), (8, .slice acw c.length c.length), (7, .slice acv c.length c.length), (6, ptr Y 0), (5, ptr X 0)]) (fun s => s.2.2) (fun s => s.1 ≤ 4 ∧ Grows H8 s.2.2 ∧ s.2.2.at A = some (.row 3 yA s.2.1) ∧ s.2.1.length = 4 ∧ s.2.2.at C = some (.row 96 yC ((flat4 majP.rules).map int))) (fun s => 4 - s.1) (0, [1, 0, 1, 0].map int, H9) ⟨Nat.zero_le _, hg9, hA, rfl, hC2⟩ ⟨rfl, rfl, rfl, rfl, rfl, rfl, rfl, rfl, rfl, rfl, trivial⟩ (Hp.Le.refl _) ?_
    rintro ⟨i, ws, H⟩ φ11 ⟨hi, hg, ha, hwl, hcc⟩
    dsimp only at hi hg ha hwl hcc ⊢
    conv => whnf
    repeat (refine SeqP.go ?_; conv => whnf)
    refine cmpB (fun c1 => ?_) (fun c1 => ?_)
    rotate_left
    · conv => whnf
      repeat (refine SeqP.go ?_; conv => whnf)
      exact ⟨H, ⟨rfl, rfl, rfl, rfl, rfl, rfl, rfl, rfl, trivial⟩, ⟨rfl, hg, hcc⟩, rfl⟩
    conv => whnf
    repeat (refine SeqP.go ?_; conv => whnf)
    refine ⟨rfl, ⟨by omega, by omega⟩, ?_⟩
    conv => whnf
    refine ⟨rfl, _, storeAt_off (i := i) ha (by omega) rfl, ?_⟩
    conv => whnf
    repeat (refine SeqP.go ?_; conv => whnf)
    refine ⟨((i + 1 : Nat) : Int), wie (by omega) (by omega), ?_⟩
    conv => whnf
    exact Rnd.mk (i + 1, ws.set i (int 9), _) ⟨by show i + 1 ≤ _; omega, hg.then_set _ hA1, Hp.at_set_self _ (Hp.lt_of_at ha), by show (ws.set i _).length = _; rw [List.length_set]; exact hwl, by show (Hp.set _ _ _).at C = _; rw [Hp.at_set_ne _ (fun e => hAC e.symm)]; exact hcc⟩ (by show _ - (i + 1) < _ - i; omega) ⟨rfl, rfl, rfl, rfl, rfl, rfl, rfl, rfl, rfl, rfl, trivial⟩ (Hp.Le.refl _) rfl
  clear hg9 hZ hA hC2
  rintro H10 φ12 _ ⟨rfl, hg10, hC10⟩
  conv => whnf
  refine SeqP.cut (α := Hp) (fun s => [(13, int (L.length : Nat)), (14, int 0), (11, int 0), (8, .slice acw c.length c.length), (7, .slice acv c.length c.length), (6, ptr Y 0), (5, ptr X 0)]) (fun s H => s = H ∧ Grows H8 s) ?_ ?_
  · conv => whnf
    repeat (refine SeqP.go ?_; conv => whnf)
    refine loop_inv (α := Nat × List Value × Hp) (fun s => [(19, int s.1), (17, slc C 0 4 4), (13, int (L.length : Nat)), (14, int 0), (11, int 0), (8, .slice acw c.length c.length), (7, .slice acv c.length c.length), (6, ptr Y 0), (5, ptr X 0)]) (fun s => s.2.2) (fun s => s.1 ≤ 4 ∧ Grows H8 s.2.2 ∧ s.2.2.at C = some (.row 96 yC s.2.1) ∧ s.2.1.length = 4 * 4) (fun s => 4 - s.1) (0, (flat4 majP.rules).map int, H10) ⟨Nat.zero_le _, hg10, hC10, rfl⟩ ⟨rfl, rfl, rfl, rfl, rfl, rfl, rfl, rfl, rfl, trivial⟩ (Hp.Le.refl _) ?_
    rintro ⟨i, ws, H⟩ φ11 ⟨hi, hg, ha, hwl⟩
    dsimp only at hi hg ha hwl ⊢
    conv => whnf
    repeat (refine SeqP.go ?_; conv => whnf)
    refine cmpB (fun c1 => ?_) (fun c1 => ?_)
    rotate_left
    · conv => whnf
      repeat (refine SeqP.go ?_; conv => whnf)
      exact ⟨H, ⟨rfl, rfl, rfl, rfl, rfl, rfl, rfl, trivial⟩, ⟨rfl, hg⟩, rfl⟩
    have hst := storeAt_off4 (i := i) (vs := [int (-7), int (-7), int (-7), int (-7)]) ha hwl (by omega) rfl rfl
    obtain ⟨ws', hst1', hst2'⟩ := hst
    conv => whnf
    repeat (refine SeqP.go ?_; conv => whnf)
    refine ⟨rfl, ⟨by omega, by omega⟩, ?_⟩
    conv => whnf
    refine ⟨rfl, _, hst1', ?_⟩
    conv => whnf
    repeat (refine SeqP.go ?_; conv => whnf)
    refine ⟨((i + 1 : Nat) : Int), wie (by omega) (by omega), ?_⟩
    conv => whnf
    exact Rnd.mk (i + 1, ws', _) ⟨by show i + 1 ≤ _; omega, hg.then_set _ hC1, Hp.at_set_self _ (Hp.lt_of_at ha), hst2'⟩ (by show _ - (i + 1) < _ - i; omega) ⟨rfl, rfl, rfl, rfl, rfl, rfl, rfl, rfl, rfl, trivial⟩ (Hp.Le.refl _) rfl
  clear hg10 hC10
  rintro H11 φ13 _ ⟨rfl, hg11⟩
  have hg411 := (hg47.trans hg8).trans hg11
  have hg511 := (hg7.trans hg8).trans hg11
  have hX11 := hg411.at_ _ _ hX4
  have hY11 := hg411.at_ _ _ hY4
  have hPX11 := hPX4.ext hg411
  have hPY11 := hPY4.ext hg411
  have eown : (⟨x.n, x.out.take 6, x.start.take 3, x.rules.take 16⟩ : Prot) = x := by
    rw [List.take_of_length_le (by omega), List.take_of_length_le (by omega), List.take_of_length_le (by omega)]
  conv => whnf
  refine SeqP.cut (α := List Value × Hp × Nat) (fun s => [(20, ptr s.2.2 0), (13, int (L.length : Nat)), (14, int 0), (11, int 0), (8, .slice acw c.length c.length), (7, .slice acv c.length c.length), (5, ptr X 0)]) (fun s H => s.2.1 = H ∧ Grows H11 s.2.1 ∧ s.2.1.at s.2.2 = some (.row 26 true s.1) ∧ PV s.2.1 (.agg ⟨s.1⟩) x) ?_ ?_
  · conv => whnf
    refine ⟨b8, all_cells hY11 hb8, ?_⟩
    conv => whnf
    refine CallP.mono (ownX_spec _ x _ (PX.of hPY11) (by omega) (by omega) (by omega)) ?_
    rintro r12 H12 ⟨hx, g12⟩
    rw [eown] at hx
    obtain ⟨v1, v2, v3, rfl, e1, e2, e3⟩ := id hx
    obtain ⟨w1, rfl⟩ := e1.known
    obtain ⟨w2, rfl⟩ := e2.known
    obtain ⟨w3, rfl, -⟩ := e3.slice
    unfold pval at hx ⊢
    conv => whnf
    refine ⟨rfl, _, storeAt_all (vs := [int x.n, .slice w1 x.out.length x.out.length, .slice w2 x.start.length x.start.length, .slice w3 x.rules.length x.rules.length]) rfl rfl rfl, ?_⟩
    conv => whnf
    exact ⟨([int x.n, .slice w1 x.out.length x.out.length, .slice w2 x.start.length x.start.length, .slice w3 x.rules.length x.rules.length], _, H12.next), ⟨rfl, rfl, rfl, rfl, rfl, rfl, rfl, trivial⟩, ⟨rfl, g12.then_lay _, Hp.at_lay_self _ _, hx.ext (Grows.lay _ _)⟩, rfl⟩
  rintro ⟨b7, H12, V⟩ φ14 _ ⟨rfl, hg12, hV, hPV12⟩
  dsimp only at hg12 hV hPV12 ⊢
  obtain ⟨b7', eb7, hb7, u0, ⟨o1, u1, p1⟩, ⟨o2, u2, p2⟩, ⟨o3, u3, p3⟩, -⟩ := hPV12.box
  cases eb7
  have hX12 := hg12.at_ _ _ hX11
  have hPX12 := hPX11.ext hg12
  have hg412 := hg411.trans hg12
  have hg512 := hg511.trans hg12
  conv => whnf
  refine SeqP.cut (α := Hp) (fun s => [(20, ptr V 0), (5, ptr X 0)]) (fun s H => s = H ∧ Grows H12 s) ?_ ?_
  · conv => whnf
    repeat (refine SeqP.go ?_; conv => whnf)
    refine cmpF (by omega) ?_
    conv => whnf
    refine cmpF (by omega) ?_
    conv => whnf
    refine ⟨b9, all_cells hX12 hb9, ?_⟩
    conv => whnf
    refine CallP.mono (RReached_ok _ _ x n c _ hPX12 (hcw.ext hg512).view hOk en hcr) ?_
    rintro r13 H13 ⟨⟨bx, L2, N2, rfl, hcrx⟩, g13⟩
    have hst := hcrx.stored
    obtain ⟨u0', m0, k0', u1', m1, k1', u2', m2, k2', ebx⟩ := hst
    subst ebx
    obtain ⟨-, -, ⟨lv, q3, q4⟩, -, -, hgr2, -, -, -⟩ := hcrx
    cases q3
    obtain ⟨la, lc, elv, -⟩ := q4
    cases elv
    have hlen := hL.len_uniq hgr2
    conv => whnf
    refine cmpF (by omega) ?_
    conv => whnf
    refine CallP.mono (ints_same _ _ c _ (hcv.ext (hg412.trans g13)).ints (hcw.ext (hg512.trans g13)).ints (by omega)) ?_
    rintro r14 _ ⟨rfl, rfl⟩
    conv => whnf
    refine ⟨_, cellAt_row (g13.at_ _ _ hV) u1, ?_⟩
    conv => whnf
    refine ⟨_, cellAt_row (g13.at_ _ _ hX12) y1, ?_⟩
    conv => whnf
    refine CallP.mono (ints_same _ _ x.out _ (p1.ext g13).ints (j1.ext (((hg3.trans hg4).trans hg412).trans g13)).ints (by omega)) ?_
    rintro r15 _ ⟨rfl, rfl⟩
    conv => whnf
    refine ⟨_, cellAt_row (g13.at_ _ _ hV) u2, ?_⟩
    conv => whnf
    refine ⟨_, cellAt_row (g13.at_ _ _ hX12) y2, ?_⟩
    conv => whnf
    refine CallP.mono (ints_same _ _ x.start _ (p2.ext g13).ints (j2.ext (((hg3.trans hg4).trans hg412).trans g13)).ints (by omega)) ?_
    rintro r16 _ ⟨rfl, rfl⟩
    conv => whnf
    refine ⟨_, cellAt_row (g13.at_ _ _ hV) u3, ?_⟩
    conv => whnf
    refine ⟨_, cellAt_row (g13.at_ _ _ hX12) y3, ?_⟩
    conv => whnf
    refine cmpF (by omega) ?_
    conv => whnf
    repeat (refine SeqP.go ?_; conv => whnf)
    exact ⟨_, ⟨rfl, rfl, trivial⟩, ⟨rfl, g13⟩, rfl⟩
  rintro H13 φ15 _ ⟨rfl, hg13⟩
  have hX13 := hg13.at_ _ _ hX12
  have hV13 := hg13.at_ _ _ hV
  have p3' := p3.ext hg13
  have j3' := j3.ext (((hg3.trans hg4).trans hg412).trans hg13)
  have hcA := RV.cells p3'
  have hcB := RV.cells j3'
  obtain ⟨aA, eA, hcA⟩ := hcA
  cases eA
  obtain ⟨aB, eB, hcB⟩ := hcB
  cases eB
  conv => whnf
  refine SeqP.cut (α := Unit) (fun _ => []) (fun _ H => True) ?_ ?_
  rotate_left
  · rintro _ φ16 H14 _
    conv => whnf
    repeat (refine SeqP.go ?_; conv => whnf)
    refine memo27 ?_
    conv => whnf
    repeat (refine SeqP.go ?_; conv => whnf)
    rfl
  conv => whnf
  repeat (refine SeqP.go ?_; conv => whnf)
  refine loop_inv (α := Nat) (fun s => [(21, int s), (20, ptr V 0), (5, ptr X 0)]) (fun _ => H13) (fun s => s ≤ x.rules.length) (fun s => x.rules.length - s) 0 (Nat.zero_le _) ⟨rfl, rfl, rfl, trivial⟩ (Hp.Le.refl _) ?_
  rintro i φ16 hi
  conv => whnf
  repeat (refine SeqP.go ?_; conv => whnf)
  refine ⟨_, cellAt_row hX13 y3, ?_⟩
  conv => whnf
  refine cmpB (fun c1 => ?_) (fun c1 => ?_)
  rotate_left
  · conv => whnf
    repeat (refine SeqP.go ?_; conv => whnf)
    exact ⟨(), trivial, trivial, rfl⟩
  have hil : i < x.rules.length := by omega
  have hkA := hcA i hil
  have hkB := hcB i hil
  clear hcA hcB
  obtain ⟨rA, ear, hkA⟩ := hkA
  subst ear
  obtain ⟨rB, ear, hkB⟩ := hkB
  subst ear
  conv => whnf
  repeat (refine SeqP.go ?_; conv => whnf)
  refine ⟨_, cellAt_row hV13 u3, ?_⟩
  conv => whnf
  refine ⟨rfl, ⟨by omega, by omega⟩, ?_⟩
  conv => whnf
  refine ⟨[int x.rules[i].a, int x.rules[i].b, int x.rules[i].c, int x.rules[i].d], by rw [offAt_eq]; simpa using hkA, ?_⟩
  conv => whnf
  refine ⟨_, cellAt_row hX13 y3, ?_⟩
  conv => whnf
  refine ⟨rfl, ⟨by omega, by omega⟩, ?_⟩
  conv => whnf
  refine ⟨[int x.rules[i].a, int x.rules[i].b, int x.rules[i].c, int x.rules[i].d], by rw [offAt_eq]; simpa using hkB, ?_⟩
  conv => whnf
  refine resP_val (v := .bool false) (h := H13) ?_ ?_
  · show hval _ (aBin E .neq 96 _ _ (.agg ⟨[int x.rules[i].a, int x.rules[i].b, int x.rules[i].c, int x.rules[i].d]⟩) (.agg ⟨[int x.rules[i].a, int x.rules[i].b, int x.rules[i].c, int x.rules[i].d]⟩)) = _
    rw [arr4_neq]
    rfl
  conv => whnf
  repeat (refine SeqP.go ?_; conv => whnf)
  refine ⟨((i + 1 : Nat) : Int), wie (by omega) (by omega), ?_⟩
  conv => whnf
  exact Rnd.mk (i + 1) hil (by show _ - (i + 1) < _ - i; omega) ⟨rfl, rfl, rfl, trivial⟩ (Hp.Le.refl _) rfl
end
end Go.Proofs.Ytpiplaicnbapbaa
