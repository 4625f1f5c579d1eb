/- Contracts of the functions that SOwn comes to. -/
import Derived.Test.YticmdpcahpimhaaSFill2
set_option maxRecDepth 100000
set_option maxHeartbeats 1000000
set_option linter.unusedVariables false
set_option linter.unusedSectionVars false
set_option linter.unusedSimpArgs false
namespace Go.Proofs.Yticmdpcahpimhaa
open Go.Rx Go.RowKit
def zT : Tab := fun _ _ => (0, 0)
def fnV (gf : FuncId) (caps : List Value) : Value := .func (.func gf) ⟨[]⟩ ⟨caps⟩
/-- What lies in memory while a table is filled. -/
structure Mem (h H : Hp) (F : Value) (T : Tab) (ms : List Nat) : Prop where
  at3 : H.at h.next = some (.row 118 true [F])
  at4 : H.at (h.next + 1) = some (.row 88 true (times [int 0] 338))
  at5 : H.at (h.next + 2) = some (.row 88 true (tabV T))
  nx : h.next + 3 ≤ H.next
  mks : Marks (h.next + 3) ms H
  gr : Grows h H
theorem Mem.ext {h H H' : Hp} {F : Value} {T : Tab} {ms : List Nat} (m : Mem h H F T ms) (g : Grows H H') : Mem h H' F T ms :=
  ⟨g.at_ _ _ m.at3, g.at_ _ _ m.at4, g.at_ _ _ m.at5, Nat.le_trans m.nx g.next, m.mks.ext g, m.gr.trans g⟩
theorem Mem.mark {h H : Hp} {F : Value} {T : Tab} {ms : List Nat} (m : Mem h H F T ms) {d : Nat} (hd : H.at d = some .noDefers) (h1 : h.next + 3 ≤ d) (h2 : d ∉ ms) : Mem h H F T (d :: ms) :=
  { m with mks := ⟨List.nodup_cons.2 ⟨h2, m.mks.1⟩, fun e he => by
      rcases List.mem_cons.1 he with rfl | he
      · exact ⟨h1, hd⟩
      · exact m.mks.2 e he⟩ }
theorem Mem.fresh {h H : Hp} {F : Value} {T : Tab} {ms : List Nat} (m : Mem h H F T ms) : H.next + 3 ∉ ms := fun hd => by
  have := Hp.lt_of_at (m.mks.2 _ hd).2
  omega
theorem Mem.tab {h H : Hp} {F : Value} {T : Tab} {ms : List Nat} (m : Mem h H F T ms) (T' : Tab) : Mem h (H.set (h.next + 2) (.row 88 true (tabV T'))) F T' ms := by
  have hn := m.nx
  refine ⟨?_, ?_, ?_, ?_, ⟨m.mks.1, fun d hd => ⟨(m.mks.2 d hd).1, ?_⟩⟩, m.gr.then_set _ (by omega)⟩
  · rw [Hp.at_set_ne _ (by omega)]; exact m.at3
  · rw [Hp.at_set_ne _ (by omega)]; exact m.at4
  · exact Hp.at_set_self _ (by omega)
  · exact m.nx
  · have := (m.mks.2 d hd).1
    rw [Hp.at_set_ne _ (by omega)]; exact (m.mks.2 d hd).2
theorem Mem.start (h : Hp) (F : Value) : Mem h (((h.lay (.row 118 true [F])).lay (.row 88 true (times [int 0] 338))).lay (.row 88 true (times [int 0] 338))) F zT [] :=
  ⟨Hp.at_lay_old _ (Hp.at_lay_old _ (Hp.at_lay_self _ _)), Hp.at_lay_old _ (Hp.at_lay_self _ _), by rw [show tabV zT = times [int 0] 338 from tabV_zero]; exact Hp.at_lay_self _ _, Nat.le_refl _, Marks.nil _ _, ((Grows.lay _ _).then_lay _).then_lay _⟩
theorem over_app : ∀ (pre cs vs : List Value), vs.length = cs.length → over (pre ++ cs) pre.length vs = pre ++ vs
  | pre, [], [], _ => rfl
  | pre, c :: cs, v :: vs, h => by
    show over ((pre ++ c :: cs).set pre.length v) (pre.length + 1) vs = _
    have e : (pre ++ c :: cs).set pre.length v = (pre ++ [v]) ++ cs := by
      rw [List.set_append_right _ _ (Nat.le_refl _), Nat.sub_self, List.set_cons_zero, List.append_assoc]; rfl
    have := over_app (pre ++ [v]) cs vs (by simpa using h)
    rw [e]
    rw [List.length_append, List.length_singleton] at this
    rw [this, List.append_assoc]
    rfl
theorem over_full {cs vs : List Value} (h : vs.length = cs.length) : over cs 0 vs = vs := over_app [] cs vs h
theorem tab_cells {h : Hp} {r : Nat} {T : Tab} (hr : h.at r = some (.row 88 true (tabV T))) : cellsAt h r 0 338 = some (tabV T) := by
  rw [cellsAt_row hr (by rw [tabV_len]; exact Nat.le_refl _), List.drop_zero, List.take_of_length_le (by rw [tabV_len]; exact Nat.le_refl _)]
theorem ty88 : ∃ i, E.ty 88 = some i ∧ i.agg = true ∧ i.size = 338 := by
  have hs : (tiOf Try.prog 88).isSome = true := by kernel_rfl
  refine ⟨(tiOf Try.prog 88).get hs, ty_get (by kernel_rfl) (Option.some_get hs).symm, ?_, ?_⟩
  · kernel_rfl
  · kernel_rfl
theorem times_len : (times [int 0] 338).length = 338 := by rw [← tabV_zero, tabV_len]
theorem two_cells {H : Hp} {r e : Nat} {x : Bool} {p q : Int} (hr : H.at r = some (.row e x [int p, int q])) : cellsAt H r 0 2 = some [int p, int q] := by
  rw [cellsAt_row hr (by simp)]; rfl
theorem at_nx {h : Hp} {r r' : Nat} {o : Rx.Obj} (e : r = r') (k : h.at r = some o) : h.at r' = some o := e ▸ k
theorem tab_cost' (T : Tab) {a b o : Nat} (ha : a < 13) (hb : b < 13) (e : o = b * 2 + a * 26) : (tabV T)[o]? = some (int (T a b).1) := by rw [e]; exact tab_cost T ha hb
theorem tab_store {h : Hp} {r a b o : Nat} {T : Tab} (x : Int × Int) (hr : h.at r = some (.row 88 true (tabV T))) (ha : a < 13) (hb : b < 13) (e : o = b * 2 + a * 26) : storeAt h r o [int x.1, int x.2] = some (h.set r (.row 88 true (tabV (updT T a b x)))) := by
  subst e
  unfold storeAt
  rw [hr]
  dsimp only
  rw [if_pos ⟨by rw [tabV_len]; show _ + 2 ≤ 338; omega, rfl⟩, tab_over T ha hb]
/-- What a range over the gates keeps. -/
structure Kept (h H1 H : Hp) (F : Value) (T : Tab) (ms : List Nat) (i len : Nat) (x : Int × Int) : Prop where
  gr : Grows H1 H
  mark : H.at (H1.next + 3) = some .noDefers
  part : H.at H1.next = some (.row 115 true [int i, int (i + len : Nat)])
  gate : H.at (H1.next + 2) = some (.row 115 true [int i, int (i + len : Nat)])
  best : H.at (H1.next + 1) = some (.row 85 true [int x.1, int x.2])
theorem Kept.keep {h H1 H H2 : Hp} {F : Value} {T : Tab} {ms : List Nat} {i len : Nat} {x : Int × Int} (k : Kept h H1 H F T ms i len x) {l : Nat} (hl : H1.next + 4 ≤ l) (g : Keeps l H H2) : Kept h H1 H2 F T ms i len x :=
  ⟨g.grows k.gr (by omega), g.at_ _ _ (by omega) k.mark, g.at_ _ _ (by omega) k.part, g.at_ _ _ (by omega) k.gate, g.at_ _ _ (by omega) k.best⟩
theorem Kept.ext {h H1 H H2 : Hp} {F : Value} {T : Tab} {ms : List Nat} {i len : Nat} {x : Int × Int} (k : Kept h H1 H F T ms i len x) (g : Grows H H2) : Kept h H1 H2 F T ms i len x :=
  ⟨k.gr.trans g, g.at_ _ _ k.mark, g.at_ _ _ k.part, g.at_ _ _ k.gate, g.at_ _ _ k.best⟩
theorem Kept.upd {h H1 H : Hp} {F : Value} {T : Tab} {ms : List Nat} {i len : Nat} {x : Int × Int} (k : Kept h H1 H F T ms i len x) (y : Int × Int) {r : Nat} (hr : r = H1.next + 1) : Kept h H1 (H.set r (.row 85 true [int y.1, int y.2])) F T ms i len y := by
  subst hr
  exact ⟨k.gr.then_set _ (by omega), by rw [Hp.at_set_ne _ (by omega)]; exact k.mark, by rw [Hp.at_set_ne _ (by omega)]; exact k.part, by rw [Hp.at_set_ne _ (by omega)]; exact k.gate, Hp.at_set_self _ (Hp.lt_of_at k.best)⟩
theorem Kept.then_set {h H1 H : Hp} {F : Value} {T : Tab} {ms : List Nat} {i len : Nat} {x : Int × Int} (k : Kept h H1 H F T ms i len x) {r : Nat} (o : Rx.Obj) (hr : H1.next + 4 ≤ r) : Kept h H1 (H.set r o) F T ms i len x :=
  ⟨k.gr.then_set _ (by omega), by rw [Hp.at_set_ne _ (by omega)]; exact k.mark, by rw [Hp.at_set_ne _ (by omega)]; exact k.part, by rw [Hp.at_set_ne _ (by omega)]; exact k.gate, by rw [Hp.at_set_ne _ (by omega)]; exact k.best⟩
attribute [local irreducible] E idxN cellAt cellsAt storeAt callable helems hmoved lookIn findKey keyOk hentries Hp.at Hp.set Hp.lay arBits hupdated setAt CallP YieldP BoolOf IsWrap Rnd LoopP AppP CutP Int.tmod Int.tdiv Int.fdiv
section
variable [Unknowns]
attribute [local irreducible] SeqP ResP sameAt finP tabV endQ
theorem filled_spec (n : Nat) (hn : n ≤ 12) (gf : FuncId) (caps : List Value) (C : CostF) (h : Hp) (hC : CostOk h gf caps C n) : CallP E 80 [int n, fnV gf caps] h (fun r h' => ∃ T, IsTab C n T ∧ r = .agg ⟨tabV T⟩ ∧ Grows h h') := by
  refine enter80 (by simp) ?_
  conv => whnf
  refine SeqP.go ?_
  conv => whnf
  refine SeqP.go ?_
  conv => whnf
  refine SeqP.cutM (α := Tab × List Nat) (fun _ => [(4, ptr (h.next + 1) 0), (5, ptr (h.next + 2) 0)]) (fun s => s.2) (fun s H => Mem h H (fnV gf caps) s.1 s.2 ∧ IsTab C n s.1) ?_ ?_
  · conv => whnf
    repeat (refine SeqP.go ?_; conv => whnf)
    refine loop_invM (α := Nat × Tab × Hp × List Nat) (fun s => [(6, int s.1), (0, int n), (3, ptr h.next 0), (4, ptr (h.next + 1) 0), (5, ptr (h.next + 2) 0)]) (fun s => s.2.2.1) (fun s => s.2.2.2) (fun s => 1 ≤ s.1 ∧ s.1 ≤ n + 1 ∧ Mem h s.2.2.1 (fnV gf caps) s.2.1 s.2.2.2 ∧ Filled C n s.2.1 s.1 0) (fun s => n + 1 - s.1) (1, zT, _, []) ⟨Nat.le_refl _, by omega, Mem.start h _, ⟨fun a b h1 h2 h3 => by omega, fun a => rfl⟩⟩ ⟨rfl, rfl, rfl, congrArg (fun k => ptr k 0) (Hp.next_lay h _), congrArg (fun k => ptr k 0) ((Hp.next_lay _ _).trans (congrArg (· + 1) (Hp.next_lay h _))), trivial⟩ (Hp.Le.refl _) rfl ?_
    rintro ⟨len, T, H, ms⟩ φ ⟨hl1, hl2, hm, hf⟩
    dsimp only at hl1 hl2 hm hf ⊢
    conv => whnf
    repeat (refine SeqP.go ?_; conv => whnf)
    refine cmpB (fun hb => ?_) (fun hb => ?_)
    rotate_left
    · conv => whnf
      have hln : len = n + 1 := by omega
      subst hln
      exact ⟨(T, ms), ⟨rfl, rfl, trivial⟩, ⟨hm, fun a b h1 h2 => hf.good a b h1 h2 (.inl (by omega)), hf.diag⟩, rfl⟩
    conv => whnf
    refine SeqP.cutM (α := Tab × List Nat × Hp) (fun s => [(6, int len), (0, int n), (3, ptr h.next 0), (4, ptr (h.next + 1) 0), (5, ptr (h.next + 2) 0)]) (fun s => s.2.1) (fun s H => H = s.2.2 ∧ Mem h H (fnV gf caps) s.1 s.2.1 ∧ Filled C n s.1 (len + 1) 0) ?_ ?_
    · conv => whnf
      repeat (refine SeqP.go ?_; conv => whnf)
      refine ⟨((n - len : Nat) : Int), wie (by omega) (by omega), ?_⟩
      conv => whnf
      refine ⟨((n - len + 1 : Nat) : Int), wie (by omega) (by omega), ?_⟩
      conv => whnf
      refine loop_invM (α := Nat × Tab × Hp × List Nat) (fun s => [(21, int s.1), (20, int (n - len + 1 : Nat)), (6, int len), (0, int n), (3, ptr h.next 0), (4, ptr (h.next + 1) 0), (5, ptr (h.next + 2) 0)]) (fun s => s.2.2.1) (fun s => s.2.2.2) (fun s => s.1 ≤ n - len + 1 ∧ Mem h s.2.2.1 (fnV gf caps) s.2.1 s.2.2.2 ∧ Filled C n s.2.1 len s.1) (fun s => n - len + 1 - s.1) (0, T, H, ms) ⟨Nat.zero_le _, hm, hf⟩ ⟨rfl, rfl, rfl, rfl, rfl, rfl, rfl, trivial⟩ (Hp.Le.refl _) rfl ?_
      clear hm hf
      rintro ⟨i, T, H, ms⟩ φ ⟨hi, hm, hf⟩
      dsimp only at hi hm hf ⊢
      conv => whnf
      repeat (refine SeqP.go ?_; conv => whnf)
      refine cmpB (fun hb1 => ?_) (fun hb1 => ?_)
      rotate_left
      · conv => whnf
        repeat (refine SeqP.go ?_; conv => whnf)
        have hin : i = n - len + 1 := by omega
        exact ⟨(T, ms, H), ⟨rfl, rfl, rfl, rfl, rfl, trivial⟩, ⟨rfl, hm, hf.next (by omega)⟩, rfl⟩
      have hin : i + len ≤ n := by omega
      conv => whnf
      refine SeqP.go ?_
      conv => whnf
      refine SeqP.cutM (α := Tab × List Nat × Hp) (fun s => [(21, int i), (20, int (n - len + 1 : Nat)), (6, int len), (0, int n), (3, ptr h.next 0), (4, ptr (h.next + 1) 0), (5, ptr (h.next + 2) 0)]) (fun s => s.2.1) (fun s H => H = s.2.2 ∧ Mem h H (fnV gf caps) s.1 s.2.1 ∧ Filled C n s.1 len (i + 1)) ?_ ?_
      rotate_left
      · rintro ⟨T', ms', H'⟩ φ' _ ⟨rfl, hm', hf'⟩
        dsimp only at hm' hf' ⊢
        conv => whnf
        refine ⟨((i + 1 : Nat) : Int), wie (by omega) (by omega), ?_⟩
        conv => whnf
        exact RndM.mk (i + 1, T', _, ms') ⟨by show i + 1 ≤ n - len + 1; omega, hm', hf'⟩ (by show n - len + 1 - (i + 1) < n - len + 1 - i; omega) ⟨rfl, rfl, rfl, rfl, rfl, rfl, rfl, trivial⟩ (Hp.Le.refl _) rfl
      conv => whnf
      repeat (refine SeqP.go ?_; conv => whnf)
      conv => whnf
      refine ⟨((i + len : Nat) : Int), wie (by omega) (by omega), ?_⟩
      conv => whnf
      refine ⟨rfl, _, storeAt_all (vs := [int i, int (i + len : Nat)]) rfl rfl rfl, ?_⟩
      conv => whnf
      refine SeqP.go ?_
      conv => whnf
      refine ⟨rfl, _, storeAt_all (vs := [int 0, int (-1)]) rfl rfl rfl, ?_⟩
      conv => whnf
      refine SeqP.cutM (α := Int × Int) (fun _ => [(8, ptr H.next 0), (9, ptr (H.next + 1) 0), (21, int i), (20, int (n - len + 1 : Nat)), (6, int len), (0, int n), (3, ptr h.next 0), (4, ptr (h.next + 1) 0), (5, ptr (h.next + 2) 0)]) (fun _ => (H.next + 3) :: ms) (fun x H' => Kept h H H' (fnV gf caps) T ms i len x ∧ BestUp (candT C T i (i + len)) i len x) ?_ ?_
      · conv => whnf
        repeat (refine SeqP.go ?_; conv => whnf)
        refine ⟨_, two_cells (Hp.at_lay_old _ (Hp.at_lay_self _ _)), ?_⟩
        conv => whnf
        refine CallP.mono (gates_spec i (i + len : Nat) _) ?_
        rintro r _ ⟨rfl, rfl⟩
        conv => whnf
        repeat (refine SeqP.go ?_; conv => whnf)
        have g0 : Grows H (((H.lay (.row 115 true [int i, int (i + len : Nat)])).lay (.row 85 true [int 0, int (-1)])).lay (.row 115 true [int i, int (i + len : Nat)])) := ((Grows.lay _ _).then_lay _).then_lay _
        refine range_goJ (fun hh => hh.at (H.next + 2) = some (.row 115 true [int i, int (i + len : Nat)])) ((List.range' i (i + len - i)).map gv) (fun k hh => ∃ x, Kept h H hh (fnV gf caps) T ms i len x ∧ BestUp (candT C T i (i + len)) i k x) (fun _ => False) can95 ?_ rfl (fun I S hJ h0 hit => gates_iter i (i + len) (by omega) (by omega) _ _ I S _ (fun k hh hI => at_nx (by simp only [Hp.next_lay]) (hJ k hh hI)) h0 hit) ?_ ?_ ?_ ?_ ?_
        · intro k hk
          simp [gv]
        · rintro k hh ⟨x, hk, _⟩
          exact hk.gate
        · refine ⟨(0, -1), ⟨(g0.then_lay _).then_lay _, ?_, ?_, ?_, ?_⟩, BestUp.zero _ _⟩
          · exact at_nx (by simp only [Hp.next_lay]) (Hp.at_lay_old _ (Hp.at_lay_self _ _))
          · exact Hp.at_lay_old _ (Hp.at_lay_old _ (Hp.at_lay_old _ (Hp.at_lay_old _ (Hp.at_lay_self _ _))))
          · exact at_nx (by simp only [Hp.next_lay]) (Hp.at_lay_old _ (Hp.at_lay_old _ (Hp.at_lay_self _ _)))
          · exact at_nx (by simp only [Hp.next_lay]) (Hp.at_lay_old _ (Hp.at_lay_old _ (Hp.at_lay_old _ (Hp.at_lay_self _ _))))
        · rintro k xs hget H3 hl3 ⟨x, hk, hx⟩
          have hget2 := List.getElem?_eq_some_iff.1 hget
          obtain ⟨hkl, exs⟩ := hget2
          rw [List.length_map, List.length_range'] at hkl
          rw [List.getElem_map, List.getElem_range', Nat.one_mul] at exs
          subst exs
          conv => whnf
          refine bodyQ_go hl3 ?_
          intro BO hb2 eBO hbl hbk
          have hk2 := hk.keep (by simp only [Hp.next_lay]; omega) hbk
          clear hget hk
          conv => whnf
          refine SeqP.go ?_
          conv => whnf
          have k3 := hk2.ext (Grows.lay hb2 (.row 85 true [int 0, int 0]))
          have m3 := (hm.ext hk2.gr).ext (Grows.lay hb2 (.row 85 true [int 0, int 0]))
          refine ⟨_, cellAt_row m3.at3 rfl, ?_⟩
          conv => whnf
          refine ⟨_, two_cells k3.part, ?_⟩
          conv => whnf
          refine ⟨int i, cellAt_row k3.part rfl, ?_⟩
          conv => whnf
          refine ⟨⟨by omega, by omega⟩, ?_⟩
          conv => whnf
          refine ⟨⟨by omega, by omega⟩, ?_⟩
          conv => whnf
          refine ⟨int (T i (i + k)).1, cellAt_row m3.at5 (tab_cost' T (a := i) (b := i + k) (by omega) (by omega) (by rw [offAt_eq, offAt_eq]; omega)), ?_⟩
          conv => whnf
          refine ⟨((i + k + 1 : Nat) : Int), wie (by omega) (by omega), ?_⟩
          conv => whnf
          refine ⟨int (i + len : Nat), cellAt_row k3.part rfl, ?_⟩
          conv => whnf
          refine ⟨⟨by omega, by omega⟩, ?_⟩
          conv => whnf
          refine ⟨⟨by omega, by omega⟩, ?_⟩
          conv => whnf
          refine ⟨int (T (i + k + 1) (i + len)).1, cellAt_row m3.at5 (tab_cost' T (a := i + k + 1) (b := i + len) (by omega) (by omega) (by rw [offAt_eq, offAt_eq]; omega)), ?_⟩
          conv => whnf
          refine ⟨hC.can, ?_⟩
          refine CallP.mono (hC.call _ m3.gr i (i + len) (i + k) _ _ (by omega) (by omega) (by omega) (by have := hf.bd (a := i) (b := i + k) (by omega) (by omega) (by omega); rwa [show i + k - i = k by omega] at *) (hf.bd (by omega) (by omega) (by omega))) ?_
          rintro r h5 ⟨rfl, g5⟩
          conv => whnf
          refine ⟨rfl, _, storeAt_full (vs := [int (candT C T i (i + len) (i + k)), int (i + k : Nat)]) (g5.at_ _ _ (Hp.at_lay_self _ _)) rfl rfl rfl, ?_⟩
          conv => whnf
          refine ⟨?_, ?_⟩
          · repeat' (first | exact True.intro | (refine And.intro ?_ ?_ <;> (conv => whnf)))
            · exact sameAt_val (h2 := _) rfl (sameV_int _)
            · exact sameAt_val (h2 := h5) rfl (sameV_int _)
            · exact ⟨_, rfl, Hp.at_lay_self _ _, rfl⟩
            · exact ⟨_, rfl, g5.at_ _ _ (Hp.at_lay_self _ _), rfl⟩
          have hbl2 := at_nx (r' := H.next + 4) (by simp only [Hp.next_lay]) hbl
          have hlt2 := Hp.lt_of_at hbl2
          have hlt5 := Hp.lt_of_at (g5.at_ _ _ (Hp.at_lay_self hb2 (.row 85 true [int 0, int 0])))
          have k5 := (k3.ext g5).then_set (r := hb2.next) (.row 85 true [int (candT C T i (i + len) (i + k)), int (i + k : Nat)]) (by omega)
          have a11 : (h5.set hb2.next (.row 85 true [int (candT C T i (i + len) (i + k)), int (i + k : Nat)])).at hb2.next = some (.row 85 true [int (candT C T i (i + len) (i + k)), int (i + k : Nat)]) := Hp.at_set_self _ hlt5
          have bo5 : (h5.set hb2.next (.row 85 true [int (candT C T i (i + len) (i + k)), int (i + k : Nat)])).at (H.next + 4) = some BO := by rw [Hp.at_set_ne _ (by omega)]; exact g5.at_ _ _ (Hp.at_lay_old _ hbl2)
          conv => whnf
          refine SeqP.cut (α := Int × Int) (fun _ => [(9, ptr (H.next + 1) 0), (11, ptr hb2.next 0)]) (fun z H' => z = (if x.2 < 0 then (candT C T i (i + len) (i + k), ((i + k : Nat) : Int)) else x) ∧ Kept h H H' (fnV gf caps) T ms i len z ∧ H'.at hb2.next = some (.row 85 true [int (candT C T i (i + len) (i + k)), int (i + k : Nat)]) ∧ H'.at (H.next + 4) = some BO) ?_ ?_
          · conv => whnf
            repeat (refine SeqP.go ?_; conv => whnf)
            refine ⟨int x.2, cellAt_row (at_nx (Hp.next_lay _ _).symm k5.best) rfl, ?_⟩
            conv => whnf
            refine cmpB (fun c1 => ?_) (fun c1 => ?_)
            · conv => whnf
              repeat (refine SeqP.go ?_; conv => whnf)
              refine ⟨_, two_cells a11, ?_⟩
              conv => whnf
              refine ⟨rfl, _, storeAt_full (vs := [int (candT C T i (i + len) (i + k)), int (i + k : Nat)]) (at_nx (Hp.next_lay _ _).symm k5.best) rfl rfl rfl, ?_⟩
              conv => whnf
              exact ⟨(candT C T i (i + len) (i + k), ((i + k : Nat) : Int)), ⟨congrArg (fun k => ptr k 0) (Hp.next_lay _ _), rfl, trivial⟩, ⟨(if_pos c1).symm, k5.upd (candT C T i (i + len) (i + k), ((i + k : Nat) : Int)) (Hp.next_lay _ _), by rw [Hp.at_set_ne _ (by simp only [Hp.next_lay]; omega)]; exact a11, by rw [Hp.at_set_ne _ (by simp only [Hp.next_lay]; omega)]; exact bo5⟩, rfl⟩
            · conv => whnf
              repeat (refine SeqP.go ?_; conv => whnf)
              exact ⟨x, ⟨congrArg (fun k => ptr k 0) (Hp.next_lay _ _), rfl, trivial⟩, ⟨(if_neg c1).symm, k5, a11, bo5⟩, rfl⟩
          rintro z φ6 H6 ⟨ez, k6, a6, b6⟩
          have hbs := BestUp.succ hx
          rw [← ez] at hbs
          conv => whnf
          refine ⟨_, two_cells k6.best, ?_⟩
          conv => whnf
          refine ⟨_, two_cells a6, ?_⟩
          conv => whnf
          refine CallP.mono (better_spec z (candT C T i (i + len) (i + k), ((i + k : Nat) : Int)) _) ?_
          rintro r h7 ⟨rfl, g7⟩
          have k7 := k6.ext g7
          have b7 := g7.at_ _ _ b6
          conv => whnf
          refine ⟨rfl, _, storeAt_full (vs := [int (betterOf z (candT C T i (i + len) (i + k), ((i + k : Nat) : Int))).1, int (betterOf z (candT C T i (i + len) (i + k), ((i + k : Nat) : Int))).2]) k7.best rfl rfl rfl, ?_⟩
          have k8 := k7.upd (betterOf z (candT C T i (i + len) (i + k), ((i + k : Nat) : Int))) rfl
          have b8 : (h7.set (H.next + 1) (.row 85 true [int (betterOf z (candT C T i (i + len) (i + k), ((i + k : Nat) : Int))).1, int (betterOf z (candT C T i (i + len) (i + k), ((i + k : Nat) : Int))).2])).at (H.next + 4) = some BO := by rw [Hp.at_set_ne _ (by omega)]; exact b7
          conv => whnf
          refine endQ_next eBO (at_nx (by simp only [Hp.next_lay]) b8) ?_
          intro h9 hr9 hk9
          exact .inl ⟨rfl, hr9, _, k8.keep (by simp only [Hp.next_lay]; omega) hk9, hbs⟩
        · rintro h2 h3 ⟨x, hk, hx⟩ hkp
          rw [List.length_map, List.length_range'] at hx
          have hk3 := hk.keep (by simp only [Hp.next_lay]; omega) hkp
          exact ⟨x, ⟨rfl, congrArg (fun k => ptr k 0) (Hp.next_lay _ _), rfl, rfl, rfl, rfl, rfl, rfl, rfl, trivial⟩, ⟨hk3, by rw [show i + len - i = len by omega] at hx; exact hx⟩, congrArg (· :: ms) (by simp only [Hp.next_lay])⟩
        · intro h2 hF
          exact hF.elim
      rintro x φ' H2 ⟨hk, hx⟩
      have hnx := hm.nx
      have m2 := (hm.ext hk.gr).mark hk.mark (by omega) hm.fresh
      have hbx : Bd len x.1 := by
        obtain ⟨g, g1, g2, e⟩ := hx.at_nonneg (by omega)
        have := hC.bd i (i + len) g _ _ g1 g2 hin (hf.bd (a := i) (b := g) g1 (by omega) (by omega)) (hf.bd (a := g + 1) (b := i + len) (by omega) hin (by omega))
        rw [e]
        rwa [show i + len - i = len by omega] at this
      have hf2 := hf.upd (by omega) hin hx hbx
      conv => whnf
      refine ⟨int i, cellAt_row hk.part rfl, ?_⟩
      conv => whnf
      refine ⟨int (i + len : Nat), cellAt_row hk.part rfl, ?_⟩
      conv => whnf
      refine ⟨_, two_cells hk.best, ?_⟩
      conv => whnf
      refine ⟨⟨by omega, by omega⟩, ?_⟩
      conv => whnf
      refine ⟨⟨by omega, by omega⟩, ?_⟩
      conv => whnf
      refine ⟨rfl, _, tab_store (a := i) (b := i + len) x m2.at5 (by omega) (by omega) (by rw [offAt_eq, offAt_eq]; omega), ?_⟩
      conv => whnf
      exact ⟨(updT T i (i + len) x, (H.next + 3) :: ms, _), ⟨rfl, rfl, rfl, rfl, rfl, rfl, rfl, trivial⟩, ⟨rfl, m2.tab _, hf2⟩, rfl⟩
    rintro ⟨T', ms', H'⟩ φ' _ ⟨rfl, hm', hf'⟩
    dsimp only at hm' hf' ⊢
    conv => whnf
    refine ⟨((len + 1 : Nat) : Int), wie (by omega) (by omega), ?_⟩
    conv => whnf
    exact RndM.mk (len + 1, T', _, ms') ⟨by show 1 ≤ len + 1; omega, by show len + 1 ≤ n + 1; omega, hm', hf'⟩ (by show n + 1 - (len + 1) < n + 1 - len; omega) ⟨rfl, rfl, rfl, rfl, rfl, trivial⟩ (Hp.Le.refl _) rfl
  rintro ⟨T, ms⟩ φ H ⟨hm, hT⟩
  dsimp only at hm hT ⊢
  have hnx := hm.nx
  have hms : Marks (h.next + 3) ms (H.set (h.next + 1) (.row 88 true (tabV T))) := ⟨hm.mks.1, fun d hd => ⟨(hm.mks.2 d hd).1, by have := (hm.mks.2 d hd).1; rw [Hp.at_set_ne _ (by omega)]; exact (hm.mks.2 d hd).2⟩⟩
  conv => whnf
  repeat (refine SeqP.go ?_; conv => whnf)
  refine ⟨tabV T, tab_cells hm.at5, ?_⟩
  conv => whnf
  refine ⟨tabV_len T, _, storeAt_full (vs := tabV T) hm.at4 (by rw [tabV_len, times_len]) (tabV_one T) (over_full (by rw [tabV_len, times_len])), ?_⟩
  conv => whnf
  refine finP_marks hms ?_
  intro h3 n3 k3 _
  obtain ⟨ti, hti, hag, hsz⟩ := ty88
  have at4 : h3.at (h.next + 1) = some (.row 88 true (tabV T)) := k3 _ _ (by omega) (Hp.at_set_self _ (by omega))
  refine leave_cell rfl hti hag (by rw [hsz]; exact tab_cells at4) ⟨T, hT, rfl, ?_⟩
  refine ⟨by rw [n3, Hp.next_set]; omega, fun r o ho => ?_⟩
  have hlt := Hp.lt_of_at ho
  exact k3 r o (by omega) (by rw [Hp.at_set_ne _ (by omega)]; exact hm.gr.at_ _ _ ho)
end
end Go.Proofs.Yticmdpcahpimhaa
