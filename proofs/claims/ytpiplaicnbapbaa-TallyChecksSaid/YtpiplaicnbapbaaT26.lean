/- Contracts of the functions that T27 comes to. -/
import Derived.Test.YtpiplaicnbapbaaT25
set_option maxRecDepth 100000
set_option maxHeartbeats 2000000
set_option linter.unusedVariables false
set_option linter.unusedSectionVars false
set_option linter.unusedSimpArgs false
namespace Go.Proofs.Ytpiplaicnbapbaa
open Go.Rx Go.RowKit
def Err (p : Prot) (ok : Prop) (e : Int) : Prop := (¬ POk p → e = 60) ∧ (POk p → ¬ ok → e = 1)
theorem Err.ne {p : Prot} {ok : Prop} {e : Int} (h : Err p ok e) (k : ¬ (POk p ∧ ok)) : e ≠ 0 := by
  by_cases hp : POk p
  · have := h.2 hp fun x => k ⟨hp, x⟩
    omega
  · have := h.1 hp
    omega
attribute [local irreducible] E idxN cellAt cellsAt storeAt callable helems hmoved lookIn findKey keyOk hentries Hp.at Hp.set Hp.lay arBits hupdated setAt CallP YieldP BoolOf IsWrap Rnd LoopP AppP CutP Int.tmod Int.tdiv Int.fdiv
section
variable [Unknowns]
attribute [local irreducible] ResP sameAt
theorem Weighs_bad (v : Value) (p : Prot) (h : Hp) (hv : PV h v p) (hn : InR p.n) (ho : p.out.length ≤ 1000000) (hs : p.start.length ≤ 1000000) (hr : p.rules.length ≤ 1000000) (hbad : ¬ POk p) : CallP E 24 [v] h (fun r h' => r = .tuple ⟨[int 0, int 60]⟩ ∧ Grows h h') := by
  obtain ⟨bx, rfl, hbl, b0, -⟩ := hv.box
  have g0 : Grows h (h.lay (.row 25 true bx)) := Grows.lay _ _
  have a0 : (h.lay (.row 25 true bx)).at h.next = some (.row 25 true bx) := Hp.at_lay_self _ _
  refine enter24 (by simp) ?_
  conv => whnf
  refine SeqP.go ?_
  conv => whnf
  repeat (refine SeqP.go ?_; conv => whnf)
  refine ⟨bx, all_cells a0 hbl, ?_⟩
  conv => whnf
  refine CallP.mono (check_spec _ p _ (hv.ext g0) hn ho hs hr) ?_
  rintro r h1 ⟨⟨e, rfl, e1, e2⟩, g1⟩
  have ee := e2 hbad
  subst ee
  conv => whnf
  repeat (refine SeqP.go ?_; conv => whnf)
  refine cmpT (by omega) ?_
  conv => whnf
  repeat (refine SeqP.go ?_; conv => whnf)
  exact ⟨rfl, g0.trans g1⟩
theorem Kept_bad (v : Value) (p : Prot) (h : Hp) (hv : PV h v p) (hn : InR p.n) (ho : p.out.length ≤ 1000000) (hs : p.start.length ≤ 1000000) (hr : p.rules.length ≤ 1000000) (hbad : ¬ POk p) : CallP E 23 [v, .slice none 0 0, int (-1)] h (fun r h' => r = .tuple ⟨[.bool false, int 60]⟩ ∧ Grows h h') := by
  obtain ⟨bx, rfl, hbl, b0, -⟩ := hv.box
  have g0 : Grows h (h.lay (.row 25 true bx)) := Grows.lay _ _
  have a0 : (h.lay (.row 25 true bx)).at h.next = some (.row 25 true bx) := Hp.at_lay_self _ _
  refine enter23 (by simp) ?_
  conv => whnf
  refine SeqP.go ?_
  conv => whnf
  repeat (refine SeqP.go ?_; conv => whnf)
  refine ⟨bx, all_cells a0 hbl, ?_⟩
  conv => whnf
  refine CallP.mono (check_spec _ p _ (hv.ext g0) hn ho hs hr) ?_
  rintro r h1 ⟨⟨e, rfl, e1, e2⟩, g1⟩
  have ee := e2 hbad
  subst ee
  conv => whnf
  repeat (refine SeqP.go ?_; conv => whnf)
  refine cmpT (by omega) ?_
  conv => whnf
  repeat (refine SeqP.go ?_; conv => whnf)
  exact ⟨rfl, g0.trans g1⟩
theorem Answers_bad (v : Value) (p : Prot) (h : Hp) (hv : PV h v p) (hn : InR p.n) (ho : p.out.length ≤ 1000000) (hs : p.start.length ≤ 1000000) (hr : p.rules.length ≤ 1000000) (hbad : ¬ POk p) : CallP E 22 [v, .agg ⟨[.slice none 0 0, int 0, int 0]⟩] h (fun r h' => r = .tuple ⟨[.slice none 0 0, .bool false, int 60]⟩ ∧ Grows h h') := by
  obtain ⟨bx, rfl, hbl, b0, -⟩ := hv.box
  have g0 : Grows h ((h.lay (.row 25 true bx)).lay (.row 36 true [.slice none 0 0, int 0, int 0])) := (Grows.lay _ _).then_lay _
  have a0 : ((h.lay (.row 25 true bx)).lay (.row 36 true [.slice none 0 0, int 0, int 0])).at h.next = some (.row 25 true bx) := Hp.at_lay_old _ (Hp.at_lay_self _ _)
  refine enter22 (by simp) ?_
  conv => whnf
  refine SeqP.go ?_
  conv => whnf
  repeat (refine SeqP.go ?_; conv => whnf)
  refine ⟨bx, all_cells a0 hbl, ?_⟩
  conv => whnf
  refine CallP.mono (check_spec _ p _ (hv.ext g0) hn ho hs hr) ?_
  rintro r h1 ⟨⟨e, rfl, e1, e2⟩, g1⟩
  have ee := e2 hbad
  subst ee
  conv => whnf
  repeat (refine SeqP.go ?_; conv => whnf)
  refine cmpT (by omega) ?_
  conv => whnf
  repeat (refine SeqP.go ?_; conv => whnf)
  exact ⟨rfl, g0.trans g1⟩
theorem Reached_bad (v w : Value) (p : Prot) (c : List Int) (h : Hp) (hv : PV h v p) (hw : View h w c) (hn : InR p.n) (ho : p.out.length ≤ 1000000) (hs : p.start.length ≤ 1000000) (hr : p.rules.length ≤ 1000000) (hcl : c.length ≤ 1000000) (hbad : ¬ (POk p ∧ Cnt c p.n)) : CallP E 30 [v, w] h (fun r h' => (∃ e, r = .tuple ⟨[int 0, int e]⟩ ∧ Err p (Cnt c p.n) e) ∧ Grows h h') := by
  obtain ⟨bx, rfl, hbl, b0, -⟩ := hv.box
  obtain ⟨ac, cc, rfl⟩ := hw.known
  have g0 : Grows h (h.lay (.row 25 true bx)) := Grows.lay _ _
  have a0 : (h.lay (.row 25 true bx)).at h.next = some (.row 25 true bx) := Hp.at_lay_self _ _
  refine enter30 (by simp) ?_
  conv => whnf
  refine SeqP.go ?_
  conv => whnf
  refine SeqP.cut (α := Hp × Int) (fun s => [(7, int s.2)]) (fun s H => s.1 = H ∧ Grows h s.1 ∧ Err p (Cnt c p.n) s.2) ?_ ?_
  · conv => whnf
    refine ⟨bx, all_cells a0 hbl, ?_⟩
    conv => whnf
    refine CallP.mono (read_spec _ _ p c _ (hv.ext g0) (hw.ext g0) hn ho hs hr hcl) ?_
    rintro r h1 ⟨⟨l, e, rfl, hl, e1, e2, e3⟩, g1⟩
    have g1' : Grows (h.lay (.row 25 true bx)) h1 := g1
    unfold cv
    conv => whnf
    refine ⟨by show (l.map int).length = 5; rw [List.length_map, hl], _, storeAt_all (vs := l.map int) (by rw [List.length_map, hl]; rfl) (ints_one _) (over_int (k := [0, 0, 0, 0, 0]) (by rw [hl]; rfl)), ?_⟩
    conv => whnf
    exact ⟨(_, e), ⟨rfl, trivial⟩, ⟨rfl, (g0.trans g1').then_lay _, e1, e2⟩, rfl⟩
  rintro ⟨h1, e⟩ φ1 _ ⟨rfl, g1, he⟩
  dsimp only at g1 he ⊢
  conv => whnf
  repeat (refine SeqP.go ?_; conv => whnf)
  refine cmpT (he.ne hbad) ?_
  conv => whnf
  repeat (refine SeqP.go ?_; conv => whnf)
  exact ⟨⟨_, rfl, he⟩, g1⟩
theorem Settled_bad (v w : Value) (p : Prot) (c : List Int) (h : Hp) (hv : PV h v p) (hw : View h w c) (hn : InR p.n) (ho : p.out.length ≤ 1000000) (hs : p.start.length ≤ 1000000) (hr : p.rules.length ≤ 1000000) (hcl : c.length ≤ 1000000) (hbad : ¬ (POk p ∧ Cnt c p.n)) : CallP E 31 [v, w] h (fun r h' => (∃ e, r = .tuple ⟨[int 0, .bool false, int e]⟩ ∧ Err p (Cnt c p.n) e) ∧ Grows h h') := by
  obtain ⟨bx, rfl, hbl, b0, -⟩ := hv.box
  obtain ⟨ac, cc, rfl⟩ := hw.known
  have g0 : Grows h (h.lay (.row 25 true bx)) := Grows.lay _ _
  have a0 : (h.lay (.row 25 true bx)).at h.next = some (.row 25 true bx) := Hp.at_lay_self _ _
  refine enter31 (by simp) ?_
  conv => whnf
  refine SeqP.go ?_
  conv => whnf
  refine SeqP.cut (α := Hp × Int) (fun s => [(8, int s.2)]) (fun s H => s.1 = H ∧ Grows h s.1 ∧ Err p (Cnt c p.n) s.2) ?_ ?_
  · conv => whnf
    refine ⟨bx, all_cells a0 hbl, ?_⟩
    conv => whnf
    refine CallP.mono (read_spec _ _ p c _ (hv.ext g0) (hw.ext g0) hn ho hs hr hcl) ?_
    rintro r h1 ⟨⟨l, e, rfl, hl, e1, e2, e3⟩, g1⟩
    have g1' : Grows (h.lay (.row 25 true bx)) h1 := g1
    unfold cv
    conv => whnf
    refine ⟨by show (l.map int).length = 5; rw [List.length_map, hl], _, storeAt_all (vs := l.map int) (by rw [List.length_map, hl]; rfl) (ints_one _) (over_int (k := [0, 0, 0, 0, 0]) (by rw [hl]; rfl)), ?_⟩
    conv => whnf
    exact ⟨(_, e), ⟨rfl, trivial⟩, ⟨rfl, (g0.trans g1').then_lay _, e1, e2⟩, rfl⟩
  rintro ⟨h1, e⟩ φ1 _ ⟨rfl, g1, he⟩
  dsimp only at g1 he ⊢
  conv => whnf
  repeat (refine SeqP.go ?_; conv => whnf)
  refine cmpT (he.ne hbad) ?_
  conv => whnf
  repeat (refine SeqP.go ?_; conv => whnf)
  exact ⟨⟨_, rfl, he⟩, g1⟩
theorem Decides_bad (v w : Value) (p : Prot) (c : List Int) (h : Hp) (hv : PV h v p) (hw : View h w c) (hn : InR p.n) (ho : p.out.length ≤ 1000000) (hs : p.start.length ≤ 1000000) (hr : p.rules.length ≤ 1000000) (hcl : c.length ≤ 1000000) (hbad : ¬ (POk p ∧ Cnt c p.n)) : CallP E 32 [v, w] h (fun r h' => (∃ e, r = .tuple ⟨[int 0, .bool false, int e]⟩ ∧ Err p (Cnt c p.n) e) ∧ Grows h h') := by
  obtain ⟨bx, rfl, hbl, b0, -⟩ := hv.box
  obtain ⟨ac, cc, rfl⟩ := hw.known
  have g0 : Grows h (h.lay (.row 25 true bx)) := Grows.lay _ _
  have a0 : (h.lay (.row 25 true bx)).at h.next = some (.row 25 true bx) := Hp.at_lay_self _ _
  refine enter32 (by simp) ?_
  conv => whnf
  refine SeqP.go ?_
  conv => whnf
  refine SeqP.cut (α := Hp × Int) (fun s => [(8, int s.2)]) (fun s H => s.1 = H ∧ Grows h s.1 ∧ Err p (Cnt c p.n) s.2) ?_ ?_
  · conv => whnf
    refine ⟨bx, all_cells a0 hbl, ?_⟩
    conv => whnf
    refine CallP.mono (read_spec _ _ p c _ (hv.ext g0) (hw.ext g0) hn ho hs hr hcl) ?_
    rintro r h1 ⟨⟨l, e, rfl, hl, e1, e2, e3⟩, g1⟩
    have g1' : Grows (h.lay (.row 25 true bx)) h1 := g1
    unfold cv
    conv => whnf
    refine ⟨by show (l.map int).length = 5; rw [List.length_map, hl], _, storeAt_all (vs := l.map int) (by rw [List.length_map, hl]; rfl) (ints_one _) (over_int (k := [0, 0, 0, 0, 0]) (by rw [hl]; rfl)), ?_⟩
    conv => whnf
    exact ⟨(_, e), ⟨rfl, trivial⟩, ⟨rfl, (g0.trans g1').then_lay _, e1, e2⟩, rfl⟩
  rintro ⟨h1, e⟩ φ1 _ ⟨rfl, g1, he⟩
  dsimp only at g1 he ⊢
  conv => whnf
  repeat (refine SeqP.go ?_; conv => whnf)
  refine cmpT (he.ne hbad) ?_
  conv => whnf
  repeat (refine SeqP.go ?_; conv => whnf)
  exact ⟨⟨_, rfl, he⟩, g1⟩
theorem Way_bad (v w u : Value) (p : Prot) (a b : List Int) (h : Hp) (hv : PV h v p) (hw : View h w a) (hu : View h u b) (hn : InR p.n) (ho : p.out.length ≤ 1000000) (hs : p.start.length ≤ 1000000) (hr : p.rules.length ≤ 1000000) (hal : a.length ≤ 1000000) (hbl2 : b.length ≤ 1000000) (hbad : ¬ (POk p ∧ Cnt a p.n ∧ Cnt b p.n)) : CallP E 29 [v, w, u] h (fun r h' => (∃ e, r = .tuple ⟨[.slice none 0 0, .bool false, int e]⟩ ∧ Err p (Cnt a p.n ∧ Cnt b p.n) e) ∧ Grows h h') := by
  obtain ⟨bx, rfl, hbl, b0, -⟩ := hv.box
  obtain ⟨aa, ca, rfl⟩ := hw.known
  obtain ⟨ab, cb, rfl⟩ := hu.known
  have g0 : Grows h (h.lay (.row 25 true bx)) := Grows.lay _ _
  have a0 : (h.lay (.row 25 true bx)).at h.next = some (.row 25 true bx) := Hp.at_lay_self _ _
  refine enter29 (by simp) ?_
  conv => whnf
  refine SeqP.go ?_
  conv => whnf
  refine SeqP.cut (α := Hp × Int) (fun s => [(11, int s.2)]) (fun s H => s.1 = H ∧ Grows h s.1 ∧ Err p (Cnt a p.n ∧ Cnt b p.n) s.2) ?_ ?_
  · conv => whnf
    refine ⟨bx, all_cells a0 hbl, ?_⟩
    conv => whnf
    refine CallP.mono (both_spec _ _ _ p a b _ (hv.ext g0) (hw.ext g0) (hu.ext g0) hn ho hs hr hal hbl2) ?_
    rintro r h1 ⟨⟨la, lb, e, rfl, hla, hlb, e1, e2, e3⟩, g1⟩
    have g1' : Grows (h.lay (.row 25 true bx)) h1 := g1
    unfold cv
    conv => whnf
    refine ⟨by show (la.map int).length = 5; rw [List.length_map, hla], _, storeAt_full (vs := la.map int) (Hp.at_lay_old _ (Hp.at_lay_self _ _)) (by rw [List.length_map, hla]; rfl) (ints_one _) (over_int (k := [0, 0, 0, 0, 0]) (by rw [hla]; rfl)), ?_⟩
    conv => whnf
    refine ⟨by show (lb.map int).length = 5; rw [List.length_map, hlb], _, storeAt_full (vs := lb.map int) (cs := zero5.map int) (e := 107) (x := true) (by rw [Hp.at_set_ne _ (by rw [Hp.next_lay]; omega)]; exact Hp.at_lay_self _ _) (by rw [List.length_map, hlb]; rfl) (ints_one _) (over_int (k := zero5) (by rw [hlb]; rfl)), ?_⟩
    conv => whnf
    refine ⟨(_, e), ⟨rfl, trivial⟩, ⟨rfl, ?_, e1, e2⟩, rfl⟩
    have gg := ((g0.trans g1').then_lay (.row 107 true (zero5.map int))).then_lay (.row 107 true (zero5.map int))
    have hn1 := (g0.trans g1').next
    exact (gg.then_set _ hn1).then_set _ (by rw [Hp.next_lay]; omega)
  rintro ⟨h1, e⟩ φ1 _ ⟨rfl, g1, he⟩
  dsimp only at g1 he ⊢
  conv => whnf
  repeat (refine SeqP.go ?_; conv => whnf)
  refine cmpT (he.ne hbad) ?_
  conv => whnf
  repeat (refine SeqP.go ?_; conv => whnf)
  exact ⟨⟨_, rfl, he⟩, g1⟩
theorem Forbids_bad (v w u : Value) (p : Prot) (a b : List Int) (h : Hp) (hv : PV h v p) (hw : View h w a) (hu : View h u b) (hn : InR p.n) (ho : p.out.length ≤ 1000000) (hs : p.start.length ≤ 1000000) (hr : p.rules.length ≤ 1000000) (hal : a.length ≤ 1000000) (hbl2 : b.length ≤ 1000000) (hbad : ¬ (POk p ∧ Cnt a p.n ∧ Cnt b p.n)) : CallP E 33 [v, w, u] h (fun r h' => (∃ e, r = .tuple ⟨[.slice none 0 0, .bool false, int e]⟩ ∧ Err p (Cnt a p.n ∧ Cnt b p.n) e) ∧ Grows h h') := by
  obtain ⟨bx, rfl, hbl, b0, -⟩ := hv.box
  obtain ⟨aa, ca, rfl⟩ := hw.known
  obtain ⟨ab, cb, rfl⟩ := hu.known
  have g0 : Grows h (h.lay (.row 25 true bx)) := Grows.lay _ _
  have a0 : (h.lay (.row 25 true bx)).at h.next = some (.row 25 true bx) := Hp.at_lay_self _ _
  refine enter33 (by simp) ?_
  conv => whnf
  refine SeqP.go ?_
  conv => whnf
  refine SeqP.cut (α := Hp × Int) (fun s => [(11, int s.2)]) (fun s H => s.1 = H ∧ Grows h s.1 ∧ Err p (Cnt a p.n ∧ Cnt b p.n) s.2) ?_ ?_
  · conv => whnf
    refine ⟨bx, all_cells a0 hbl, ?_⟩
    conv => whnf
    refine CallP.mono (both_spec _ _ _ p a b _ (hv.ext g0) (hw.ext g0) (hu.ext g0) hn ho hs hr hal hbl2) ?_
    rintro r h1 ⟨⟨la, lb, e, rfl, hla, hlb, e1, e2, e3⟩, g1⟩
    have g1' : Grows (h.lay (.row 25 true bx)) h1 := g1
    unfold cv
    conv => whnf
    refine ⟨by show (la.map int).length = 5; rw [List.length_map, hla], _, storeAt_full (vs := la.map int) (Hp.at_lay_old _ (Hp.at_lay_self _ _)) (by rw [List.length_map, hla]; rfl) (ints_one _) (over_int (k := [0, 0, 0, 0, 0]) (by rw [hla]; rfl)), ?_⟩
    conv => whnf
    refine ⟨by show (lb.map int).length = 5; rw [List.length_map, hlb], _, storeAt_full (vs := lb.map int) (cs := zero5.map int) (e := 107) (x := true) (by rw [Hp.at_set_ne _ (by rw [Hp.next_lay]; omega)]; exact Hp.at_lay_self _ _) (by rw [List.length_map, hlb]; rfl) (ints_one _) (over_int (k := zero5) (by rw [hlb]; rfl)), ?_⟩
    conv => whnf
    refine ⟨(_, e), ⟨rfl, trivial⟩, ⟨rfl, ?_, e1, e2⟩, rfl⟩
    have gg := ((g0.trans g1').then_lay (.row 107 true (zero5.map int))).then_lay (.row 107 true (zero5.map int))
    have hn1 := (g0.trans g1').next
    exact (gg.then_set _ hn1).then_set _ (by rw [Hp.next_lay]; omega)
  rintro ⟨h1, e⟩ φ1 _ ⟨rfl, g1, he⟩
  dsimp only at g1 he ⊢
  conv => whnf
  repeat (refine SeqP.go ?_; conv => whnf)
  refine cmpT (he.ne hbad) ?_
  conv => whnf
  repeat (refine SeqP.go ?_; conv => whnf)
  exact ⟨⟨_, rfl, he⟩, g1⟩
end
end Go.Proofs.Ytpiplaicnbapbaa
