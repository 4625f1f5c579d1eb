/- Contracts of the functions that PKE comes to. -/
import Derived.Test.YtpiplaicnbapbaaPKB
set_option maxRecDepth 100000
set_option maxHeartbeats 2000000
set_option linter.unusedVariables false
set_option linter.unusedSectionVars false
set_option linter.unusedSimpArgs false
namespace Go.Proofs.Ytpiplaicnbapbaa
open Go.Rx Go.RowKit
abbrev pl (d : Nat) : Value := slc d 0 0 0
def flat5 : List (List Int) → List Value
  | [] => []
  | d :: L => (pad5 d).map int ++ flat5 L
def fnote (A6 Rr : Nat) : Value := .func (.func 94) ⟨[]⟩ ⟨[ptr A6 0, ptr Rr 0]⟩
structure RPM (h H : Hp) (P X Rr A6 A7 M : Nat) (bp : List Value) (cs bv : Value) (us : List Value) (L B : List (List Int)) (f : K5 → Option Value) (m : Nat) (o1 o2 : Value) (es : List Nat) : Prop where
  gr : Grows h H
  p : H.at P = some (.row 25 true bp)
  x : H.at X = some (.row 104 true [nilS, nilS])
  r : H.at Rr = some (.row 104 true [o1, o2])
  a6 : H.at A6 = some (.row 137 true [mapAt M])
  a7 : H.at A7 = some (.row 121 true [fnote A6 Rr])
  m : MapAt H M enc5 f m
  c : BuiltC h H 107 5 cs L.length (flat5 L)
  b : BuiltC h H 22 1 bv us.length us
  bl : us.length = B.length
  be : ∀ (k : Nat) u l, us[k]? = some u → B[k]? = some l → Built h H 3 u l
  hR : h.next ≤ Rr
  hM : h.next ≤ M
  sep : Rx.Sep H (pl P :: pl X :: pl Rr :: pl A6 :: pl A7 :: pl M :: cs :: bv :: us) (es.map pl)
theorem map_kx5 {h h' : Hp} {M : Nat} {f : K5 → Option Value} {m : Nat} {v : Value} (k : MapAt h M enc5 f m) (x : Kx (ad v) h h') (a : Ap v (pl M)) : MapAt h' M enc5 f m := by
  obtain ⟨es, c, h1, h2, h3⟩ := k
  exact ⟨es, c, x.at_ h1 (fun e2 => a M e2 rfl), h2, h3⟩
section
variable {h H H' : Hp} {P X Rr A6 A7 M : Nat} {bp : List Value} {cs bv : Value} {us : List Value} {L B : List (List Int)} {f : K5 → Option Value} {m : Nat} {o1 o2 : Value} {es : List Nat}
theorem RPM.ext (k : RPM h H P X Rr A6 A7 M bp cs bv us L B f m o1 o2 es) (g : Grows H H') : RPM h H' P X Rr A6 A7 M bp cs bv us L B f m o1 o2 es :=
  ⟨k.gr.trans g, g.at_ _ _ k.p, g.at_ _ _ k.x, g.at_ _ _ k.r, g.at_ _ _ k.a6, g.at_ _ _ k.a7, k.m.ext g, k.c.ext g, k.b.ext g, k.bl, fun j u l h1 h2 => (k.be j u l h1 h2).ext g, k.hR, k.hM, k.sep.ext g⟩
theorem RPM.more (k : RPM h H P X Rr A6 A7 M bp cs bv us L B f m o1 o2 es) (g : Grows H H') (ds : List Nat) (hd : ∀ d ∈ ds, H.next ≤ d ∧ d < H'.next) : RPM h H' P X Rr A6 A7 M bp cs bv us L B f m o1 o2 (ds ++ es) := by
  refine { k.ext g with sep := ?_ }
  have s := k.sep
  refine ⟨(k.ext g).sep.oldr, fun u hu r e => ?_, s.ap, fun v hv u hu => ?_⟩
  · rw [List.map_append] at hu
    rcases List.mem_append.1 hu with hu | hu
    · obtain ⟨d, h1, rfl⟩ := List.mem_map.1 hu
      cases e
      exact (hd _ h1).2
    · exact (k.ext g).sep.olde u hu r e
  · rw [List.map_append] at hu
    rcases List.mem_append.1 hu with hu | hu
    · obtain ⟨d, h1, rfl⟩ := List.mem_map.1 hu
      intro r e1 e2
      cases e2
      have := s.oldr v hv _ e1
      have := hd _ h1
      omega
    · exact s.ape v hv u hu
theorem RPM.other (k : RPM h H P X Rr A6 A7 M bp cs bv us L B f m o1 o2 es) {d : Nat} (hd : d ∈ es) (x : Kx (some d) H H') (g : Grows h H') (hn : H.next ≤ H'.next) : RPM h H' P X Rr A6 A7 M bp cs bv us L B f m o1 o2 es := by
  have x : Kx (ad (pl d)) H H' := x
  have a : ∀ v ∈ (pl P :: pl X :: pl Rr :: pl A6 :: pl A7 :: pl M :: cs :: bv :: us), Ap (pl d) v := fun v hv => (k.sep.ape v hv (pl d) (List.mem_map.2 ⟨d, hd, rfl⟩)).symm
  exact ⟨g, ap_at (a := none) x k.p (a _ (by simp)), ap_at (a := none) x k.x (a _ (by simp)), ap_at (a := none) x k.r (a _ (by simp)), ap_at (a := none) x k.a6 (a _ (by simp)), ap_at (a := none) x k.a7 (a _ (by simp)), map_kx5 k.m x (a _ (by simp)), k.c.kx x (a _ (by simp)), k.b.kx x (a _ (by simp)), k.bl, fun j u l h1 h2 => (k.be j u l h1 h2).kx x (a _ (by simp [List.mem_of_getElem? h1])), k.hR, k.hM, k.sep.next hn⟩
theorem us_ap {v : Value} {i : Nat} {rs es : List Value} (s : Rx.Sep H (pl P :: pl X :: pl Rr :: pl A6 :: pl A7 :: pl M :: cs :: bv :: us) es) (hi : (pl P :: pl X :: pl Rr :: pl A6 :: pl A7 :: pl M :: cs :: bv :: us)[i]? = some v) (h8 : i < 8) {j : Nat} {u : Value} (hu : us[j]? = some u) : Ap v u :=
  s.ap i (j + 8) v u (by omega) hi (by simpa using hu)
theorem RPM.mapped {f' : K5 → Option Value} {m' : Nat} (k : RPM h H P X Rr A6 A7 M bp cs bv us L B f m o1 o2 es) (y : Keeps M H H') (hm : MapAt H' M enc5 f' m') : RPM h H' P X Rr A6 A7 M bp cs bv us L B f' m' o1 o2 es := by
  have x : Kx (ad (pl M)) H H' := Kx.keeps y
  have a := fun j v hj hv => k.sep.ap 5 j (pl M) v hj rfl hv
  exact ⟨y.grows k.gr k.hM, ap_at (a := none) x k.p (a 0 _ (by decide) rfl), ap_at (a := none) x k.x (a 1 _ (by decide) rfl), ap_at (a := none) x k.r (a 2 _ (by decide) rfl), ap_at (a := none) x k.a6 (a 3 _ (by decide) rfl), ap_at (a := none) x k.a7 (a 4 _ (by decide) rfl), hm, k.c.kx x (a 6 _ (by decide) rfl), k.b.kx x (a 7 _ (by decide) rfl), k.bl, fun j u l h1 h2 => (k.be j u l h1 h2).kx x (us_ap (rs := []) k.sep (i := 5) rfl (by decide) h1), k.hR, k.hM, k.sep.next (by rw [y.next]; exact Nat.le_refl _)⟩
theorem RPM.put (k : RPM h H P X Rr A6 A7 M bp cs bv us L B f m o1 o2 es) (o1' o2' : Value) : RPM h (H.set Rr (.row 104 true [o1', o2'])) P X Rr A6 A7 M bp cs bv us L B f m o1' o2' es := by
  have x : Kx (ad (pl Rr)) H (H.set Rr (.row 104 true [o1', o2'])) := Kx.set _ _ _
  have a := fun j v hj hv => k.sep.ap 2 j (pl Rr) v hj rfl hv
  exact ⟨k.gr.then_set _ k.hR, ap_at (a := none) x k.p (a 0 _ (by decide) rfl), ap_at (a := none) x k.x (a 1 _ (by decide) rfl), Hp.at_set_self _ (Hp.lt_of_at k.r), ap_at (a := none) x k.a6 (a 3 _ (by decide) rfl), ap_at (a := none) x k.a7 (a 4 _ (by decide) rfl), map_kx5 k.m x (a 5 _ (by decide) rfl), k.c.kx x (a 6 _ (by decide) rfl), k.b.kx x (a 7 _ (by decide) rfl), k.bl, fun j u l h1 h2 => (k.be j u l h1 h2).kx x (us_ap (rs := []) k.sep (i := 2) rfl (by decide) h1), k.hR, k.hM, k.sep.next (Nat.le_refl _)⟩
theorem set_get {α : Type} {l : List α} {i j : Nat} {x y : α} (h : (l.set i x)[j]? = some y) : (j = i ∧ y = x) ∨ (j ≠ i ∧ l[j]? = some y) := by
  rw [List.getElem?_set] at h
  by_cases e : i = j
  · subst e
    rw [if_pos rfl] at h
    split at h
    · cases h; exact .inl ⟨rfl, rfl⟩
    · cases h
  · rw [if_neg e] at h
    exact .inr ⟨fun x => e x.symm, h⟩
end
end Go.Proofs.Ytpiplaicnbapbaa
namespace Go.Proofs.Ytpiplaicnbapbaa
open Go.Rx Go.RowKit
def kk (d : List Int) : K5 := k5 (pad5 d)
end Go.Proofs.Ytpiplaicnbapbaa
namespace Go.Proofs.Ytpiplaicnbapbaa
open Go.Rx Go.RowKit
structure BfP (R : List Q4) (L B : List (List Int)) (i : Nat) (d : List Int) (idx : List Int) (r : Nat) : Prop where
  len : B.length = L.length
  fwd : ∀ (j : Nat) (row : List Int), B[j]? = some row → ∀ x ∈ row, ∃ k : Nat, x = (k : Int) ∧ Ed R L k j
  bwd : ∀ (k j : Nat), k < i → Ed R L k j → ∃ row, B[j]? = some row ∧ (k : Int) ∈ row
  cur : ∀ (m : Nat) (x : Int) (e : List Int), m < r → idx[m]? = some x → step R d x = some e → ∃ (j : Nat) (row : List Int), L[j]? = some e ∧ B[j]? = some row ∧ (i : Int) ∈ row
  few : ∀ (j : Nat) (row : List Int), B[j]? = some row → row.length ≤ 15 * i + r
theorem Ed.old {R : List Q4} {L : List (List Int)} {a b : Nat} (h : Ed R L a b) (x : List Int) : Ed R (L ++ [x]) a b := by
  obtain ⟨d, e, i, h1, h2, h3⟩ := h
  exact ⟨d, e, i, getE_snoc h1, getE_snoc h2, h3⟩
theorem BfP.add {R : List Q4} {n : Nat} {c : List Int} {L B : List (List Int)} {i : Nat} {d : List Int} {idx : List Int} {r : Nat} (k : BfP R L B i d idx r) (g : Gp R n c L i) (hi : i ≤ L.length) {x : List Int} (hx : x ∉ L) : BfP R (L ++ [x]) (B ++ [[]]) i d idx r := by
  have hl := k.len
  have snoc : ∀ {j : Nat} {row : List Int}, (B ++ [[]])[j]? = some row → B[j]? = some row ∨ (j = B.length ∧ row = []) := by
    intro j row h
    by_cases e : j < B.length
    · rw [List.getElem?_append_left e] at h; exact .inl h
    · have h1 := (List.getElem?_eq_some_iff.1 h).1
      rw [List.length_append, List.length_singleton] at h1
      have : j = B.length := by omega
      subst this
      rw [List.getElem?_append_right (Nat.le_refl _)] at h
      simp at h
      exact .inr ⟨rfl, h⟩
  refine ⟨by rw [List.length_append, List.length_append, hl]; rfl, fun j row hr y hy => ?_, fun a j ha he => ?_, fun m y e hm hy hs => ?_, fun j row hr => ?_⟩
  · rcases snoc hr with h | ⟨_, rfl⟩
    · obtain ⟨a, h1, h2⟩ := k.fwd j row h y hy
      exact ⟨a, h1, h2.old x⟩
    · simp at hy
  · obtain ⟨d', e, y, h1, h2, h3⟩ := he
    rw [List.getElem?_append_left (by omega)] at h1
    have hm := g.clo a d' ha h1 y e h3
    by_cases hj : j < L.length
    · rw [List.getElem?_append_left hj] at h2
      obtain ⟨row, h4, h5⟩ := k.bwd a j ha ⟨d', e, y, h1, h2, h3⟩
      exact ⟨row, by rw [List.getElem?_append_left (by omega)]; exact h4, h5⟩
    · have h4 := (List.getElem?_eq_some_iff.1 h2).1
      rw [List.length_append, List.length_singleton] at h4
      have : j = L.length := by omega
      subst this
      rw [List.getElem?_append_right (Nat.le_refl _)] at h2
      simp at h2
      subst h2
      exact absurd hm hx
  · obtain ⟨j, row, h1, h2, h3⟩ := k.cur m y e hm hy hs
    have := (List.getElem?_eq_some_iff.1 h2).1
    exact ⟨j, row, getE_snoc h1, by rw [List.getElem?_append_left this]; exact h2, h3⟩
  · rcases snoc hr with h | ⟨_, rfl⟩
    · exact k.few j row h
    · simp
theorem BfP.put {R : List Q4} {L B : List (List Int)} {i : Nat} {d e : List Int} {idx : List Int} {r : Nat} {x : Int} {j : Nat} {row : List Int} (k : BfP R L B i d idx r) (hd : L[i]? = some d) (hx : idx[r]? = some x) (hs : step R d x = some e) (hj : L[j]? = some e) (hB : B[j]? = some row) : BfP R L (B.set j (row ++ [(i : Int)])) i d idx (r + 1) := by
  have hjB := (List.getElem?_eq_some_iff.1 hB).1
  refine ⟨by rw [List.length_set]; exact k.len, fun a row' hr y hy => ?_, fun a b ha he => ?_, fun m y e' hm hy hs' => ?_, fun a row' hr => ?_⟩
  · rcases set_get hr with ⟨rfl, rfl⟩ | ⟨_, h2⟩
    · rcases List.mem_append.1 hy with hy | hy
      · exact k.fwd _ _ hB y hy
      · exact ⟨i, List.mem_singleton.1 hy, d, e, x, hd, hj, hs⟩
    · exact k.fwd _ _ h2 y hy
  · obtain ⟨row', h1, h2⟩ := k.bwd a b ha he
    by_cases eb : b = j
    · subst eb
      rw [hB] at h1
      cases h1
      exact ⟨_, by rw [List.getElem?_set_self hjB], List.mem_append_left _ h2⟩
    · exact ⟨row', by rw [List.getElem?_set_ne (fun e => eb e.symm)]; exact h1, h2⟩
  · have keep : ∀ (a : Nat) (row' : List Int), B[a]? = some row' → (i : Int) ∈ row' → ∃ row2, (B.set j (row ++ [(i : Int)]))[a]? = some row2 ∧ (i : Int) ∈ row2 := by
      intro a row' h1 h2
      by_cases ea : a = j
      · subst ea
        exact ⟨_, by rw [List.getElem?_set_self hjB], by simp⟩
      · exact ⟨row', by rw [List.getElem?_set_ne (fun e => ea e.symm)]; exact h1, h2⟩
    by_cases em : m = r
    · subst em
      rw [hx] at hy
      cases hy
      rw [hs] at hs'
      cases hs'
      exact ⟨j, _, hj, by rw [List.getElem?_set_self hjB], by simp⟩
    · obtain ⟨a, row', h1, h2, h3⟩ := k.cur m y e' (by omega) hy hs'
      obtain ⟨row2, h4, h5⟩ := keep a row' h2 h3
      exact ⟨a, row2, h1, h4, h5⟩
  · rcases set_get hr with ⟨rfl, rfl⟩ | ⟨_, h2⟩
    · have := k.few _ _ hB
      rw [List.length_append, List.length_singleton]
      omega
    · have := k.few _ _ h2
      omega
theorem BfP.turn {R : List Q4} {L B : List (List Int)} {i : Nat} {d d' : List Int} {idx idx' : List Int} (k : BfP R L B i d idx idx.length) (hd : L[i]? = some d) (hn : L.Nodup) (hi : idx.length ≤ 15) (hall : ∀ x e, step R d x = some e → x ∈ idx) : BfP R L B (i + 1) d' idx' 0 := by
  refine ⟨k.len, k.fwd, fun a j ha he => ?_, fun m x e hm => absurd hm (Nat.not_lt_zero _), fun j row hr => by have := k.few j row hr; omega⟩
  by_cases ea : a = i
  · subst ea
    obtain ⟨d1, e, x, h1, h2, h3⟩ := he
    rw [hd] at h1
    cases h1
    obtain ⟨m, hm, em⟩ := List.getElem_of_mem (hall x e h3)
    obtain ⟨j', row, h4, h5, h6⟩ := k.cur m x e hm (by rw [List.getElem?_eq_getElem hm, em]) h3
    have hj := (List.getElem?_eq_some_iff.1 h4).1
    have : j' = j := (List.getElem?_inj hj hn).1 (h4.trans h2.symm)
    subst this
    exact ⟨row, h5, h6⟩
  · exact k.bwd a j (by omega) he
theorem BfP.done {R : List Q4} {L B : List (List Int)} {i : Nat} {d : List Int} {idx : List Int} (k : BfP R L B i d idx 0) (hi : i = L.length) (hL : L.length ≤ 100000) : BfOk R L B := by
  subst hi
  refine ⟨k.len, fun i hi x hx => k.fwd i _ (List.getElem?_eq_getElem hi) x hx, fun a j he => ?_, fun i hi => ?_⟩
  · obtain ⟨row, h1, h2⟩ := k.bwd a j he.lt.1 he
    obtain ⟨hj, e⟩ := List.getElem?_eq_some_iff.1 h1
    exact ⟨hj, by rw [e]; exact h2⟩
  · have := k.few i _ (List.getElem?_eq_getElem hi)
    omega
end Go.Proofs.Ytpiplaicnbapbaa
namespace Go.Proofs.Ytpiplaicnbapbaa
open Go.Rx Go.RowKit
def h66 (h : Hp) (bp : List Value) (c5 : List Int) : Hp := ((((((h.lay (.row 25 true bp)).lay (.row 107 true (c5.map int))).lay (.row 104 true [nilS, nilS])).lay (.row 104 true [nilS, nilS])).lay (.map [] 0)).lay (.row 137 true [mapAt (h.next + 4)])).lay (.row 121 true [fnote (h.next + 5) (h.next + 3)])
theorem h66_next (h : Hp) (bp : List Value) (c5 : List Int) : (h66 h bp c5).next = h.next + 7 := by
  unfold h66
  simp only [Hp.next_lay]
theorem RPM.start (h : Hp) (bp : List Value) (c5 : List Int) : RPM h (h66 h bp c5) h.next (h.next + 2) (h.next + 3) (h.next + 5) (h.next + 6) (h.next + 4) bp nilS nilS [] [] [] (fun _ => none) 0 nilS nilS [] := by
  have nx := h66_next h bp c5
  refine ⟨?_, ?_, ?_, ?_, ?_, ?_, ?_, BuiltC.nil, BuiltC.nil, rfl, fun k u l e => by simp at e, by omega, by omega, ?_⟩
  · exact ((((((Grows.lay _ _).then_lay _).then_lay _).then_lay _).then_lay _).then_lay _).then_lay _
  · exact Hp.at_lay_old _ (Hp.at_lay_old _ (Hp.at_lay_old _ (Hp.at_lay_old _ (Hp.at_lay_old _ (Hp.at_lay_old _ (Hp.at_lay_self _ _))))))
  · exact at_nx2 (by simp only [Hp.next_lay]) (Hp.at_lay_old _ (Hp.at_lay_old _ (Hp.at_lay_old _ (Hp.at_lay_old _ (Hp.at_lay_self ((h.lay (.row 25 true bp)).lay (.row 107 true (c5.map int))) _)))))
  · exact at_nx2 (by simp only [Hp.next_lay]) (Hp.at_lay_old _ (Hp.at_lay_old _ (Hp.at_lay_old _ (Hp.at_lay_self (((h.lay (.row 25 true bp)).lay (.row 107 true (c5.map int))).lay (.row 104 true [nilS, nilS])) _))))
  · exact at_nx2 (by simp only [Hp.next_lay]) (Hp.at_lay_old _ (Hp.at_lay_self (((((h.lay (.row 25 true bp)).lay (.row 107 true (c5.map int))).lay (.row 104 true [nilS, nilS])).lay (.row 104 true [nilS, nilS])).lay (.map [] 0)) _))
  · exact at_nx2 (by simp only [Hp.next_lay]) (Hp.at_lay_self ((((((h.lay (.row 25 true bp)).lay (.row 107 true (c5.map int))).lay (.row 104 true [nilS, nilS])).lay (.row 104 true [nilS, nilS])).lay (.map [] 0)).lay (.row 137 true [mapAt (h.next + 4)])) _)
  · refine ⟨[], 0, ?_, fun _ => rfl, rfl⟩
    exact at_nx2 (by simp only [Hp.next_lay]) (Hp.at_lay_old _ (Hp.at_lay_old _ (Hp.at_lay_self ((((h.lay (.row 25 true bp)).lay (.row 107 true (c5.map int))).lay (.row 104 true [nilS, nilS])).lay (.row 104 true [nilS, nilS])) _)))
  · refine ⟨fun v hv r e => ?_, fun u hu => by simp at hu, fun i j v u hij hi hj => ?_, fun v hv u hu => by simp at hu⟩
    · simp at hv
      rcases hv with rfl | rfl | rfl | rfl | rfl | rfl | rfl <;> cases e <;> omega
    · intro r e1 e2
      have hi8 := (List.getElem?_eq_some_iff.1 hi).1
      have hj8 := (List.getElem?_eq_some_iff.1 hj).1
      have key : ∀ (i : Nat) (v : Value), (pl h.next :: pl (h.next + 2) :: pl (h.next + 3) :: pl (h.next + 5) :: pl (h.next + 6) :: pl (h.next + 4) :: nilS :: nilS :: [])[i]? = some v → ad v = some r → (i = 0 ∧ r = h.next) ∨ (i = 1 ∧ r = h.next + 2) ∨ (i = 2 ∧ r = h.next + 3) ∨ (i = 3 ∧ r = h.next + 5) ∨ (i = 4 ∧ r = h.next + 6) ∨ (i = 5 ∧ r = h.next + 4) := by
        intro i v hi e
        match i, hi with
        | 0, hi => cases hi; cases e; simp
        | 1, hi => cases hi; cases e; simp
        | 2, hi => cases hi; cases e; simp
        | 3, hi => cases hi; cases e; simp
        | 4, hi => cases hi; cases e; simp
        | 5, hi => cases hi; cases e; simp
        | 6, hi => cases hi; cases e
        | 7, hi => cases hi; cases e
        | n + 8, hi => simp at hi
      have k1 := key i v hi e1
      have k2 := key j u hj e2
      omega
structure PS where
  cs : Value
  bv : Value
  us : List Value
  L : List (List Int)
  B : List (List Int)
  f : K5 → Option Value
  H : Hp
structure Rd (h : Hp) (bp : List Value) (R : List Q4) (n : Nat) (c : List Int) (s : PS) (i r : Nat) (d : List Int) (idx : List Int) (A8 z : Nat) (ms es : List Nat) : Prop where
  m : RPM h s.H h.next (h.next + 2) (h.next + 3) (h.next + 5) (h.next + 6) (h.next + 4) bp s.cs s.bv s.us s.L s.B s.f s.L.length s.cs s.bv (es ++ A8 :: ms)
  ix : IxOf kk s.L s.f
  a8 : s.H.at A8 = some (.row 3 true [int z])
  h8 : h.next + 7 ≤ A8
  mks : ∀ d ∈ ms, s.H.at d = some .noDefers
  nd : ms.Nodup
  ge : ∀ d ∈ ms, h.next + 7 ≤ d
  g : Gp R n c s.L i
  b : BfP R s.L s.B i d idx r
  il : i ≤ s.L.length
section
variable {h : Hp} {bp : List Value} {R : List Q4} {n : Nat} {c : List Int} {cs bv : Value} {us : List Value} {L B : List (List Int)} {f : K5 → Option Value} {H H' : Hp} {i r : Nat} {d : List Int} {idx : List Int} {A8 z : Nat} {ms es : List Nat}
theorem Rd.ext (k : Rd h bp R n c ⟨cs, bv, us, L, B, f, H⟩ i r d idx A8 z ms es) (g : Grows H H') : Rd h bp R n c ⟨cs, bv, us, L, B, f, H'⟩ i r d idx A8 z ms es :=
  ⟨k.m.ext g, k.ix, g.at_ _ _ k.a8, k.h8, fun d hd => g.at_ _ _ (k.mks d hd), k.nd, k.ge, k.g, k.b, k.il⟩
theorem Rd.keep {l : Nat} (k : Rd h bp R n c ⟨cs, bv, us, L, B, f, H⟩ i r d idx A8 z ms es) (hl : l ∈ es) (h8 : A8 ≠ l) (hm : l ∉ ms) (h7 : h.next ≤ l) (y : Keeps l H H') : Rd h bp R n c ⟨cs, bv, us, L, B, f, H'⟩ i r d idx A8 z ms es :=
  ⟨k.m.other (d := l) (by simp [hl]) (Kx.keeps y) (y.grows k.m.gr h7) (by rw [y.next]; exact Nat.le_refl _), k.ix, y.at_ _ _ h8 k.a8, k.h8, fun d hd => y.at_ _ _ (fun e => hm (e ▸ hd)) (k.mks d hd), k.nd, k.ge, k.g, k.b, k.il⟩
end
end Go.Proofs.Ytpiplaicnbapbaa
namespace Go.Proofs.Ytpiplaicnbapbaa
open Go.Rx Go.RowKit
theorem elemsC_ext {h h' : Hp} {s m : Nat} {x : Value} {new : List Value} (g : Grows h h') (k : ElemsC h s x m new) : ElemsC h' s x m new := by
  obtain ⟨h1, h2, h3, h4⟩ := k
  refine ⟨h1, ?_, h3, h4⟩
  cases x with
  | slice a n c =>
    cases a with
    | none => exact h2
    | some ad =>
      obtain ⟨r, o, sp⟩ := ad
      unfold helems at h2 ⊢
      dsimp only at h2 ⊢
      split at h2
      · exact h2
      · exact g.cells h2
  | _ => exact h2
def C4 (h : Hp) (v : Value) (n : Nat) (l : List Int) : Prop := (∃ a, v = .slice a n n) ∧ ∀ k, k ≤ n → ∃ x, ElemsC h 4 x k ((l.take (k * 4)).map int) ∧ (∀ h', Grows h h' → hcutS h' 4 v none (some (int k)) none = .val x h') ∧ sameV 4 x x = true
theorem C4.ext {h h' : Hp} {v : Value} {n : Nat} {l : List Int} (k : C4 h v n l) (g : Grows h h') : C4 h' v n l :=
  ⟨k.1, fun j hj => let ⟨x, h1, h2, h3⟩ := k.2 j hj; ⟨x, elemsC_ext g h1, fun h2' g2 => h2 h2' (g.trans g2), h3⟩⟩
theorem C4.of {h0 h : Hp} {v : Value} {n : Nat} {l : List Int} (k : BuiltC h0 h 96 4 v n (l.map int)) : C4 h v n l := by
  obtain ⟨hl, hb⟩ := k
  rw [List.length_map] at hl
  have hbd : ∀ j : Nat, BdOf none (some (int j)) n 0 j := fun j => ⟨.inl ⟨rfl, rfl⟩, .inr rfl⟩
  rcases hb with ⟨rfl, rfl⟩ | ⟨r, rfl, -, x, hr⟩
  · refine ⟨⟨_, rfl⟩, fun j hj => ⟨.slice none 0 0, ?_, fun h' _ => ?_, sameV_slice _ _ _⟩⟩
    · have : j = 0 := by omega
      subst this
      exact ⟨rfl, rfl, rfl, rfl⟩
    · have : j = 0 := by omega
      subst this
      unfold hcutS
      dsimp only
      rw [bounds_of (len := 0) (i := 0) (j := 0) ⟨.inl ⟨rfl, rfl⟩, .inr rfl⟩ (by omega) (by omega) (Nat.le_refl _)]
      rfl
  · refine ⟨⟨_, rfl⟩, fun k hk => ?_⟩
    have hlen : ((l.take (k * 4)).map int).length = k * 4 := by rw [List.length_map, List.length_take]; omega
    have el : ∀ x, x = slc r 0 k n ∨ x = void ∧ k = 0 → ElemsC h 4 x k ((l.take (k * 4)).map int) := by
      rintro x (rfl | ⟨rfl, rfl⟩)
      · refine ⟨rfl, ?_, hlen, ints_one _⟩
        show cellsAt h r 0 (k * 4) = _
        rw [cellsAt_row hr (by rw [List.length_map]; omega), List.drop_zero, List.map_take]
      · exact ⟨rfl, rfl, by simp, by simp⟩
    have shape : ∀ h', Grows h h' → hcutS h' 4 (slc r 0 n n) none (some (int k)) none = hcutObj h' 4 r 0 true (some (0, k, n)) (some (.row 96 x (l.map int))) := by
      intro h' g
      unfold hcutS
      dsimp only [slc]
      rw [bounds_of (hbd k) (by omega) hk (Nat.le_refl _)]
      show hcutObj h' 4 r 0 true (some (0, k, n)) (h'.at r) = _
      rw [g.at_ _ _ hr]
    have opened : ∃ y, (y = slc r 0 k n ∨ y = void ∧ k = 0) ∧ ∀ h', hcutObj h' 4 r 0 true (some (0, k, n)) (some (.row 96 x (l.map int))) = .val y h' := by
      cases x with
      | true =>
        refine ⟨slc r 0 k n, .inl rfl, fun h' => ?_⟩
        have e0 : cutTo 4 0 0 n = 0 := by
          unfold cutTo
          cases Nat.beq n 0 <;> rfl
        unfold hcutObj cutExact
        dsimp only
        rw [e0]
        rfl
      | false =>
        show ∃ y, (y = slc r 0 k n ∨ y = void ∧ k = 0) ∧ ∀ h', lift (cutOf D0 4 r 0 true (some (0, k, n))) h' = .val y h'
        unfold cutOf cutOpen
        dsimp only
        cases hble : Nat.ble (Nat.succ 0) n with
        | true => exact ⟨_, .inl rfl, fun h' => rfl⟩
        | false =>
          have hn : ¬ 1 ≤ n := fun hle => by rw [Nat.ble_eq_true_of_le hle] at hble; cases hble
          unfold cutAll
          have e1 : Nat.sub k 0 = 0 := by show k - 0 = 0; omega
          have e2 : Nat.sub n 0 = 0 := by show n - 0 = 0; omega
          rw [e1, e2]
          exact ⟨_, .inr ⟨rfl, by omega⟩, fun h' => rfl⟩
    obtain ⟨y, hy, hy2⟩ := opened
    refine ⟨y, el y hy, fun h' g => by rw [shape h' g, hy2 h'], ?_⟩
    rcases hy with rfl | ⟨rfl, _⟩ <;> exact sameV_slice _ _ _
def PX (h : Hp) (v : Value) (p : Prot) : Prop := ∃ vo vs vr, v = pval p.n vo vs vr ∧ View h vo p.out ∧ View h vs p.start ∧ C4 h vr p.rules.length (flat4 p.rules)
theorem PX.of {h : Hp} {v : Value} {p : Prot} (k : PV h v p) : PX h v p := by
  obtain ⟨a, b, c, e, h1, h2, h3⟩ := k
  exact ⟨a, b, c, e, h1.view, h2.view, C4.of h3⟩
theorem PX.ext {h h' : Hp} {v : Value} {p : Prot} (g : Grows h h') (k : PX h v p) : PX h' v p := by
  obtain ⟨a, b, c, e, h1, h2, h3⟩ := k
  exact ⟨a, b, c, e, h1.ext g, h2.ext g, h3.ext g⟩
theorem nodup_sub : ∀ {l m : List (List Int)}, l.Nodup → (∀ x ∈ l, x ∈ m) → l.length ≤ m.length
  | [], m, _, _ => Nat.zero_le _
  | x :: l, m, hn, hs => by
    have hc := List.nodup_cons.1 hn
    have hx : x ∈ m := hs x (by simp)
    have h1 := nodup_sub (l := l) (m := m.erase x) hc.2 (fun y hy => by
      have hne : y ≠ x := fun e => hc.1 (e ▸ hy)
      exact (List.mem_erase_of_ne hne).2 (hs y (by simp [hy])))
    rw [List.length_erase_of_mem hx] at h1
    have := List.length_pos_of_mem hx
    simp only [List.length_cons]
    omega
theorem Gr.len_uniq {R : List Q4} {c : List Int} {L L' : List (List Int)} (g : Gr R c L) (g' : Gr R c L') : L.length = L'.length :=
  Nat.le_antisymm (nodup_sub g.nodup fun x hx => g'.mem.2 (g.mem.1 hx)) (nodup_sub g'.nodup fun x hx => g.mem.2 (g'.mem.1 hx))
attribute [local irreducible] E idxN cellAt cellsAt storeAt callable helems hmoved lookIn findKey keyOk hentries Hp.at Hp.set Hp.lay arBits hupdated setAt CallP YieldP BoolOf IsWrap Rnd LoopP AppP CutP Int.tmod Int.tdiv Int.fdiv
section
variable [Unknowns]
attribute [local irreducible] ResP sameAt finP
theorem ownX_spec (v : Value) (p : Prot) (h : Hp) (hv : PX h v p) (ho : p.out.length < 9223372036854775808) (hs : p.start.length < 9223372036854775808) (hr : p.rules.length < 9223372036854775808) : CallP E 17 [v] h (fun r h' => PV h' r ⟨p.n, p.out.take 6, p.start.take 3, p.rules.take 16⟩ ∧ Grows h h') := by
  obtain ⟨n, out, start, rules⟩ := p
  obtain ⟨vo, vs, vr, rfl, k1, k2, k3⟩ := hv
  dsimp only at ho hs hr k1 k2 k3 ⊢
  obtain ⟨ao, co, rfl⟩ := k1.known
  obtain ⟨az, cz, rfl⟩ := k2.known
  obtain ⟨ar, rfl⟩ := k3.1
  unfold pval
  refine enter17 (by simp) ?_
  have hexb : ∃ bx : List Value, bx = [int n, .slice ao out.length co, .slice az start.length cz, .slice ar rules.length rules.length] := ⟨_, rfl⟩
  obtain ⟨bx, ebx⟩ := hexb
  have b0 : bx[0]? = some (int n) := by rw [ebx]; rfl
  have b1 : bx[1]? = some (.slice ao out.length co) := by rw [ebx]; rfl
  have b2 : bx[2]? = some (.slice az start.length cz) := by rw [ebx]; rfl
  have b3 : bx[3]? = some (.slice ar rules.length rules.length) := by rw [ebx]; rfl
  rw [← ebx]
  clear ebx
  have hat : ((h.lay (.row 25 true bx)).lay (.row 26 true [int 0, .slice none 0 0, .slice none 0 0, .slice none 0 0])).at h.next = some (.row 25 true bx) := Hp.at_lay_old _ (Hp.at_lay_self _ _)
  have g0 : Grows h ((h.lay (.row 25 true bx)).lay (.row 26 true [int 0, .slice none 0 0, .slice none 0 0, .slice none 0 0])) := (Grows.lay _ _).then_lay _
  have hlen4 : (flat4 rules).length = rules.length * 4 := flat4_len _
  conv => whnf
  repeat (refine SeqP.go ?_; conv => whnf)
  refine ⟨_, cellAt_row hat b0, ?_⟩
  conv => whnf
  refine ⟨_, cellAt_row hat b1, ?_⟩
  conv => whnf
  refine CallP.mono (few_spec _ out _ (k1.ext g0) ho 6 (by omega)) ?_
  rintro r1 H1 ⟨hb1, g1⟩
  have at1 := g1.at_ _ _ hat
  conv => whnf
  refine ⟨_, cellAt_row at1 b2, ?_⟩
  conv => whnf
  refine CallP.mono (few_spec _ start _ (k2.ext (g0.trans g1)) hs 3 (by omega)) ?_
  rintro r2 H2 ⟨hb2, g2⟩
  have g02 := (g0.trans g1).trans g2
  have at2 := g2.at_ _ _ at1
  conv => whnf
  refine ⟨_, cellAt_row at2 b3, ?_⟩
  conv => whnf
  refine ⟨_, cellAt_row at2 b3, ?_⟩
  conv => whnf
  have hcut := (k3.ext g0).2 (min rules.length 16) (Nat.min_le_left _ _)
  obtain ⟨vx, -, hx2, hx3⟩ := hcut
  have hcut' := (k3.ext g02).2 (min rules.length 16) (Nat.min_le_left _ _)
  obtain ⟨vx', hx1, hx2', -⟩ := hcut'
  have evx : vx' = vx := by
    have := (hx2' H2 (.refl _)).symm.trans (hx2 H2 (g1.trans g2))
    injection this
  subst evx
  have cutl : ∀ H', Grows ((h.lay (.row 25 true bx)).lay (.row 26 true [int 0, .slice none 0 0, .slice none 0 0, .slice none 0 0])) H' → hcutS H' 4 (.slice ar rules.length rules.length) none (some (Value.int .i64 (if (16 : Int) < (rules.length : Int) then 16 else (rules.length : Int)))) none = .val vx' H' := by
    intro H' g
    rw [show (if (16 : Int) < (rules.length : Int) then (16 : Int) else (rules.length : Int)) = ((min rules.length 16 : Nat) : Int) by split <;> omega]
    exact hx2 H' g
  refine CutP.val (v' := vx') (cutl H2 (g1.trans g2)) ?_
  conv => whnf
  refine AppP.cells (h0 := H2) BuiltC.nil (.refl _) hx1 (by omega) (by omega) ?_
  intro r3 H3 hb3 g3 _
  rw [Nat.zero_add, List.nil_append, flat4_take] at hb3
  have hl16 : (rules.take 16).length = min rules.length 16 := by rw [List.length_take, Nat.min_comm]
  have etk : rules.take (min rules.length 16) = rules.take 16 := by
    by_cases hml : 16 ≤ rules.length
    · rw [Nat.min_eq_right hml]
    · rw [Nat.min_eq_left (by omega), List.take_of_length_le (Nat.le_refl _), List.take_of_length_le (by omega)]
  rw [etk, ← hl16] at hb3
  have at3 := g3.at_ _ _ at2
  have g03 := g02.trans g3
  have ho1 : ((h.lay (.row 25 true bx)).lay (.row 26 true [int 0, .slice none 0 0, .slice none 0 0, .slice none 0 0])).at (h.next + 1) = some (.row 26 true [int 0, .slice none 0 0, .slice none 0 0, .slice none 0 0]) := at_nx2 (Hp.next_lay _ _) (Hp.at_lay_self _ _)
  have ho3 := g3.at_ _ _ (g2.at_ _ _ (g1.at_ _ _ ho1))
  have hb1' := (LV.of hb1).known
  obtain ⟨a1, rfl⟩ := hb1'
  have hb2' := (LV.of hb2).known
  obtain ⟨a2, rfl⟩ := hb2'
  have hb3' := hb3.slice
  obtain ⟨a3, rfl, -⟩ := hb3'
  conv => whnf
  refine ⟨rfl, _, storeAt_full (vs := [int n, .slice a1 (out.take 6).length (out.take 6).length, .slice a2 (start.take 3).length (start.take 3).length, .slice a3 (rules.take 16).length (rules.take 16).length]) (at_nx2 (Hp.next_lay _ _).symm ho3) rfl rfl rfl, ?_⟩
  have okl : ∀ (H' : Hp) (i : Nat) (v : Value), Grows ((h.lay (.row 25 true bx)).lay (.row 26 true [int 0, .slice none 0 0, .slice none 0 0, .slice none 0 0])) H' → bx[i]? = some v → hval H' (cellAt H' h.next i) = .val v H' := fun H' i v g e => by
    rw [cellAt_row (g.at_ _ _ hat) e]
    rfl
  have g12 := g1.trans g2
  have g13 := g12.trans g3
  conv => whnf
  refine ⟨?_, ?_⟩
  · repeat' (first | exact True.intro | (refine And.intro ?_ ?_ <;> (conv => whnf)))
    all_goals first
      | exact sameAt_val (h2 := _) rfl (sameV_ptr3 _ _)
      | exact sameAt_val (h2 := _) rfl (sameV_slice _ _ _)
      | exact sameAt_val (h2 := _) (okl _ 0 _ (Grows.refl _) b0) (sameV_int _)
      | exact sameAt_val (h2 := _) (okl _ 0 _ g1 b0) (sameV_int _)
      | exact sameAt_val (h2 := _) (okl _ 0 _ g12 b0) (sameV_int _)
      | exact sameAt_val (h2 := _) (okl _ 0 _ g13 b0) (sameV_int _)
      | exact sameAt_val (h2 := _) (okl _ 2 _ (Grows.refl _) b2) (sameV_slice _ _ _)
      | exact sameAt_val (h2 := _) (okl _ 2 _ g1 b2) (sameV_slice _ _ _)
      | exact sameAt_val (h2 := _) (okl _ 2 _ g12 b2) (sameV_slice _ _ _)
      | exact sameAt_val (h2 := _) (okl _ 2 _ g13 b2) (sameV_slice _ _ _)
      | exact sameAt_val (h2 := _) (okl _ 3 _ (Grows.refl _) b3) (sameV_slice _ _ _)
      | exact sameAt_val (h2 := _) (okl _ 3 _ g1 b3) (sameV_slice _ _ _)
      | exact sameAt_val (h2 := _) (okl _ 3 _ g12 b3) (sameV_slice _ _ _)
      | exact sameAt_val (h2 := _) (okl _ 3 _ g13 b3) (sameV_slice _ _ _)
      | exact sameAt_val (h2 := _) rfl (sameV_int _)
      | exact sameAt_val (h2 := _) (cutl _ (Grows.refl _)) hx3
      | exact sameAt_val (h2 := _) (cutl _ g1) hx3
      | exact sameAt_val (h2 := _) (cutl _ g12) hx3
      | exact sameAt_val (h2 := _) (cutl _ g13) hx3
      | trace_state
  conv => whnf
  repeat (refine SeqP.go ?_; conv => whnf)
  obtain ⟨i26, t26, ag26, sz26⟩ := ty26
  refine leave_cell (r := h.next + 1) (o := 0) (cs := [int n, .slice a1 (out.take 6).length (out.take 6).length, .slice a2 (start.take 3).length (start.take 3).length, .slice a3 (rules.take 16).length (rules.take 16).length]) ?_ t26 ag26 ?_ ?_
  · exact congrArg (fun k => ptr k 0) (Hp.next_lay _ _)
  · rw [sz26]
    refine four_cells (at_nx2 (Hp.next_lay _ _) (Hp.at_set_self _ ?_))
    rw [Hp.next_lay]
    exact Hp.lt_of_at ho3
  · have n0 : (h.lay (.row 25 true bx)).next = h.next + 1 := Hp.next_lay _ _
    have n1 : ((h.lay (.row 25 true bx)).lay (.row 26 true [int 0, .slice none 0 0, .slice none 0 0, .slice none 0 0])).next = h.next + 2 := by rw [Hp.next_lay, n0]
    have m1 := g1.next
    have m2 := g2.next
    refine ⟨⟨_, _, _, rfl, LV.of (built_set_lt (hb1.ext (g2.trans g3)) ?_), LV.of (built_set_lt (hb2.ext g3) ?_), RV.of (builtC_set_lt hb3 ?_)⟩, g03.then_set _ ?_⟩
    · rw [n0, n1]; omega
    · rw [n0]; omega
    · rw [n0]; omega
    · rw [n0]; omega
end
end Go.Proofs.Ytpiplaicnbapbaa
namespace Go.Proofs.Ytpiplaicnbapbaa
open Go.Rx Go.RowKit
def majP : Prot := ⟨4, [1, 0, 1, 0], [0, 1], [⟨0, 1, 3, 3⟩, ⟨0, 3, 0, 2⟩, ⟨1, 2, 1, 3⟩, ⟨2, 3, 3, 3⟩]⟩
def PN (h h' : Hp) (r : Value) (p : Prot) : Prop := ∃ A B C x y z, r = pval p.n (slc A 0 p.out.length p.out.length) (slc B 0 p.start.length p.start.length) (slc C 0 p.rules.length p.rules.length) ∧ h'.at A = some (.row 3 x (p.out.map int)) ∧ h'.at B = some (.row 3 y (p.start.map int)) ∧ h'.at C = some (.row 96 z ((flat4 p.rules).map int)) ∧ h.next ≤ A ∧ h.next ≤ B ∧ h.next ≤ C ∧ A ≠ B
theorem PN.pv {h h' : Hp} {r : Value} {p : Prot} (k : PN h h' r p) : PV h' r p := by
  obtain ⟨A, B, C, x, y, z, e, h1, h2, h3, h4, h5, h6, -⟩ := k
  exact ⟨_, _, _, e, .inr ⟨A, rfl, Nat.zero_le _, x, h1⟩, .inr ⟨B, rfl, Nat.zero_le _, y, h2⟩, by rw [List.length_map, flat4_len], .inr ⟨C, rfl, Nat.zero_le _, z, h3⟩⟩
attribute [local irreducible] E idxN cellAt cellsAt storeAt callable helems hmoved lookIn findKey keyOk hentries Hp.at Hp.set Hp.lay arBits hupdated setAt CallP YieldP BoolOf IsWrap Rnd LoopP AppP CutP Int.tmod Int.tdiv Int.fdiv
section
variable [Unknowns]
attribute [local irreducible] ResP sameAt finP
theorem majority_spec (h : Hp) : CallP E 58 [] h (fun r h' => PN h h' r majP ∧ Grows h h') := by
  refine enter58 (by simp) ?_
  conv => whnf
  refine SeqP.go ?_
  conv => whnf
  repeat (refine SeqP.go ?_; conv => whnf)
  have a0 : ((((h.lay (.row 25 true [int 0, nilS, nilS, nilS])).lay (.row 3 true ([1, 0, 1, 0].map int))).lay (.row 3 true ([0, 1].map int))).lay (.row 96 true ((flat4 majP.rules).map int))).at h.next = some (.row 25 true [int 0, nilS, nilS, nilS]) := Hp.at_lay_old _ (Hp.at_lay_old _ (Hp.at_lay_old _ (Hp.at_lay_self _ _)))
  have a1 : ((((h.lay (.row 25 true [int 0, nilS, nilS, nilS])).lay (.row 3 true ([1, 0, 1, 0].map int))).lay (.row 3 true ([0, 1].map int))).lay (.row 96 true ((flat4 majP.rules).map int))).at (h.next + 1) = some (.row 3 true ([1, 0, 1, 0].map int)) := at_nx2 (by simp only [Hp.next_lay]) (Hp.at_lay_old _ (Hp.at_lay_old _ (Hp.at_lay_self (h.lay (.row 25 true [int 0, nilS, nilS, nilS])) _)))
  have a2 : ((((h.lay (.row 25 true [int 0, nilS, nilS, nilS])).lay (.row 3 true ([1, 0, 1, 0].map int))).lay (.row 3 true ([0, 1].map int))).lay (.row 96 true ((flat4 majP.rules).map int))).at (h.next + 2) = some (.row 3 true ([0, 1].map int)) := at_nx2 (by simp only [Hp.next_lay]) (Hp.at_lay_old _ (Hp.at_lay_self ((h.lay (.row 25 true [int 0, nilS, nilS, nilS])).lay (.row 3 true ([1, 0, 1, 0].map int))) _))
  have a3 : ((((h.lay (.row 25 true [int 0, nilS, nilS, nilS])).lay (.row 3 true ([1, 0, 1, 0].map int))).lay (.row 3 true ([0, 1].map int))).lay (.row 96 true ((flat4 majP.rules).map int))).at (h.next + 3) = some (.row 96 true ((flat4 majP.rules).map int)) := at_nx2 (by simp only [Hp.next_lay]) (Hp.at_lay_self (((h.lay (.row 25 true [int 0, nilS, nilS, nilS])).lay (.row 3 true ([1, 0, 1, 0].map int))).lay (.row 3 true ([0, 1].map int))) _)
  have g0 : Grows h ((((h.lay (.row 25 true [int 0, nilS, nilS, nilS])).lay (.row 3 true ([1, 0, 1, 0].map int))).lay (.row 3 true ([0, 1].map int))).lay (.row 96 true ((flat4 majP.rules).map int))) := (((Grows.lay _ _).then_lay _).then_lay _).then_lay _
  refine ⟨rfl, _, storeAt_full (vs := [int 4, slc _ 0 4 4, slc _ 0 2 2, slc _ 0 4 4]) a0 rfl rfl rfl, ?_⟩
  conv => whnf
  obtain ⟨i25, t25, ag25, sz25⟩ := ty25
  refine leave_cell rfl t25 ag25 (by rw [sz25]; exact all_cells (Hp.at_set_self _ (Hp.lt_of_at a0)) rfl) ⟨⟨_, _, _, true, true, true, rfl, ?_, ?_, ?_, by simp only [Hp.next_lay]; omega, by simp only [Hp.next_lay]; omega, by simp only [Hp.next_lay]; omega, by simp only [Hp.next_lay]; omega⟩, g0.then_set _ (Nat.le_refl _)⟩
  · rw [Hp.at_set_ne _ (by simp only [Hp.next_lay]; omega)]; exact at_nx2 (by simp only [Hp.next_lay]) a1
  · rw [Hp.at_set_ne _ (by simp only [Hp.next_lay]; omega)]; exact at_nx2 (by simp only [Hp.next_lay]) a2
  · rw [Hp.at_set_ne _ (by simp only [Hp.next_lay]; omega)]; exact at_nx2 (by simp only [Hp.next_lay]) a3
end
end Go.Proofs.Ytpiplaicnbapbaa
namespace Go.Proofs.Ytpiplaicnbapbaa
open Go.Rx Go.RowKit
theorem storeAt_off {H : Hp} {r e : Nat} {x : Bool} {cs : List Value} {v : Value} {i : Nat} (hr : H.at r = some (.row e x cs)) (hi : i < cs.length) (h1 : oneCell v = true) : storeAt H r (offAt 0 i 1) [v] = some (H.set r (.row e x (cs.set i v))) := by
  rw [offAt_eq, Nat.zero_add, Nat.mul_one]
  exact storeAt_row hr hi h1
end Go.Proofs.Ytpiplaicnbapbaa
namespace Go.Proofs.Ytpiplaicnbapbaa
open Go.Rx Go.RowKit
structure RZ (h H : Hp) (tz Z : Nat) (ov sv rv : Value) (O S : List Int) (Q : List Q4) (cs : List Value) : Prop where
  gr : Grows h H
  z : H.at Z = some (.row tz true cs)
  o : BuiltC h H 3 1 ov O.length (O.map int)
  s : BuiltC h H 3 1 sv S.length (S.map int)
  r : BuiltC h H 96 4 rv Q.length ((flat4 Q).map int)
  hZ : h.next ≤ Z
  sep : Rx.Sep H [pl Z, ov, sv, rv] []
section
variable {h H H' : Hp} {tz Z : Nat} {ov sv rv : Value} {O S : List Int} {Q : List Q4} {cs : List Value}
theorem RZ.ext (k : RZ h H tz Z ov sv rv O S Q cs) (g : Grows H H') : RZ h H' tz Z ov sv rv O S Q cs :=
  ⟨k.gr.trans g, g.at_ _ _ k.z, k.o.ext g, k.s.ext g, k.r.ext g, k.hZ, k.sep.ext g⟩
theorem RZ.pv (k : RZ h H tz Z ov sv rv O S Q cs) {n : Int} : PV H (pval n ov sv rv) ⟨n, O, S, Q⟩ :=
  ⟨ov, sv, rv, rfl, LV.of k.o.b, LV.of k.s.b, k.r.back (Nat.zero_le _)⟩
theorem RZ.put (k : RZ h H tz Z ov sv rv O S Q cs) (cs' : List Value) : RZ h (H.set Z (.row tz true cs')) tz Z ov sv rv O S Q cs' := by
  have x : Kx (ad (pl Z)) H (H.set Z (.row tz true cs')) := Kx.set _ _ _
  have a := fun j v hj hv => k.sep.ap 0 j (pl Z) v hj rfl hv
  exact ⟨k.gr.then_set _ k.hZ, Hp.at_set_self _ (Hp.lt_of_at k.z), k.o.kx x (a 1 _ (by decide) rfl), k.s.kx x (a 2 _ (by decide) rfl), k.r.kx x (a 3 _ (by decide) rfl), k.hZ, k.sep.next (Nat.le_refl _)⟩
theorem RZ.s_app {z : Int} {b : Bool} {K : Value → Hp → Prop} (k : RZ h H tz Z ov sv rv O S Q cs) (hl : S.length ≤ 1000000)
    (q : ∀ sv' H', (∃ a n, sv' = .slice a n n) → RZ h H' tz Z ov sv' rv O (S ++ [z]) Q cs → K sv' H') : AppP E (H.lay (.row 3 b [int z])) 3 1 8 sv (slc H.next 0 1 1) K := by
  have k1 := k.ext (Grows.lay H (.row 3 b [int z]))
  refine AppP.cellsF k1.s k1.gr (elemsC_one (u := int z) rfl) (by omega) (by omega) (by omega) ?_
  intro v' H' hb' hg' hkeep ⟨r', er, hr'⟩
  have x := Kx.builtC k1.s hkeep
  have hv : ∀ r, ad v' = some r → (H.lay (.row 3 b [int z])).next ≤ r ∧ r < H'.next := fun r e => ⟨by rw [er] at e; cases e; exact hr', (hb'.ad_lt r e).2⟩
  have hnx : (H.lay (.row 3 b [int z])).next ≤ H'.next := by have := hv r' (by rw [er]; rfl); omega
  have a := fun j v hj hv => k1.sep.ap 2 j sv v hj rfl hv
  exact q _ _ ⟨_, _, er⟩ ⟨hg', ap_at (a := none) x k1.z (a 0 _ (by decide) rfl), k1.o.kx x (a 1 _ (by decide) rfl), by rw [List.length_append, List.map_append]; exact hb', k1.r.kx x (a 3 _ (by decide) rfl), k.hZ, k1.sep.move hnx 2 hv⟩
theorem RZ.r_app {z : Q4} {b : Bool} {K : Value → Hp → Prop} (k : RZ h H tz Z ov sv rv O S Q cs) (hl : Q.length ≤ 1000000)
    (q : ∀ rv' H', (∃ a n, rv' = .slice a n n) → RZ h H' tz Z ov sv rv' O S (Q ++ [z]) cs → K rv' H') : AppP E (H.lay (.row 96 b [int z.a, int z.b, int z.c, int z.d])) 96 4 32 rv (slc H.next 0 1 1) K := by
  have k1 := k.ext (Grows.lay H (.row 96 b [int z.a, int z.b, int z.c, int z.d]))
  refine AppP.cellsF k1.r k1.gr (m := 1) (new := [int z.a, int z.b, int z.c, int z.d]) ⟨rfl, all_cells (Hp.at_lay_self _ _) rfl, rfl, rfl⟩ (by omega) (by omega) (by omega) ?_
  intro v' H' hb' hg' hkeep ⟨r', er, hr'⟩
  have x := Kx.builtC k1.r hkeep
  have hv : ∀ r, ad v' = some r → (H.lay (.row 96 b [int z.a, int z.b, int z.c, int z.d])).next ≤ r ∧ r < H'.next := fun r e => ⟨by rw [er] at e; cases e; exact hr', (hb'.ad_lt r e).2⟩
  have hnx : (H.lay (.row 96 b [int z.a, int z.b, int z.c, int z.d])).next ≤ H'.next := by have := hv r' (by rw [er]; rfl); omega
  have a := fun j v hj hv => k1.sep.ap 3 j rv v hj rfl hv
  refine q _ _ ⟨_, _, er⟩ ⟨hg', ap_at (a := none) x k1.z (a 0 _ (by decide) rfl), k1.o.kx x (a 1 _ (by decide) rfl), k1.s.kx x (a 2 _ (by decide) rfl), ?_, k.hZ, k1.sep.move hnx 3 hv⟩
  rw [List.length_append, flat4_app, List.map_append]
  exact hb'
theorem RZ.o_set (k : RZ h H tz Z ov sv rv O S Q cs) {i : Nat} (hi : i < O.length) (z : Int) : ∃ r x, ov = slc r 0 O.length O.length ∧ storeAt H r (offAt 0 i 1) [int z] = some (H.set r (.row 3 x ((O.set i z).map int))) ∧ RZ h (H.set r (.row 3 x ((O.set i z).map int))) tz Z ov sv rv (O.set i z) S Q cs := by
  obtain ⟨hl, ⟨_, e1⟩ | ⟨r, er, h2, y, hr⟩⟩ := id k.o
  · omega
  · have x : Kx (ad ov) H (H.set r (.row 3 y ((O.set i z).map int))) := by rw [er]; exact Kx.set _ _ _
    have a := fun j v hj hv => k.sep.ap 1 j ov v hj rfl hv
    have st := storeAt_off (i := i) (v := int z) hr (by rw [List.length_map]; exact hi) rfl
    rw [show (O.map int).set i (int z) = (O.set i z).map int from by rw [List.map_set]] at st
    refine ⟨r, y, er, st, ⟨k.gr.then_set _ h2, ap_at (a := none) x k.z (a 0 _ (by decide) rfl), ⟨by rw [List.length_map, Nat.mul_one], .inr ⟨r, by rw [List.length_set]; exact er, h2, y, Hp.at_set_self _ (Hp.lt_of_at hr)⟩⟩, k.s.kx x (a 2 _ (by decide) rfl), k.r.kx x (a 3 _ (by decide) rfl), k.hZ, k.sep.next (Nat.le_refl _)⟩⟩
end
end Go.Proofs.Ytpiplaicnbapbaa
namespace Go.Proofs.Ytpiplaicnbapbaa
open Go.Rx Go.RowKit
def sg (n k x : Int) : Int := if x + k < n then x + k else x + k - n
def ig (n k x : Int) : Int := if x < k then x + n - k else x - k
theorem sg_bd {n k x : Int} (hk : 0 ≤ k ∧ k < n) (hx : 0 ≤ x ∧ x < n) : 0 ≤ sg n k x ∧ sg n k x < n := by unfold sg; split <;> omega
theorem ig_bd {n k x : Int} (hk : 0 ≤ k ∧ k < n) (hx : 0 ≤ x ∧ x < n) : 0 ≤ ig n k x ∧ ig n k x < n := by unfold ig; split <;> omega
theorem ig_sg {n k x : Int} (hk : 0 ≤ k ∧ k < n) (hx : 0 ≤ x ∧ x < n) : ig n k (sg n k x) = x := by unfold ig sg; split <;> split <;> omega
theorem sg_ig {n k x : Int} (hk : 0 ≤ k ∧ k < n) (hx : 0 ≤ x ∧ x < n) : sg n k (ig n k x) = x := by unfold ig sg; split <;> split <;> omega
def renp (n k : Nat) (l : List Int) (m : Nat) : List Int := (List.range m).map fun (s : Nat) => gl l (ig n k (s : Int)).toNat
def ren (n k : Nat) (l : List Int) : List Int := renp n k l n
theorem renp_len (n k : Nat) (l : List Int) (m : Nat) : (renp n k l m).length = m := by unfold renp; rw [List.length_map, List.length_range]
theorem ren_len (n k : Nat) (l : List Int) : (ren n k l).length = n := renp_len ..
theorem gl_ren {n k : Nat} {l : List Int} {i : Nat} (hi : i < n) : gl (ren n k l) i = gl l (ig n k i).toNat := by
  rw [gl_at (by rw [ren_len]; exact hi)]
  unfold ren renp
  rw [List.getElem_map, List.getElem_range]
theorem gl_ren_sg {n k : Nat} {l : List Int} {x : Int} (hk : k < n) (hx : 0 ≤ x ∧ x < n) : gl (ren n k l) (sg n k x).toNat = gl l x.toNat := by
  have h1 := sg_bd (n := n) (k := k) (x := x) (by omega) hx
  rw [gl_ren (by omega), show ((sg n k x).toNat : Int) = sg n k x by omega, ig_sg (by omega) hx]
theorem ext_gl {n : Nat} {l m : List Int} (hl : l.length = n) (hm : m.length = n) (h : ∀ i, i < n → gl l i = gl m i) : l = m := by
  refine List.ext_getElem (by omega) fun i h1 h2 => ?_
  have := h i (by omega)
  rw [gl_at h1, gl_at h2] at this
  exact this
theorem ren_inj {n k : Nat} {l m : List Int} (hk : k < n) (hl : l.length = n) (hm : m.length = n) (h : ren n k l = ren n k m) : l = m := by
  refine ext_gl hl hm fun i hi => ?_
  have h1 := gl_ren_sg (n := n) (k := k) (l := l) (x := i) hk (by omega)
  have h2 := gl_ren_sg (n := n) (k := k) (l := m) (x := i) hk (by omega)
  rw [h] at h1
  rw [h1] at h2
  simpa using h2
def qi (n k : Nat) (r : Q4) : Q4 := ⟨min (sg n k r.a) (sg n k r.b), max (sg n k r.a) (sg n k r.b), sg n k r.c, sg n k r.d⟩
theorem qi_in {n k : Nat} {r : Q4} (hk : k < n) (h : QIn n r) : QIn n (qi n k r) ∧ (qi n k r).a ≤ (qi n k r).b := by
  unfold QIn at h
  have h1 := sg_bd (n := n) (k := k) (x := r.a) (by omega) (by omega)
  have h2 := sg_bd (n := n) (k := k) (x := r.b) (by omega) (by omega)
  have h3 := sg_bd (n := n) (k := k) (x := r.c) (by omega) (by omega)
  have h4 := sg_bd (n := n) (k := k) (x := r.d) (by omega) (by omega)
  unfold QIn qi
  dsimp only
  omega
theorem sg_inj {n k : Nat} {x y : Int} (hk : k < n) (hx : 0 ≤ x ∧ x < n) (hy : 0 ≤ y ∧ y < n) (h : sg n k x = sg n k y) : x = y := by
  have h1 := ig_sg (n := n) (k := k) (x := x) (by omega) hx
  have h2 := ig_sg (n := n) (k := k) (x := y) (by omega) hy
  rw [h] at h1
  omega
theorem qi_allowed {n k : Nat} {r : Q4} {c : List Int} (hk : k < n) (h : QIn n r) : Allowed (ren n k c) (qi n k r) ↔ Allowed c r := by
  have hq := qin' h
  have g1 := gl_ren_sg (l := c) (k := k) hk hq.1
  have g2 := gl_ren_sg (l := c) (k := k) hk hq.2.1
  unfold Allowed
  by_cases e : r.a = r.b
  · have e2 : (qi n k r).a = (qi n k r).b := by unfold qi; dsimp only; rw [e]; omega
    have e3 : (qi n k r).a = sg n k r.a := by unfold qi; dsimp only; rw [e]; omega
    rw [if_pos e, if_pos e2, e3, g1]
  · have e1 : sg n k r.a ≠ sg n k r.b := fun x => e (sg_inj hk hq.1 hq.2.1 x)
    by_cases hlt : sg n k r.a < sg n k r.b
    · have a1 : (qi n k r).a = sg n k r.a := by unfold qi; dsimp only; omega
      have a2 : (qi n k r).b = sg n k r.b := by unfold qi; dsimp only; omega
      rw [if_neg e, if_neg (by omega), a1, a2, g1, g2]
    · have a1 : (qi n k r).a = sg n k r.b := by unfold qi; dsimp only; omega
      have a2 : (qi n k r).b = sg n k r.a := by unfold qi; dsimp only; omega
      rw [if_neg e, if_neg (by omega), a1, a2, g1, g2, and_comm]
theorem ind_sg {n k i : Nat} {x : Int} (hk : k < n) (hi : i < n) (hx : 0 ≤ x ∧ x < n) : ind i (sg n k x).toNat = ind (ig n k i).toNat x.toNat := by
  have h1 := sg_bd (n := n) (k := k) (x := x) (by omega) hx
  have h2 := ig_bd (n := n) (k := k) (x := i) (by omega) (by omega)
  by_cases e : i = (sg n k x).toNat
  · rw [ind_eq e]
    have : (i : Int) = sg n k x := by omega
    rw [this, ig_sg (by omega) hx, ind_eq rfl]
  · rw [ind_ne e, ind_ne]
    intro e2
    have : ig n k i = x := by omega
    have := sg_ig (n := n) (k := k) (x := i) (by omega) (by omega)
    subst x
    omega
theorem qi_after {n k : Nat} {r : Q4} {c : List Int} (hk : k < n) (h : QIn n r) (hc : c.length = n) : after (ren n k c) (qi n k r) = ren n k (after c r) := by
  have hq := qin' h
  have hqi := qi_in hk h
  refine ext_gl (n := n) (by rw [after_len, ren_len]) (ren_len ..) fun i hi => ?_
  have hb := ig_bd (n := n) (k := k) (x := i) (by omega) (by omega)
  rw [gl_after (ren_len ..) (qin hqi.1), gl_ren hi, gl_ren hi, gl_after hc (qin h)]
  rw [← ind_sg hk hi hq.1, ← ind_sg hk hi hq.2.1, ← ind_sg hk hi hq.2.2.1, ← ind_sg hk hi hq.2.2.2]
  have e3 : (qi n k r).c = sg n k r.c := rfl
  have e4 : (qi n k r).d = sg n k r.d := rfl
  rw [e3, e4]
  by_cases hlt : sg n k r.a ≤ sg n k r.b
  · have a1 : (qi n k r).a = sg n k r.a := by unfold qi; dsimp only; omega
    have a2 : (qi n k r).b = sg n k r.b := by unfold qi; dsimp only; omega
    rw [a1, a2]
  · have a1 : (qi n k r).a = sg n k r.b := by unfold qi; dsimp only; omega
    have a2 : (qi n k r).b = sg n k r.a := by unfold qi; dsimp only; omega
    rw [a1, a2]
    omega
theorem step_iff {R : List Q4} {c e : List Int} : (∃ i, step R c i = some e) ↔ ∃ r ∈ R, Allowed c r ∧ e = after c r := by
  constructor
  · rintro ⟨i, h⟩
    unfold step at h
    split at h
    · split at h
      · cases h
        exact ⟨_, List.getElem_mem _, by assumption, rfl⟩
      · cases h
    · cases h
  · rintro ⟨r, hr, ha, rfl⟩
    obtain ⟨i, hi, rfl⟩ := List.getElem_of_mem hr
    refine ⟨i, ?_⟩
    unfold step
    rw [dif_pos ⟨by omega, by omega⟩]
    simp only [Int.toNat_natCast]
    rw [if_pos ha]
section
variable {n k : Nat} {R Rz : List Q4}
structure Rn (n k : Nat) (R Rz : List Q4) : Prop where
  hk : k < n
  n4 : n ≤ 4
  hR : ∀ x ∈ R, QIn n x
  to : ∀ r ∈ R, qi n k r ∈ Rz
  back : ∀ q ∈ Rz, ∃ r ∈ R, q = qi n k r
theorem Rn.step (h : Rn n k R Rz) {c e : List Int} (hc : CrOk n c) (s : ∃ i, step R c i = some e) : ∃ i, step Rz (ren n k c) i = some (ren n k e) := by
  obtain ⟨r, hr, ha, rfl⟩ := step_iff.1 s
  exact step_iff.2 ⟨_, h.to r hr, (qi_allowed h.hk (h.hR r hr)).2 ha, (qi_after h.hk (h.hR r hr) hc.len).symm⟩
theorem Rn.unstep (h : Rn n k R Rz) {c f : List Int} (hc : CrOk n c) (s : ∃ i, Go.Proofs.Ytpiplaicnbapbaa.step Rz (ren n k c) i = some f) : ∃ e, f = ren n k e ∧ ∃ i, Go.Proofs.Ytpiplaicnbapbaa.step R c i = some e := by
  obtain ⟨q, hq, ha, rfl⟩ := step_iff.1 s
  obtain ⟨r, hr, rfl⟩ := h.back q hq
  exact ⟨_, qi_after h.hk (h.hR r hr) hc.len, step_iff.2 ⟨r, hr, (qi_allowed h.hk (h.hR r hr)).1 ha, rfl⟩⟩
theorem Rn.rs (h : Rn n k R Rz) {c d : List Int} (hc : CrOk n c) (s : Rs R c d) : Rs Rz (ren n k c) (ren n k d) := by
  induction s with
  | refl => exact .refl _
  | tail h1 h2 ih =>
    obtain ⟨i, hi⟩ := h.step (h1.ok h.hR hc) ⟨_, h2⟩
    exact ih.tail hi
theorem Rn.unrs (h : Rn n k R Rz) {c f : List Int} (hc : CrOk n c) {c' : List Int} (ec : c' = ren n k c) (s : Rs Rz c' f) : ∃ d, f = ren n k d ∧ Rs R c d := by
  induction s with
  | refl => exact ⟨c, ec, .refl _⟩
  | tail h1 h2 ih =>
    obtain ⟨d, rfl, hd⟩ := ih
    obtain ⟨e, rfl, i, hi⟩ := h.unstep (hd.ok h.hR hc) ⟨_, h2⟩
    exact ⟨e, rfl, hd.tail hi⟩
theorem ren_all {out c : List Int} {on : Int} (hk : k < n) (ho : out.length = n) : AllOut (ren n k out) on (ren n k c) ↔ AllOut out on c := by
  unfold AllOut
  rw [ren_len, ho]
  constructor
  · intro h s hs hp
    have h1 := sg_bd (n := n) (k := k) (x := s) (by omega) (by omega)
    have h2 := gl_ren_sg (l := c) (k := k) (x := s) hk (by omega)
    have h3 := gl_ren_sg (l := out) (k := k) (x := s) hk (by omega)
    have := h (sg n k s).toNat (by omega) (by rw [h2]; simpa using hp)
    rw [h3] at this
    simpa using this
  · intro h s hs hp
    rw [gl_ren hs] at hp ⊢
    have := ig_bd (n := n) (k := k) (x := s) (by omega) (by omega)
    exact h _ (by omega) hp
theorem Rn.sett (h : Rn n k R Rz) {out c : List Int} {on : Int} (ho : out.length = n) (hc : CrOk n c) : SettC Rz (ren n k out) on (ren n k c) ↔ SettC R out on c := by
  constructor
  · intro s d hd
    exact (ren_all h.hk ho).1 (s _ (h.rs hc hd))
  · intro s f hf
    obtain ⟨d, rfl, hd⟩ := h.unrs hc rfl hf
    exact (ren_all h.hk ho).2 (s d hd)
theorem Rn.gr (h : Rn n k R Rz) {c : List Int} {L : List (List Int)} (hc : CrOk n c) (g : Gr R c L) : Gr Rz (ren n k c) (L.map (ren n k)) := by
  refine ⟨?_, ?_, ?_, ?_⟩
  · refine List.pairwise_iff_getElem.2 fun i j hi hj hij => ?_
    rw [List.getElem_map, List.getElem_map]
    intro e
    rw [List.length_map] at hi hj
    have l1 := ((g.from_ _ (List.getElem_mem hi)).ok h.hR hc).len
    have l2 := ((g.from_ _ (List.getElem_mem hj)).ok h.hR hc).len
    exact List.pairwise_iff_getElem.1 g.nodup i j hi hj hij (ren_inj h.hk l1 l2 e)
  · rw [List.getElem?_map, g.first]; rfl
  · intro d hd
    obtain ⟨e, he, rfl⟩ := List.mem_map.1 hd
    exact h.rs hc (g.from_ e he)
  · intro d hd i f hf
    obtain ⟨e, he, rfl⟩ := List.mem_map.1 hd
    obtain ⟨e', rfl, j, hj⟩ := h.unstep ((g.from_ e he).ok h.hR hc) ⟨i, hf⟩
    exact List.mem_map.2 ⟨e', g.closed e he j e' hj, rfl⟩
theorem Rn.len (h : Rn n k R Rz) {c : List Int} {L L' : List (List Int)} (hc : CrOk n c) (g : Gr R c L) (g' : Gr Rz (ren n k c) L') : L'.length = L.length := by
  rw [g'.len_uniq (h.gr hc g), List.length_map]
end
theorem FirstOf.same {P Q : Int → Prop} (e : ∀ x, P x ↔ Q x) {s s' : Int} {b b' : Bool} (h : FirstOf P s b) (h' : FirstOf Q s' b') : s = s' ∧ b = b' := by
  by_cases h0 : P 0
  · obtain ⟨h1, h2⟩ := h.1 h0
    obtain ⟨h3, h4⟩ := h'.1 ((e 0).1 h0)
    exact ⟨h1.trans h3.symm, h2.trans h4.symm⟩
  · by_cases h1 : P 1
    · obtain ⟨h1, h2⟩ := h.2.1 h0 h1
      obtain ⟨h3, h4⟩ := h'.2.1 (fun x => h0 ((e 0).2 x)) ((e 1).1 (by assumption))
      exact ⟨h1.trans h3.symm, h2.trans h4.symm⟩
    · obtain ⟨h1, h2⟩ := h.2.2 h0 h1
      obtain ⟨h3, h4⟩ := h'.2.2 (fun x => h0 ((e 0).2 x)) (fun x => by rename_i hn; exact hn ((e 1).2 x))
      exact ⟨h1.trans h3.symm, h2.trans h4.symm⟩
def ky (q : Q4) : Int := 5 * q.a + q.b
structure ZI (n k : Nat) (R : List Q4) (K : Int) (i : Nat) (Q : List Q4) : Prop where
  mem : ∀ q ∈ Q, ∃ j, ∃ hj : j < R.length, q = qi n k R[j] ∧ (ky q < K ∨ ky q = K ∧ j < i)
  cov : ∀ j (hj : j < R.length), (ky (qi n k R[j]) < K ∨ ky (qi n k R[j]) = K ∧ j < i) → qi n k R[j] ∈ Q
  srt : Q.Pairwise (fun x y => ky x < ky y)
section
variable {n k : Nat} {R : List Q4}
theorem ROk.in {m : Int} (h : ROk m R R.length) : ∀ x ∈ R, QIn m x := fun x hx => by
  obtain ⟨i, hi, rfl⟩ := List.getElem_of_mem hx
  exact (h i hi hi).1
theorem ROk.uniq (hk : k < n) (h : ROk n R R.length) (hn : n ≤ 4) {i j : Nat} (hi : i < R.length) (hj : j < R.length) (e : ky (qi n k R[i]) = ky (qi n k R[j])) : i = j := by
  have srt : ∀ d a, (ha : a + d + 1 < R.length) → QLess (R[a]'(by omega)) (R[a + d + 1]'ha) := by
    intro d
    induction d with
    | zero => intro a ha; exact (h (a + 1) ha ha).2.2 (by omega)
    | succ d ih =>
      intro a ha
      have h1 := ih a (by omega)
      have h2 := (h (a + (d + 1) + 1) ha ha).2.2 (by omega)
      have e1 : R[a + (d + 1) + 1 - 1]'(by omega) = R[a + d + 1]'(by omega) := by congr 1
      rw [e1] at h2
      unfold QLess at *
      omega
  have key : ∀ a b, (ha : a < R.length) → (hb : b < R.length) → ky (qi n k R[a]) = ky (qi n k R[b]) → ¬ a < b := by
    intro a b ha hb e hab
    obtain ⟨d, rfl⟩ : ∃ d, b = a + d + 1 := ⟨b - a - 1, by omega⟩
    have hs := srt d a hb
    have o1 := h _ ha ha
    have o2 := h _ hb hb
    have q1 := qi_in hk o1.1
    have q2 := qi_in hk o2.1
    have i1 := qin' o1.1
    have i2 := qin' o2.1
    have s1 := sg_bd (n := n) (k := k) (by omega) i1.1
    have s2 := sg_bd (n := n) (k := k) (by omega) i1.2.1
    have s3 := sg_bd (n := n) (k := k) (by omega) i2.1
    have s4 := sg_bd (n := n) (k := k) (by omega) i2.2.1
    have inj := fun {x y : Int} => sg_inj (k := k) (n := n) (x := x) (y := y) hk
    have e1 := o1.2.1
    have e2 := o2.2.1
    unfold ky qi at e
    unfold QLess at hs
    dsimp only at e
    have c1 := @inj R[a].a (R[a + d + 1]'hb).a i1.1 i2.1
    have c2 := @inj R[a].b (R[a + d + 1]'hb).b i1.2.1 i2.2.1
    have c3 := @inj R[a].a (R[a + d + 1]'hb).b i1.1 i2.2.1
    have c4 := @inj R[a].b (R[a + d + 1]'hb).a i1.2.1 i2.1
    omega
  have h1 := key i j hi hj e
  have h2 := key j i hj hi e.symm
  omega
theorem ZI.start (hk : k < n) (hR : ∀ x ∈ R, QIn n x) : ZI n k R 0 0 [] := ⟨fun q hq => by simp at hq, fun j hj h => by
  have := (qi_in hk (hR _ (List.getElem_mem hj)))
  unfold QIn at this
  unfold ky at h
  omega, List.Pairwise.nil⟩
theorem ZI.skip {K : Int} {i : Nat} {Q : List Q4} (h : ZI n k R K i Q) (hi : i < R.length) (hne : ky (qi n k R[i]) ≠ K) : ZI n k R K (i + 1) Q := by
  refine ⟨fun q hq => ?_, fun j hj hc => h.cov j hj ?_, h.srt⟩
  · obtain ⟨j, hj, e, hc⟩ := h.mem q hq
    exact ⟨j, hj, e, by omega⟩
  · rcases hc with hc | ⟨hc, hji⟩
    · exact .inl hc
    · refine .inr ⟨hc, ?_⟩
      by_cases e : j = i
      · subst e; exact absurd hc hne
      · omega
theorem ZI.add (hk : k < n) (hn : n ≤ 4) (hR : ROk n R R.length) {K : Int} {i : Nat} {Q : List Q4} (h : ZI n k R K i Q) (hi : i < R.length) (he : ky (qi n k R[i]) = K) : ZI n k R K (i + 1) (Q ++ [qi n k R[i]]) := by
  refine ⟨fun q hq => ?_, fun j hj hc => ?_, ?_⟩
  · rcases List.mem_append.1 hq with hq | hq
    · obtain ⟨j, hj, e, hc⟩ := h.mem q hq
      exact ⟨j, hj, e, by omega⟩
    · rw [List.mem_singleton.1 hq]
      exact ⟨i, hi, rfl, .inr ⟨he, by omega⟩⟩
  · by_cases e : j = i
    · subst e; simp
    · exact List.mem_append_left _ (h.cov j hj (by omega))
  · refine List.pairwise_append.2 ⟨h.srt, List.pairwise_singleton _ _, fun x hx y hy => ?_⟩
    rw [List.mem_singleton.1 hy]
    obtain ⟨j, hj, rfl, hc⟩ := h.mem x hx
    rcases hc with hc | ⟨hc, hji⟩
    · omega
    · have := hR.uniq hk hn hj hi (by omega)
      omega
theorem ZI.next {K : Int} {Q : List Q4} (h : ZI n k R K R.length Q) : ZI n k R (K + 1) 0 Q := by
  refine ⟨fun q hq => ?_, fun j hj hc => h.cov j hj (by omega), h.srt⟩
  obtain ⟨j, hj, e, hc⟩ := h.mem q hq
  exact ⟨j, hj, e, by omega⟩
theorem ZI.turn (hk : k < n) (hn : n ≤ 4) (hR : ∀ x ∈ R, QIn n x) {a : Int} {Q : List Q4} (h : ZI n k R (5 * a + n) 0 Q) : ZI n k R (5 * (a + 1) + (a + 1)) 0 Q := by
  refine ⟨fun q hq => ?_, fun j hj hc => h.cov j hj ?_, h.srt⟩
  · obtain ⟨j, hj, e, hc⟩ := h.mem q hq
    have := qi_in hk (hR _ (List.getElem_mem hj))
    rw [← e] at this
    unfold QIn at this
    unfold ky at hc
    refine ⟨j, hj, e, ?_⟩
    unfold ky
    omega
  · have := qi_in hk (hR _ (List.getElem_mem hj))
    unfold QIn at this
    unfold ky at hc ⊢
    omega
theorem nodup_q : ∀ {l m : List Q4}, l.Nodup → (∀ x ∈ l, x ∈ m) → l.length ≤ m.length
  | [], m, _, _ => Nat.zero_le _
  | x :: l, m, hn, hs => by
    classical
    have hc := List.nodup_cons.1 hn
    have hx : x ∈ m := hs x (by simp)
    have h1 := nodup_q (l := l) (m := m.erase x) hc.2 (fun y hy => by
      have hne : y ≠ x := fun e => hc.1 (e ▸ hy)
      exact (List.mem_erase_of_ne hne).2 (hs y (by simp [hy])))
    rw [List.length_erase_of_mem hx] at h1
    have := List.length_pos_of_mem hx
    simp only [List.length_cons]
    omega
theorem ZI.len {K : Int} {i : Nat} {Q : List Q4} (h : ZI n k R K i Q) : Q.length ≤ R.length := by
  have h1 : Q.Nodup := h.srt.imp fun {a b} hab e => by subst e; omega
  have h2 := nodup_q (m := R.map (qi n k)) h1 fun x hx => by
    obtain ⟨j, hj, e, -⟩ := h.mem x hx
    exact e ▸ List.mem_map.2 ⟨_, List.getElem_mem hj, rfl⟩
  rwa [List.length_map] at h2
theorem ZI.done (hk : k < n) (hn : n ≤ 4) (hR : ∀ x ∈ R, QIn n x) {Q : List Q4} (h : ZI n k R (5 * n + n) 0 Q) : Rn n k R Q ∧ ROk n Q Q.length := by
  have hin : ∀ q ∈ Q, QIn n q ∧ q.a ≤ q.b := fun q hq => by
    obtain ⟨j, hj, rfl, -⟩ := h.mem q hq
    exact qi_in hk (hR _ (List.getElem_mem hj))
  refine ⟨⟨hk, hn, hR, fun r hr => ?_, fun q hq => ?_⟩, fun m hm _ => ?_⟩
  · obtain ⟨j, hj, rfl⟩ := List.getElem_of_mem hr
    refine h.cov j hj ?_
    have := qi_in hk (hR _ (List.getElem_mem hj))
    unfold QIn at this
    unfold ky
    omega
  · obtain ⟨j, hj, e, -⟩ := h.mem q hq
    exact ⟨_, List.getElem_mem hj, e⟩
  · have h1 := hin _ (List.getElem_mem hm)
    refine ⟨h1.1, h1.2, fun h0 => ?_⟩
    have h2 := hin _ (List.getElem_mem (n := m - 1) (l := Q) (by omega))
    have h3 := List.pairwise_iff_getElem.1 h.srt (m - 1) m (by omega) hm (by omega)
    unfold ky at h3
    unfold QIn at h1 h2
    unfold QLess
    omega
end
end Go.Proofs.Ytpiplaicnbapbaa
namespace Go.Proofs.Ytpiplaicnbapbaa
open Go.Rx Go.RowKit
theorem RZ.start (H : Hp) (tz : Nat) (cs : List Value) : RZ H (H.lay (.row tz true cs)) tz H.next (.slice none 0 0) (.slice none 0 0) (.slice none 0 0) [] [] [] cs := by
  refine ⟨Grows.lay _ _, Hp.at_lay_self _ _, BuiltC.nil, BuiltC.nil, BuiltC.nil, Nat.le_refl _, ⟨?_, ?_, ?_, ?_⟩⟩
  · intro v hv r e
    rw [Hp.next_lay]
    simp only [List.mem_cons, List.not_mem_nil, or_false] at hv
    rcases hv with rfl | rfl | rfl | rfl <;> cases e
    omega
  · intro v hv; simp at hv
  · intro i j v u hij hv hu
    match i, j, hij, hv, hu with
    | 0, 0, hij, _, _ => exact absurd rfl hij
    | 0, 1, _, _, hu => cases hu; exact (Ap.nil _).symm
    | 0, 2, _, _, hu => cases hu; exact (Ap.nil _).symm
    | 0, 3, _, _, hu => cases hu; exact (Ap.nil _).symm
    | 0, j + 4, _, _, hu => simp at hu
    | 1, _, _, hv, _ => cases hv; exact Ap.nil _
    | 2, _, _, hv, _ => cases hv; exact Ap.nil _
    | 3, _, _, hv, _ => cases hv; exact Ap.nil _
    | i + 4, _, _, hv, _ => simp at hv
  · intro v _ u hu; simp at hu
end Go.Proofs.Ytpiplaicnbapbaa
