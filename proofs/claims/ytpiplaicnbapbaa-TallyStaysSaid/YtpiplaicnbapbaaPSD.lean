/- Contracts of the functions that PSD comes to. -/
import Derived.Test.YtpiplaicnbapbaaPSC
set_option maxRecDepth 100000
set_option maxHeartbeats 2000000
set_option linter.unusedVariables false
set_option linter.unusedSectionVars false
set_option linter.unusedSimpArgs false
namespace Go.Proofs.Ytpiplaicnbapbaa
open Go.Rx Go.RowKit
theorem ty104 : ∃ i, E.ty 104 = some i ∧ i.agg = true ∧ i.size = 2 := by
  have hs : (tiOf Try.prog 104).isSome = true := by kernel_rfl
  refine ⟨(tiOf Try.prog 104).get hs, ty_get (by kernel_rfl) (Option.some_get hs).symm, ?_, ?_⟩
  · kernel_rfl
  · kernel_rfl
/-- The heap before the first crowd is noted. -/
def h66 (h : Hp) (bp : List Value) (c5 : List Int) : Hp := ((((((h.lay (.row 25 true bp)).lay (.row 107 true (c5.map int))).lay (.row 104 true [nilS, nilS])).lay (.row 104 true [nilS, nilS])).lay (.map [] 0)).lay (.row 137 true [mapAt (h.next + 4)])).lay (.row 121 true [fnote (h.next + 5) (h.next + 3)])
theorem h66_next (h : Hp) (bp : List Value) (c5 : List Int) : (h66 h bp c5).next = h.next + 7 := by
  unfold h66
  simp only [Hp.next_lay]
theorem RPM.start (h : Hp) (bp : List Value) (c5 : List Int) : RPM h (h66 h bp c5) h.next (h.next + 2) (h.next + 3) (h.next + 5) (h.next + 6) (h.next + 4) bp nilS nilS [] [] [] (fun _ => none) 0 nilS nilS [] := by
  have nx := h66_next h bp c5
  refine ⟨?_, ?_, ?_, ?_, ?_, ?_, ?_, BuiltC.nil, BuiltC.nil, rfl, fun k u l e => by simp at e, by omega, by omega, ?_⟩
  · exact ((((((Grows.lay _ _).then_lay _).then_lay _).then_lay _).then_lay _).then_lay _).then_lay _
  · exact Hp.at_lay_old _ (Hp.at_lay_old _ (Hp.at_lay_old _ (Hp.at_lay_old _ (Hp.at_lay_old _ (Hp.at_lay_old _ (Hp.at_lay_self _ _))))))
  · exact at_nx2 (by simp only [Hp.next_lay]) (Hp.at_lay_old _ (Hp.at_lay_old _ (Hp.at_lay_old _ (Hp.at_lay_old _ (Hp.at_lay_self ((h.lay (.row 25 true bp)).lay (.row 107 true (c5.map int))) _)))))
  · exact at_nx2 (by simp only [Hp.next_lay]) (Hp.at_lay_old _ (Hp.at_lay_old _ (Hp.at_lay_old _ (Hp.at_lay_self (((h.lay (.row 25 true bp)).lay (.row 107 true (c5.map int))).lay (.row 104 true [nilS, nilS])) _))))
  · exact at_nx2 (by simp only [Hp.next_lay]) (Hp.at_lay_old _ (Hp.at_lay_self (((((h.lay (.row 25 true bp)).lay (.row 107 true (c5.map int))).lay (.row 104 true [nilS, nilS])).lay (.row 104 true [nilS, nilS])).lay (.map [] 0)) _))
  · exact at_nx2 (by simp only [Hp.next_lay]) (Hp.at_lay_self ((((((h.lay (.row 25 true bp)).lay (.row 107 true (c5.map int))).lay (.row 104 true [nilS, nilS])).lay (.row 104 true [nilS, nilS])).lay (.map [] 0)).lay (.row 137 true [mapAt (h.next + 4)])) _)
  · refine ⟨[], 0, ?_, fun _ => rfl, rfl⟩
    exact at_nx2 (by simp only [Hp.next_lay]) (Hp.at_lay_old _ (Hp.at_lay_old _ (Hp.at_lay_self ((((h.lay (.row 25 true bp)).lay (.row 107 true (c5.map int))).lay (.row 104 true [nilS, nilS])).lay (.row 104 true [nilS, nilS])) _)))
  · refine ⟨fun v hv r e => ?_, fun u hu => by simp at hu, fun i j v u hij hi hj => ?_, fun v hv u hu => by simp at hu⟩
    · simp at hv
      rcases hv with rfl | rfl | rfl | rfl | rfl | rfl | rfl <;> cases e <;> omega
    · intro r e1 e2
      have hi8 := (List.getElem?_eq_some_iff.1 hi).1
      have hj8 := (List.getElem?_eq_some_iff.1 hj).1
      have key : ∀ (i : Nat) (v : Value), (pl h.next :: pl (h.next + 2) :: pl (h.next + 3) :: pl (h.next + 5) :: pl (h.next + 6) :: pl (h.next + 4) :: nilS :: nilS :: [])[i]? = some v → ad v = some r → (i = 0 ∧ r = h.next) ∨ (i = 1 ∧ r = h.next + 2) ∨ (i = 2 ∧ r = h.next + 3) ∨ (i = 3 ∧ r = h.next + 5) ∨ (i = 4 ∧ r = h.next + 6) ∨ (i = 5 ∧ r = h.next + 4) := by
        intro i v hi e
        match i, hi with
        | 0, hi => cases hi; cases e; simp
        | 1, hi => cases hi; cases e; simp
        | 2, hi => cases hi; cases e; simp
        | 3, hi => cases hi; cases e; simp
        | 4, hi => cases hi; cases e; simp
        | 5, hi => cases hi; cases e; simp
        | 6, hi => cases hi; cases e
        | 7, hi => cases hi; cases e
        | n + 8, hi => simp at hi
      have k1 := key i v hi e1
      have k2 := key j u hj e2
      omega
structure PS where
  cs : Value
  bv : Value
  us : List Value
  L : List (List Int)
  B : List (List Int)
  f : K5 → Option Value
  H : Hp
/-- What is known between the rounds. -/
structure Rd (h : Hp) (bp : List Value) (R : List Q4) (n : Nat) (c : List Int) (s : PS) (i r : Nat) (d : List Int) (idx : List Int) (A8 z : Nat) (ms es : List Nat) : Prop where
  m : RPM h s.H h.next (h.next + 2) (h.next + 3) (h.next + 5) (h.next + 6) (h.next + 4) bp s.cs s.bv s.us s.L s.B s.f s.L.length s.cs s.bv (es ++ A8 :: ms)
  ix : IxOf kk s.L s.f
  a8 : s.H.at A8 = some (.row 3 true [int z])
  h8 : h.next + 7 ≤ A8
  mks : ∀ d ∈ ms, s.H.at d = some .noDefers
  nd : ms.Nodup
  ge : ∀ d ∈ ms, h.next + 7 ≤ d
  g : Gp R n c s.L i
  b : BfP R s.L s.B i d idx r
  il : i ≤ s.L.length
section
variable {h : Hp} {bp : List Value} {R : List Q4} {n : Nat} {c : List Int} {cs bv : Value} {us : List Value} {L B : List (List Int)} {f : K5 → Option Value} {H H' : Hp} {i r : Nat} {d : List Int} {idx : List Int} {A8 z : Nat} {ms es : List Nat}
theorem Rd.ext (k : Rd h bp R n c ⟨cs, bv, us, L, B, f, H⟩ i r d idx A8 z ms es) (g : Grows H H') : Rd h bp R n c ⟨cs, bv, us, L, B, f, H'⟩ i r d idx A8 z ms es :=
  ⟨k.m.ext g, k.ix, g.at_ _ _ k.a8, k.h8, fun d hd => g.at_ _ _ (k.mks d hd), k.nd, k.ge, k.g, k.b, k.il⟩
theorem Rd.keep {l : Nat} (k : Rd h bp R n c ⟨cs, bv, us, L, B, f, H⟩ i r d idx A8 z ms es) (hl : l ∈ es) (h8 : A8 ≠ l) (hm : l ∉ ms) (h7 : h.next ≤ l) (y : Keeps l H H') : Rd h bp R n c ⟨cs, bv, us, L, B, f, H'⟩ i r d idx A8 z ms es :=
  ⟨k.m.other (d := l) (by simp [hl]) (Kx.keeps y) (y.grows k.m.gr h7) (by rw [y.next]; exact Nat.le_refl _), k.ix, y.at_ _ _ h8 k.a8, k.h8, fun d hd => y.at_ _ _ (fun e => hm (e ▸ hd)) (k.mks d hd), k.nd, k.ge, k.g, k.b, k.il⟩
theorem crowd_cells {h0 h : Hp} {v : Value} {L : List (List Int)} (k : BuiltC h0 h 107 5 v L.length (flat5 L)) (hd : ∀ d ∈ L, d.length ≤ 5) {i : Nat} {d : List Int} (hi : L[i]? = some d) : ∃ rc, v = slc rc 0 L.length L.length ∧ cellsAt h rc (offAt 0 i 5) 5 = some ((pad5 d).map int) := by
  have hil := (List.getElem?_eq_some_iff.1 hi).1
  have hll := flat5_len L hd
  obtain ⟨hl, ⟨rfl, e1⟩ | ⟨r, rfl, h2, y, hr⟩⟩ := k
  · omega
  · refine ⟨r, rfl, ?_⟩
    rw [offAt_eq, Nat.zero_add, cellsAt_row hr (by omega), flat5_drop L i hil hd]
    rw [(List.getElem?_eq_some_iff.1 hi).2]
end
theorem builtC_stay {h0 h h' : Hp} {e : TypeId} {s n : Nat} {v : Value} {cs : List Value} (k : BuiltC h0 h e s v n cs) (g : ∀ r o, ad v = some r → h.at r = some o → h'.at r = some o) : BuiltC h0 h' e s v n cs := by
  obtain ⟨hl, h1 | ⟨r, rfl, h2, y, hr⟩⟩ := k
  · exact ⟨hl, .inl h1⟩
  · exact ⟨hl, .inr ⟨r, rfl, h2, y, g _ _ rfl hr⟩⟩
theorem built_stay {h0 h h' : Hp} {e : TypeId} {v : Value} {l : List Int} (k : Built h0 h e v l) (g : ∀ r o, ad v = some r → h.at r = some o → h'.at r = some o) : Built h0 h' e v l := by
  rcases k with h1 | ⟨r, rfl, h2, y, hr⟩
  · exact .inl h1
  · exact .inr ⟨r, rfl, h2, y, g _ _ rfl hr⟩
theorem AL_of {h0 h : Hp} {v : Value} {L : List (List Int)} (k : BuiltC h0 h 107 5 v L.length (flat5 L)) (hd : ∀ d ∈ L, d.length ≤ 5) : AL h v L := by
  have hll := flat5_len L hd
  obtain ⟨hl, ⟨rfl, e1⟩ | ⟨r, rfl, h2, y, hr⟩⟩ := k
  · exact ⟨none, 0, by rw [e1], fun j hj => by omega⟩
  · refine ⟨_, _, rfl, fun j hj => ⟨r, 0, rfl, ?_⟩⟩
    rw [Nat.add_zero, cellsAt_row hr (by omega), flat5_drop L j hj hd]
attribute [local irreducible] E idxN cellAt cellsAt storeAt callable helems hmoved lookIn findKey keyOk hentries Hp.at Hp.set Hp.lay arBits hupdated setAt CallP YieldP BoolOf IsWrap Rnd LoopP AppP CutP Int.tmod Int.tdiv Int.fdiv
section
variable [Unknowns]
attribute [local irreducible] ResP sameAt finP endQ
theorem PReached_ok : PReachedOk := by
  intro v p n c h hv hP en hc
  obtain ⟨bp, rfl, hbl, b0, -, -, ⟨a3, b3, k3⟩, -⟩ := hv.box
  have hcl := hc.len
  have hn5 : n ≤ 5 := by have := hP.n5; omega
  have hn1 : 1 ≤ n := by have := hP.n1; omega
  have hrl := hP.rl
  have hRq : ∀ x ∈ p.rules, QIn n x := fun x hx => by
    obtain ⟨k, hk, e⟩ := List.getElem_of_mem hx
    have := hP.qin k hk
    rw [en] at this
    rw [← e]
    exact this
  have hp5 := pad5_len (c := c) (by omega)
  have hpl : ((pad5 c).map int).length = 5 := by rw [List.length_map, hp5]
  unfold cv
  refine enter66 (by simp) ?_
  conv => whnf
  refine SeqP.go ?_
  conv => whnf
  refine SeqP.go ?_
  conv => whnf
  refine ⟨rfl, _, storeAt_all (vs := [nilS, nilS]) rfl rfl rfl, ?_⟩
  conv => whnf
  refine SeqP.go ?_
  conv => whnf
  refine ⟨rfl, _, storeAt_all (vs := [mapAt _]) rfl rfl rfl, ?_⟩
  conv => whnf
  refine SeqP.cut (α := Unit) (fun _ => [(7, ptr (h.next + 6) 0), (5, ptr (h.next + 3) 0), (4, ptr (h.next + 2) 0), (3, ptr (h.next + 1) 0), (2, ptr h.next 0)]) (fun _ H => H = h66 h bp (pad5 c)) ?_ ?_
  · conv => whnf
    refine ⟨rfl, _, storeAt_all (vs := [.func (.func 94) ⟨[]⟩ ⟨[ptr _ 0, ptr _ 0]⟩]) rfl rfl rfl, ?_⟩
    conv => whnf
    refine ⟨(), ⟨congrArg (fun k => ptr k 0) (by simp only [Hp.next_lay]), congrArg (fun k => ptr k 0) (by simp only [Hp.next_lay]), congrArg (fun k => ptr k 0) (by simp only [Hp.next_lay]), congrArg (fun k => ptr k 0) (by simp only [Hp.next_lay]), rfl, trivial⟩, ?_, rfl⟩
    unfold h66 fnote
    simp only [Hp.next_lay]
  rintro _ φ1 H0 eH0
  have m0 : RPM h H0 h.next (h.next + 2) (h.next + 3) (h.next + 5) (h.next + 6) (h.next + 4) bp nilS nilS [] [] [] (fun _ => none) 0 nilS nilS [] := by rw [eH0]; exact RPM.start h bp (pad5 c)
  have a3 : H0.at (h.next + 1) = some (.row 107 true ((pad5 c).map int)) := by
    rw [eH0]
    exact at_nx2 (Hp.next_lay _ _) (Hp.at_lay_old _ (Hp.at_lay_old _ (Hp.at_lay_old _ (Hp.at_lay_old _ (Hp.at_lay_old _ (Hp.at_lay_self (h.lay (.row 25 true bp)) _))))))
  have n0 : H0.next = h.next + 7 := by rw [eH0]; exact h66_next _ _ _
  clear eH0
  have can94' := can94
  conv => whnf
  refine SeqP.cut (α := PS) (fun _ => [(7, ptr (h.next + 6) 0), (5, ptr (h.next + 3) 0), (4, ptr (h.next + 2) 0), (2, ptr h.next 0)]) (fun s H => s.H = H ∧ RPM h s.H h.next (h.next + 2) (h.next + 3) (h.next + 5) (h.next + 6) (h.next + 4) bp s.cs s.bv s.us [c] [[]] s.f 1 s.cs s.bv [] ∧ IxOf kk [c] s.f ∧ h.next + 7 ≤ s.H.next) ?_ ?_
  · conv => whnf
    refine ⟨fnote (h.next + 5) (h.next + 3), cellAt_row m0.a7 rfl, ?_⟩
    conv => whnf
    refine ⟨_, all_cells a3 hpl, ?_⟩
    conv => whnf
    refine ⟨can94, ?_⟩
    refine CallP.mono (note_spec (n := n) (d := c) m0 ⟨fun i hi => by simp at hi, fun k v e => by cases e⟩ (fun x hx => by simp at hx) hc hn5 (by simp) rfl) ?_
    rintro r H1 ⟨i, rfl, cs, bv, us, L', B', f, q1, q2, q3, q4, q5⟩
    have q6 : L' = [c] ∧ B' = [[]] := by
      rcases q5 with ⟨rfl, rfl⟩ | ⟨_, rfl, rfl⟩
      · simp at q4
      · exact ⟨rfl, rfl⟩
    obtain ⟨rfl, rfl⟩ := q6
    conv => whnf
    refine ⟨⟨cs, bv, us, [c], [[]], f, H1⟩, ⟨rfl, rfl, rfl, rfl, trivial⟩, ⟨rfl, q1, q2, ?_⟩, rfl⟩
    have := q1.sep.oldr (pl (h.next + 6)) (by simp) _ rfl
    show h.next + 7 ≤ H1.next
    omega
  clear m0 a3 n0
  rintro ⟨cs0, bv0, us0, L0, B0, f0, H0⟩ φ2 _ ⟨rfl, m0, ix0, n0⟩
  dsimp only at m0 ix0 n0 ⊢
  conv => whnf
  refine SeqP.cutM (α := PS × Nat × List Nat) (fun _ => [(5, ptr (h.next + 3) 0), (4, ptr (h.next + 2) 0)]) (fun s => s.2.2) (fun s H => s.1.H = H ∧ ∃ i z, s.1.L.length = i ∧ Rd h bp p.rules n c s.1 i 0 [] [] s.2.1 z s.2.2 []) ?_ ?_
  rotate_left
  · rintro ⟨⟨cs, bv, us, L, B, f, H⟩, A8, ms⟩ φ9 _ ⟨rfl, i, z, eL, k⟩
    dsimp only at eL k ⊢
    have hks := k.m.c.slice
    dsimp only at hks
    obtain ⟨ac, rfl, -⟩ := hks
    have hkb := k.m.b.slice
    dsimp only at hkb
    obtain ⟨ab, rfl, -⟩ := hkb
    conv => whnf
    repeat (refine SeqP.go ?_; conv => whnf)
    refine ⟨_, all_cells k.m.r rfl, ?_⟩
    conv => whnf
    refine ⟨rfl, _, storeAt_full k.m.x (vs := [_, _]) rfl rfl rfl, ?_⟩
    conv => whnf
    have hms : Marks (h.next + 7) ms (H.set (h.next + 2) (.row 104 true [.slice ac L.length L.length, .slice ab us.length us.length])) := ⟨k.nd, fun d hd => ⟨k.ge d hd, by have := k.ge d hd; rw [Hp.at_set_ne _ (by omega)]; exact k.mks d hd⟩⟩
    have nma : ∀ v ∈ (pl h.next :: pl (h.next + 2) :: pl (h.next + 3) :: pl (h.next + 5) :: pl (h.next + 6) :: pl (h.next + 4) :: .slice ac L.length L.length :: .slice ab us.length us.length :: us), ∀ r, ad v = some r → r ∉ ms := fun v hv r e hr => k.m.sep.ape v hv (pl r) (List.mem_map.2 ⟨r, by simp [hr], rfl⟩) r e rfl
    have nx2 : ∀ j v, j ≠ 1 → (pl h.next :: pl (h.next + 2) :: pl (h.next + 3) :: pl (h.next + 5) :: pl (h.next + 6) :: pl (h.next + 4) :: .slice ac L.length L.length :: .slice ab us.length us.length :: us)[j]? = some v → ∀ r, ad v = some r → r ≠ h.next + 2 := fun j v hj hv r e e2 => k.m.sep.ap 1 j (pl (h.next + 2)) v (fun e => hj e.symm) rfl hv (h.next + 2) rfl (by rw [e, e2])
    obtain ⟨ti, hti, hag, hsz⟩ := ty104
    refine finP_marks hms ?_
    intro h3 n3 k3' k4
    have stay : ∀ j v, j ≠ 1 → (pl h.next :: pl (h.next + 2) :: pl (h.next + 3) :: pl (h.next + 5) :: pl (h.next + 6) :: pl (h.next + 4) :: .slice ac L.length L.length :: .slice ab us.length us.length :: us)[j]? = some v → ∀ r o, ad v = some r → H.at r = some o → h3.at r = some o := fun j v hj hv r o e ho => k4 r o (nma v (List.mem_of_getElem? hv) r e) (by rw [Hp.at_set_ne _ (nx2 j v hj hv r e)]; exact ho)
    have atX : h3.at (h.next + 2) = some (.row 104 true [.slice ac L.length L.length, .slice ab us.length us.length]) := k3' _ _ (by omega) (Hp.at_set_self _ (Hp.lt_of_at k.m.x))
    have hfew := crowds_few hn5 k.g.ok k.g.nodup
    have hgr : Gr p.rules c L := by
      have hg := k.g
      rw [← eL] at hg
      exact hg.done
    have hbk : ∀ (j : Nat) u l, us[j]? = some u → B[j]? = some l → View h3 u l := fun j u l h1 h2 => (built_stay (k.m.be j u l h1 h2) fun r o e ho => stay (j + 8) u (by omega) (by simpa using h1) r o e ho).c.view
    refine leave_cell rfl hti hag (by rw [hsz]; exact all_cells atX rfl) ⟨⟨_, L, B, rfl, ⟨rfl, rfl, ⟨_, rfl, AL_of (builtC_stay k.m.c fun r o e ho => stay 6 _ (by decide) rfl r o e ho) (fun d hd => by have := (k.g.ok d hd).len; omega)⟩, ⟨_, rfl, EL.sl (builtC_stay k.m.b fun r o e ho => stay 7 _ (by decide) rfl r o e ho) ⟨k.m.bl, hbk⟩⟩, k.b.done eL.symm hfew, hgr, k.g.ok, hfew⟩⟩, ?_⟩
    refine ⟨by rw [n3, Hp.next_set]; exact k.m.gr.next, fun r o ho => ?_⟩
    have hlt := Hp.lt_of_at ho
    exact k3' r o (by omega) (by rw [Hp.at_set_ne _ (by omega)]; exact k.m.gr.at_ _ _ ho)
  conv => whnf
  refine SeqP.go ?_
  conv => whnf
  refine ⟨rfl, _, storeAt_all (vs := [int 0]) rfl rfl rfl, ?_⟩
  conv => whnf
  refine loop_invM (α := Nat × PS × Nat × List Nat) (fun s => [(8, ptr s.2.2.1 0), (7, ptr (h.next + 6) 0), (5, ptr (h.next + 3) 0), (4, ptr (h.next + 2) 0), (2, ptr h.next 0)]) (fun s => s.2.1.H) (fun s => s.2.2.2) (fun s => Rd h bp p.rules n c s.2.1 s.1 0 [] [] s.2.2.1 s.1 s.2.2.2 []) (fun s => 100000 - s.1) (0, ⟨cs0, bv0, us0, [c], [[]], f0, _⟩, H0.next, []) ?_ ⟨rfl, rfl, rfl, rfl, rfl, trivial⟩ (Hp.Le.refl _) rfl ?_
  · refine ⟨?_, ix0, Hp.at_lay_self _ _, n0, fun d hd => by simp at hd, List.nodup_nil, fun d hd => by simp at hd, Gp.start hc, ?_, Nat.zero_le _⟩
    · exact m0.more (Grows.lay _ _) [H0.next] (fun x hx => by rw [List.mem_singleton.1 hx, Hp.next_lay]; omega)
    · refine ⟨rfl, fun j row hr x hx => ?_, fun a j ha => absurd ha (Nat.not_lt_zero _), fun m x e hm => absurd hm (Nat.not_lt_zero _), fun j row hr => ?_⟩
      · have hj := (List.getElem?_eq_some_iff.1 hr).1
        simp at hj
        subst hj
        cases hr
        simp at hx
      · have hj := (List.getElem?_eq_some_iff.1 hr).1
        simp at hj
        subst hj
        cases hr
        simp
  rintro ⟨i, ⟨cs, bv, us, L, B, f, H⟩, A8, ms⟩ φ3 k
  dsimp only at k ⊢
  have hlen5 : ∀ d ∈ L, d.length ≤ 5 := fun d hd => by have := (k.g.ok d hd).len; omega
  have hfew := crowds_few hn5 k.g.ok k.g.nodup
  have hil := k.il
  have hks := k.m.c.slice
  dsimp only at hks
  obtain ⟨ac, rfl, -⟩ := hks
  conv => whnf
  refine SeqP.go ?_
  conv => whnf
  refine ⟨_, cellAt_row k.a8 rfl, ?_⟩
  conv => whnf
  refine ⟨_, cellAt_row k.m.r rfl, ?_⟩
  conv => whnf
  repeat (refine SeqP.go ?_; conv => whnf)
  dsimp only at hfew hil
  refine cmpB (fun c1 => ?_) (fun c1 => ?_)
  rotate_left
  · have : L.length = i := by omega
    conv => whnf
    repeat (refine SeqP.go ?_; conv => whnf)
    exact ⟨(⟨_, bv, us, L, B, f, H⟩, A8, ms), ⟨rfl, rfl, trivial⟩, ⟨rfl, i, i, this, k⟩, rfl⟩
  have hiL : i < L.length := by omega
  have hexd : ∃ d, L[i]? = some d := ⟨_, List.getElem?_eq_getElem hiL⟩
  obtain ⟨d, hd⟩ := hexd
  have hdm := List.mem_of_getElem? hd
  have hdok := k.g.ok d hdm
  have hcc := crowd_cells k.m.c hlen5 hd
  obtain ⟨rc, erc, hcc⟩ := hcc
  cases erc
  dsimp only at hcc
  have hd5 := pad5_len (c := d) (by have := hdok.len; omega)
  conv => whnf
  refine SeqP.cutM (α := PS × Nat) (fun _ => [(8, ptr A8 0), (7, ptr (h.next + 6) 0), (5, ptr (h.next + 3) 0), (4, ptr (h.next + 2) 0), (2, ptr h.next 0)]) (fun s => s.2 :: ms) (fun s H => s.1.H = H ∧ Rd h bp p.rules n c s.1 (i + 1) 0 [] [] A8 i (s.2 :: ms) []) ?_ ?_
  rotate_left
  · rintro ⟨⟨cs', bv', us', L', B', f', H'⟩, D⟩ φ4 _ ⟨rfl, k2⟩
    dsimp only at k2 ⊢
    have hlt8 : A8 < H'.next := Hp.lt_of_at k2.a8
    have h88 : h.next + 7 ≤ A8 := k2.h8
    have hil2 := k2.il
    have hfew2 := crowds_few hn5 k2.g.ok k2.g.nodup
    dsimp only at hil2 hfew2
    conv => whnf
    refine SeqP.go ?_
    conv => whnf
    refine SeqP.go ?_
    conv => whnf
    refine ⟨_, cellAt_row k2.a8 rfl, ?_⟩
    conv => whnf
    refine ⟨rfl, _, storeAt_all (vs := [int i]) rfl rfl rfl, ?_⟩
    conv => whnf
    refine ⟨int i, cellAt_row (Hp.at_lay_self _ _) rfl, ?_⟩
    conv => whnf
    refine ⟨((i + 1 : Nat) : Int), wie (by omega) (by omega), ?_⟩
    conv => whnf
    refine ⟨rfl, _, storeAt_all (vs := [int (i + 1 : Nat)]) rfl rfl rfl, ?_⟩
    conv => whnf
    refine RndM.mk (i + 1, ⟨cs', bv', us', L', B', f', H'.lay (.row 3 true [int (i + 1 : Nat)])⟩, H'.next, D :: ms) ⟨?_, k2.ix, Hp.at_lay_self _ _, by show h.next + 7 ≤ H'.next; omega, fun d hd => Hp.at_lay_old _ (k2.mks d hd), k2.nd, k2.ge, k2.g, k2.b, k2.il⟩ (by show 100000 - (i + 1) < 100000 - i; omega) ⟨rfl, rfl, rfl, rfl, rfl, trivial⟩ (Hp.Le.refl _) rfl
    exact (k2.m.more (Grows.lay H' (.row 3 true [int (i + 1 : Nat)])) [H'.next] (fun x hx => by rw [List.mem_singleton.1 hx]; exact ⟨Nat.le_refl _, by rw [Hp.next_lay]; exact Nat.lt_succ_self _⟩)).less (fun x hx => by simp at hx ⊢; rcases hx with h | h | h <;> simp [h])
  conv => whnf
  refine SeqP.go ?_
  conv => whnf
  refine ⟨bp, all_cells k.m.p hbl, ?_⟩
  conv => whnf
  refine ⟨_, cellAt_row k.m.r rfl, ?_⟩
  conv => whnf
  refine ⟨_, cellAt_row k.a8 rfl, ?_⟩
  conv => whnf
  refine ⟨rfl, ⟨by omega, by omega⟩, ?_⟩
  conv => whnf
  refine ⟨(pad5 d).map int, hcc, ?_⟩
  conv => whnf
  refine CallP.mono (meetings_spec bp (pad5 d) _) ?_
  rintro r _ ⟨rfl, rfl⟩
  conv => whnf
  have nH1 : (H.lay (.row 25 true bp)).next = H.next + 1 := Hp.next_lay _ _
  have nH2 : ((H.lay (.row 25 true bp)).lay (.row 107 true ((pad5 d).map int))).next = H.next + 2 := by rw [Hp.next_lay, nH1]
  have nH3 : (((H.lay (.row 25 true bp)).lay (.row 107 true ((pad5 d).map int))).lay .noDefers).next = H.next + 3 := by rw [Hp.next_lay, nH2]
  have h88 := k.h8
  have hlt8 : A8 < H.next := Hp.lt_of_at k.a8
  have hRn : ∀ j, (hj : j < p.rules.length) → QIn 5 p.rules[j] := fun j hj => by
    have := hRq _ (List.getElem_mem hj)
    unfold QIn at this ⊢
    omega
  have hbd : ∀ j, -100 ≤ gl (pad5 d) j ∧ gl (pad5 d) j ≤ 100 := fun j => by
    rw [gl_pad]
    have := hdok.nn j
    have := hdok.le j
    omega
  have hst : ∀ o, ∃ cs bv us L B f, Rd h bp p.rules n c ⟨cs, bv, us, L, B, f, (((H.lay (.row 25 true bp)).lay (.row 107 true ((pad5 d).map int))).lay .noDefers).lay o⟩ i 0 d (posN p.rules (pad5 d) p.rules.length) A8 i ((H.next + 2) :: ms) ([] ++ [H.next + 3, H.next, H.next + 1]) ∧ ((((H.lay (.row 25 true bp)).lay (.row 107 true ((pad5 d).map int))).lay .noDefers).lay o).at H.next = some (.row 25 true bp) ∧ ((((H.lay (.row 25 true bp)).lay (.row 107 true ((pad5 d).map int))).lay .noDefers).lay o).at (H.next + 1) = some (.row 107 true ((pad5 d).map int)) ∧ L[i]? = some d := by
    intro o
    have g0 : Grows H ((((H.lay (.row 25 true bp)).lay (.row 107 true ((pad5 d).map int))).lay .noDefers).lay o) := (((Grows.lay _ _).then_lay _).then_lay _).then_lay _
    have k0 := k.ext g0
    refine ⟨_, bv, us, L, B, f, ⟨?_, k.ix, k0.a8, k.h8, ?_, ?_, ?_, k.g, ⟨k.b.len, k.b.fwd, k.b.bwd, fun m x e hm => absurd hm (Nat.not_lt_zero _), k.b.few⟩, k.il⟩, ?_, ?_, hd⟩
    · have := k.m.more g0 [H.next + 3, H.next, H.next + 1, H.next + 2] (fun x hx => by
        simp only [Hp.next_lay]
        simp at hx
        omega)
      exact this.less (fun x hx => by simp at hx ⊢; rcases hx with e | e | e | e | e | e <;> simp [e])
    · intro x hx
      rcases List.mem_cons.1 hx with rfl | hx
      · exact at_nx2 nH2 (Hp.at_lay_old _ (Hp.at_lay_self _ _))
      · exact k0.mks x hx
    · refine List.nodup_cons.2 ⟨fun hx => ?_, k.nd⟩
      have := Hp.lt_of_at (k.mks _ hx)
      dsimp only at this
      omega
    · intro x hx
      rcases List.mem_cons.1 hx with rfl | hx
      · omega
      · exact k.ge x hx
    · exact Hp.at_lay_old _ (Hp.at_lay_old _ (Hp.at_lay_old _ (Hp.at_lay_self _ _)))
    · exact at_nx2 nH1 (Hp.at_lay_old _ (Hp.at_lay_old _ (Hp.at_lay_self _ _)))
  refine range_goE (fun hh => Grows h hh ∧ hh.at H.next = some (.row 25 true bp) ∧ hh.at (H.next + 1) = some (.row 107 true ((pad5 d).map int))) ((posN p.rules (pad5 d) p.rules.length).map (mv p.rules (pad5 d))) (fun k es hh => ∃ cs bv us L B f, Rd h bp p.rules n c ⟨cs, bv, us, L, B, f, hh⟩ i k d (posN p.rules (pad5 d) p.rules.length) A8 i ((H.next + 2) :: ms) (es ++ [H.next + 3, H.next, H.next + 1]) ∧ hh.at H.next = some (.row 25 true bp) ∧ hh.at (H.next + 1) = some (.row 107 true ((pad5 d).map int)) ∧ L[i]? = some d) (fun _ => False) can108 ?_ rfl (fun I S hx hJ h0 hit => meet_iter _ _ _ bp p.rules (pad5 d) h _ b3 k3 hbl hrl hd5 hbd hRn I S _ hx hJ h0 hit) ?_ ?_ ?_ ?_ ?_ ?_
  · intro k hk
    rw [List.getElem_map]
    rfl
  · refine ⟨?_, ?_⟩
    · rintro k es h1 h2 ds ⟨cs, bv, us, L, B, f, q1, q2, q3, q4⟩ g hds
      have q1' := q1.ext g
      refine ⟨cs, bv, us, L, B, f, { q1' with m := ?_ }, g.at_ _ _ q2, g.at_ _ _ q3, q4⟩
      have := q1.m.more g ds hds
      rw [← List.append_assoc, ← List.append_assoc] at this
      exact this
    · rintro k es ds h1 ⟨cs, bv, us, L, B, f, q1, q2, q3, q4⟩
      refine ⟨cs, bv, us, L, B, f, { q1 with m := q1.m.less fun x hx => ?_ }, q2, q3, q4⟩
      simp at hx ⊢
      rcases hx with e | e | e | e | e | e <;> simp [e]
  · rintro k es hh ⟨cs, bv, us, L, B, f, q1, q2, q3, q4⟩
    exact ⟨q1.m.gr, q2, q3⟩
  · exact hst _
  · rintro m es xs hget H3 hl3 ⟨cs3, bv3, us3, L3, B3, f3, k3', aP3, aC3, hd3⟩
    have hget2 := List.getElem?_eq_some_iff.1 hget
    obtain ⟨hml, exs⟩ := hget2
    rw [List.getElem_map] at exs
    rw [List.length_map] at hml
    have hexx : ∃ x, (posN p.rules (pad5 d) p.rules.length)[m] = x := ⟨_, rfl⟩
    obtain ⟨x, ex⟩ := hexx
    rw [ex] at exs
    have hxm : x ∈ posN p.rules (pad5 d) p.rules.length := by rw [← ex]; exact List.getElem_mem _
    have hxi : (posN p.rules (pad5 d) p.rules.length)[m]? = some x := by rw [List.getElem?_eq_getElem hml, ex]
    have hst2 := mv_step hdok hRq hxm
    obtain ⟨e, hse, emv⟩ := hst2
    rw [emv] at exs
    subst exs
    have heok := step_ok hRq hdok hse
    have hel := heok.len
    have he5 := pad5_len (c := e) (by omega)
    have hepl : ((pad5 e).map int).length = 5 := by rw [List.length_map, he5]
    unfold cv
    clear hget
    have hl3' := at_nx2 nH3 hl3
    have n8l : A8 ≠ H.next + 3 := by omega
    have nml : H.next + 3 ∉ (H.next + 2) :: ms := fun hx => by
      rcases List.mem_cons.1 hx with e | hx
      · omega
      · have := Hp.lt_of_at (k.mks _ hx)
        dsimp only at this
        omega
    have hlt3 := Hp.lt_of_at hl3'
    conv => whnf
    refine ⟨by show ((pad5 e).map int).length = 5; exact hepl, _, storeAt_all (vs := (pad5 e).map int) (by rw [hepl]; rfl) (ints_one _) (over_int (k := [0, 0, 0, 0, 0]) (by rw [he5]; rfl)), ?_⟩
    have g4 : Grows H3 (H3.lay (.row 107 true ((pad5 e).map int))) := Grows.lay _ _
    have k4 := k3'.ext g4
    have aP4 := g4.at_ _ _ aP3
    have aC4 := g4.at_ _ _ aC3
    have hl4 := Hp.at_lay_old (.row 107 true ((pad5 e).map int)) hl3
    have a10 : (H3.lay (.row 107 true ((pad5 e).map int))).at H3.next = some (.row 107 true ((pad5 e).map int)) := Hp.at_lay_self _ _
    have ke4 : KE es H3 (H3.lay (.row 107 true ((pad5 e).map int))) := KE.grows g4
    conv => whnf
    refine bodyQ_go hl4 ?_
    intro BO hb2 eBO hbl hbk
    have hbl' := at_nx2 nH3 hbl
    have hbk' := hbk
    rw [nH3] at hbk'
    have k5 := k4.keep (l := H.next + 3) (by simp) n8l nml (by omega) hbk'
    have aP5 := hbk'.at_ _ _ (by omega) aP4
    have aC5 := hbk'.at_ _ _ (by omega) aC4
    have a105 := hbk'.at_ _ _ (by omega) a10
    have hfew4 := crowds_few hn5 k5.g.ok k5.g.nodup
    dsimp only at hfew4
    conv => whnf
    refine SeqP.go ?_
    conv => whnf
    refine ⟨_, cellAt_row k5.m.a7 rfl, ?_⟩
    conv => whnf
    refine ⟨_, all_cells a105 hepl, ?_⟩
    conv => whnf
    refine ⟨can94, ?_⟩
    refine CallP.mono (note_spec (n := n) (d := e) k5.m k5.ix k5.g.ok heok hn5 hfew4 k5.b.len) ?_
    rintro r H5 ⟨j, rfl, cs6, bv6, us6, L6, B6, f6, q1, q2, q3, q4, q5⟩
    have a86 := q3 A8 (by simp) _ k5.a8
    have aP6 := q3 H.next (by simp) _ aP5
    have aC6 := q3 (H.next + 1) (by simp) _ aC5
    have aB6 := q3 (H.next + 3) (by simp) _ hbl'
    have mk6 : ∀ x ∈ (H.next + 2) :: ms, H5.at x = some .noDefers := fun x hx => q3 x (by rcases List.mem_cons.1 hx with rfl | hx <;> simp [*]) _ (k5.mks x hx)
    have q6 : L6[i]? = some d ∧ Gp p.rules n c L6 i ∧ BfP p.rules L6 B6 i d (posN p.rules (pad5 d) p.rules.length) m ∧ i ≤ L6.length := by
      rcases q5 with ⟨rfl, rfl⟩ | ⟨hne, rfl, rfl⟩
      · exact ⟨hd3, k5.g, k5.b, k5.il⟩
      · exact ⟨getE_snoc hd3, k5.g.add k5.il hRq (List.mem_of_getElem? hd3) hse hne, k5.b.add k5.g k5.il hne, by rw [List.length_append]; have := k5.il; exact Nat.le_trans this (Nat.le_add_right _ _)⟩
    clear q5
    obtain ⟨hd6, g6, b6, il6⟩ := q6
    have hj6 := (List.getElem?_eq_some_iff.1 q4).1
    have hbl6 := b6.len
    have hul6 := q1.bl
    have hexr : ∃ row, B6[j]? = some row := ⟨_, List.getElem?_eq_getElem (by omega)⟩
    obtain ⟨row, hrow⟩ := hexr
    have hexu : ∃ u, us6[j]? = some u := ⟨_, List.getElem?_eq_getElem (by omega)⟩
    obtain ⟨u, hu⟩ := hexu
    have hub := q1.be j u row hu hrow
    have hrf := b6.few j row hrow
    have hpn := posN_len p.rules (pad5 d) p.rules.length
    have hfew6 := crowds_few hn5 g6.ok g6.nodup
    have hlb := q1.b.load hu
    obtain ⟨rb, rfl, hcb⟩ := hlb
    have huk := (LV.of hub).known
    obtain ⟨au, rfl⟩ := huk
    conv => whnf
    refine ⟨_, cellAt_row q1.r rfl, ?_⟩
    conv => whnf
    refine ⟨_, cellAt_row q1.r rfl, ?_⟩
    conv => whnf
    refine ⟨rfl, ⟨by omega, by omega⟩, ?_⟩
    conv => whnf
    refine ⟨_, hcb, ?_⟩
    conv => whnf
    refine ⟨_, cellAt_row a86 rfl, ?_⟩
    conv => whnf
    refine q1.u_app hu hrow (by omega) ?_
    intro u' H7 rb' xf H8 ⟨a', n', eu'⟩ erb atb atR st8 k8 ke7 ke8
    cases erb
    subst eu'
    conv => whnf
    refine ⟨rfl, ⟨by omega, by omega⟩, ?_⟩
    conv => whnf
    refine ⟨rfl, _, st8, ?_⟩
    conv => whnf
    refine ⟨?_, ?_⟩
    · repeat' (first | exact True.intro | (refine And.intro ?_ ?_ <;> (conv => whnf)))
      all_goals first
        | exact sameAt_val (h2 := _) rfl (sameV_int _)
        | exact sameAt_val (h2 := _) rfl (sameV_ptr _ _)
        | exact sameAt_val (h2 := _) (congrArg (hval _) (cellAt_row q1.r rfl)) (sameV_slc _ _ _ _)
        | exact sameAt_val (h2 := _) (congrArg (hval _) (cellAt_row (Hp.at_lay_old _ q1.r) rfl)) (sameV_slc _ _ _ _)
        | exact sameAt_val (h2 := _) (congrArg (hval _) (cellAt_row atR rfl)) (sameV_slc _ _ _ _)
        | exact sameAt_val (h2 := _) (show hval _ (idxSV 1 (.slice (some ⟨rb, 0, none⟩) us6.length us6.length) (int j)) = _ from idxS_val' rfl ⟨by omega, by omega⟩) (sameV_ptr _ _)
        | exact sameAt_val (h2 := _) (congrArg (hval _) hcb) (sameV_slice _ _ _)
        | exact sameAt_val (h2 := _) (congrArg (hval _) ((Grows.lay _ _).cell hcb)) (sameV_slice _ _ _)
    have hds : ∀ x ∈ es, x ∈ es ++ [H.next + 3, H.next, H.next + 1] ++ A8 :: (H.next + 2) :: ms := fun x hx => by simp [hx]
    have ke68 := ke7.trans ke8
    have a88 := ke68 A8 (by simp) _ a86
    have aP8 := ke68 H.next (by simp) _ aP6
    have aC8 := ke68 (H.next + 1) (by simp) _ aC6
    have aB8 := ke68 (H.next + 3) (by simp) _ aB6
    have mk8 : ∀ x ∈ (H.next + 2) :: ms, H8.at x = some .noDefers := fun x hx => ke68 x (by rcases List.mem_cons.1 hx with rfl | hx <;> simp [*]) _ (mk6 x hx)
    have kR8 : Rd h bp p.rules n c ⟨cs6, slc rb 0 us6.length us6.length, us6.set j (.slice a' n' n'), L6, B6.set j (row ++ [(i : Int)]), f6, H8⟩ i (m + 1) d (posN p.rules (pad5 d) p.rules.length) A8 i ((H.next + 2) :: ms) (es ++ [H.next + 3, H.next, H.next + 1]) := ⟨k8, q2, a88, k.h8, mk8, k5.nd, k5.ge, g6, b6.put hd6 hxi hse q4 hrow, il6⟩
    conv => whnf
    refine endQ_next eBO (at_nx2 nH3.symm aB8) ?_
    intro h9 hr9 hk9
    have hk9' := hk9
    rw [nH3] at hk9'
    have hr9' := at_nx2 nH3 hr9
    refine .inl ⟨rfl, hr9, ⟨_, _, _, L6, _, f6, kR8.keep (l := H.next + 3) (by simp) n8l nml (by omega) hk9', hk9'.at_ _ _ (by omega) aP8, hk9'.at_ _ _ (by omega) aC8, hd6⟩, fun x hx o ho => ?_⟩
    by_cases exl : x = H.next + 3
    · subst exl
      rw [hl3'] at ho
      cases ho
      exact hr9'
    · have e1 := hbk'.at_ x o exl (ke4 x hx o ho)
      exact hk9'.at_ x o exl (ke68 x (hds x hx) o (q3 x (hds x hx) o e1))
  · rintro h2 h3 ⟨cs', bv', us', L', B', f', q1, q2, q3, q4⟩ hkp
    rw [List.length_map] at q1
    rw [nH3] at hkp
    have nD : H.next + 3 ≠ H.next + 2 := by omega
    have q1' := q1.keep (l := H.next + 3) (by simp) (by omega) (fun hx => by
      rcases List.mem_cons.1 hx with e | hx
      · omega
      · have := Hp.lt_of_at (k.mks _ hx)
        dsimp only at this
        omega) (by omega) hkp
    have hfill : posN p.rules (pad5 d) p.rules.length = posN p.rules (pad5 d) p.rules.length := rfl
    refine ⟨(⟨cs', bv', us', L', B', f', h3⟩, H.next + 2), ⟨rfl, rfl, rfl, rfl, rfl, trivial⟩, ⟨rfl, q1'.m.less (fun x hx => by simp at hx ⊢; rcases hx with e | e | e <;> simp [e]), q1'.ix, q1'.a8, q1'.h8, q1'.mks, q1'.nd, q1'.ge, q1'.g.turn q4 (fun x e he => ?_), q1'.b.turn q4 q1'.g.nodup (by have := posN_len p.rules (pad5 d) p.rules.length; omega) (fun x e he => step_pos he), ?_⟩, congrArg (· :: ms) nH2⟩
    · obtain ⟨m, hm, em⟩ := List.getElem_of_mem (step_pos he)
      obtain ⟨j, row, h4, -⟩ := q1'.b.cur m x e hm (by rw [List.getElem?_eq_getElem hm, em]) he
      exact List.mem_of_getElem? h4
    · exact (List.getElem?_eq_some_iff.1 q4).1
  · intro h2 hF
    exact hF.elim
end
end Go.Proofs.Ytpiplaicnbapbaa
namespace Go.Proofs.Ytpiplaicnbapbaa
open Go.Rx Go.RowKit
theorem SettC.step {R : List Q4} {out : List Int} {on : Int} {c d : List Int} (h : SettC R out on c) (k : Rs R c d) : SettC R out on d := fun e he => h e (k.trans he)
theorem SettC.deci {R : List Q4} {out : List Int} {on : Int} {c : List Int} (h : SettC R out on c) : DeciC R out on c := fun d hd => ⟨d, .refl _, h.step hd⟩
theorem DeciC.step {R : List Q4} {out : List Int} {on : Int} {c d : List Int} (h : DeciC R out on c) (k : Rs R c d) : DeciC R out on d := fun e he => h e (k.trans he)
theorem some_in {n : Nat} {c : List Int} (h : CrOk n c) : ∃ s, s < n ∧ 0 < gl c s := by
  refine Classical.byContradiction fun hn => ?_
  have hz : ∀ x ∈ c, x = 0 := fun x hx => by
    obtain ⟨i, hi, rfl⟩ := List.getElem_of_mem hx
    have h1 := h.nn i
    rw [gl_at hi] at h1
    have h2 : ¬ 0 < gl c i := fun k => hn ⟨i, by rw [← h.len]; exact hi, k⟩
    rw [gl_at hi] at h2
    omega
  have : c.sum = 0 := by
    clear hn h
    induction c with
    | nil => rfl
    | cons x l ih => rw [List.sum_cons, hz x (by simp), ih fun y hy => hz y (by simp [hy])]; rfl
  have := h.s1
  omega
theorem SettC.uniq {n : Nat} {R : List Q4} {out : List Int} {a b : Int} {c : List Int} (hc : CrOk n c) (ho : out.length = n) (h : SettC R out a c) (k : SettC R out b c) : a = b := by
  obtain ⟨s, hs, hg⟩ := some_in hc
  have h1 := h c (.refl _) s (by omega) hg
  have h2 := k c (.refl _) s (by omega) hg
  omega
theorem DeciC.uniq {n : Nat} {R : List Q4} (hR : ∀ x ∈ R, QIn n x) {out : List Int} {a b : Int} {c : List Int} (hc : CrOk n c) (ho : out.length = n) (h : DeciC R out a c) (k : DeciC R out b c) : a = b := by
  obtain ⟨e, h1, h2⟩ := h c (.refl _)
  obtain ⟨f, h3, h4⟩ := k e h1
  exact SettC.uniq ((h1.trans h3).ok hR hc) ho (h2.step h3) h4
theorem FirstOf.yes {P : Int → Prop} {s : Int} (h : FirstOf P s true) : P s := by
  by_cases h0 : P 0
  · obtain ⟨rfl, -⟩ := h.1 h0; exact h0
  · by_cases h1 : P 1
    · obtain ⟨rfl, -⟩ := h.2.1 h0 h1; exact h1
    · have := (h.2.2 h0 h1).2; cases this
theorem FirstOf.of {P : Int → Prop} {s on : Int} {b : Bool} (h : FirstOf P s b) (hon : on = 0 ∨ on = 1) (k : P on) : b = true := by
  by_cases h0 : P 0
  · exact (h.1 h0).2
  · rcases hon with rfl | rfl
    · exact absurd k h0
    · exact (h.2.1 h0 k).2
theorem FirstOf.two {P : Int → Prop} {s : Int} {b : Bool} (h : FirstOf P s b) : s = 0 ∨ s = 1 := by
  by_cases h0 : P 0
  · exact .inl (h.1 h0).1
  · by_cases h1 : P 1
    · exact .inr (h.2.1 h0 h1).1
    · exact .inl (h.2.2 h0 h1).1
attribute [local irreducible] E idxN cellAt cellsAt storeAt callable helems hmoved lookIn findKey keyOk hentries Hp.at Hp.set Hp.lay arBits hupdated setAt CallP YieldP BoolOf IsWrap Rnd LoopP AppP CutP Int.tmod Int.tdiv Int.fdiv
section
variable [Unknowns]
attribute [local irreducible] ResP sameAt
theorem stays_law (hPR : PReachedOk) (hRR : RReachedOk) (ts0 : List Tr) (hy0 : TyT Try.prog 25 ts0) (t1 : Tr) (hy1 : TyT Try.prog 22 [t1]) (of_ : Int) (hof : InR of_) : ∀ h vs, AllT h vs [.ag ts0, t1, .num of_] → CallP E 14 vs h (fun r _ => r = .bool true) := by
  have hmax : maxLen < 9223372036854775808 := by decide
  intro h vs hvs
  match vs, hvs with
  | [a0, a1, a2], hvs =>
  obtain ⟨k0, k1, k2, -⟩ := hvs
  have hnum := num_inv k2
  subst hnum
  obtain ⟨P, pn, po, ps, pr, hP⟩ := prot_arg hy0
  obtain ⟨l1, rfl, hl1, -⟩ := ty_ints under22 cells3 under3 hy1
  have hP := hP h a0 k0
  have hL1 := k1.view
  obtain ⟨bp, rfl, hbp⟩ := hP.box
  have hk := hL1.known
  obtain ⟨al1, cl1, rfl⟩ := hk
  have g0 : Grows h (h.lay (.row 25 true bp)) := Grows.lay _ _
  have x0 : (h.lay (.row 25 true bp)).at h.next = some (.row 25 true bp) := Hp.at_lay_self _ _
  refine enter14 (by simp) ?_
  conv => whnf
  refine SeqP.go ?_
  conv => whnf
  refine SeqP.cut (α := Prot × List Value × Hp × Nat) (fun s => [(7, ptr s.2.2.2 0), (1, .slice al1 l1.length cl1), (2, int of_)]) (fun s H => s.2.2.1 = H ∧ Grows h s.2.2.1 ∧ s.2.2.1.at s.2.2.2 = some (.row 26 true s.2.1) ∧ s.2.1.length = 4 ∧ PV s.2.2.1 (.agg ⟨s.2.1⟩) s.1 ∧ POk s.1) ?_ ?_
  · conv => whnf
    refine ⟨bp, all_cells x0 hbp, ?_⟩
    conv => whnf
    refine CallP.mono (tame_spec _ P _ (hP.ext g0) pn (by omega) (by omega) (by omega) 4 (by omega) (by omega)) ?_
    rintro r H2 ⟨⟨x, hx, hok, -⟩, g2⟩
    obtain ⟨v1, v2, v3, rfl, e1, e2, e3⟩ := id hx
    obtain ⟨w1, rfl⟩ := e1.known
    obtain ⟨w2, rfl⟩ := e2.known
    obtain ⟨w3, rfl, -⟩ := e3.slice
    unfold pval at hx ⊢
    conv => whnf
    refine ⟨rfl, _, storeAt_all (vs := [int x.n, .slice w1 x.out.length x.out.length, .slice w2 x.start.length x.start.length, .slice w3 x.rules.length x.rules.length]) rfl rfl rfl, ?_⟩
    conv => whnf
    exact ⟨(x, [int x.n, .slice w1 x.out.length x.out.length, .slice w2 x.start.length x.start.length, .slice w3 x.rules.length x.rules.length], _, H2.next), ⟨rfl, rfl, rfl, trivial⟩, ⟨rfl, (g0.trans g2).then_lay _, Hp.at_lay_self _ _, rfl, hx.ext (Grows.lay _ _), hok⟩, rfl⟩
  rintro ⟨x, b9, H2, X⟩ φ2 _ ⟨rfl, hg2, hX, hb9, hPV, hOk⟩
  dsimp only at hg2 hX hb9 hPV hOk ⊢
  obtain ⟨b9', eb9, -, y0, -⟩ := hPV.box
  cases eb9
  have hol := hOk.outl
  have hst2 := hOk.st2
  have hrl := hOk.rl
  have hexn : ∃ n : Nat, x.n = (n : Int) := ⟨x.n.toNat, by have := hOk.n1; omega⟩
  obtain ⟨n, en⟩ := hexn
  have hn5 : n ≤ 5 := by have := hOk.n5; omega
  have hn1 : 1 ≤ n := by have := hOk.n1; omega
  rw [en] at y0
  conv => whnf
  refine SeqP.cut (α := List Value × Hp × Nat) (fun s => [(8, ptr s.2.2 0), (7, ptr X 0), (1, .slice al1 l1.length cl1), (2, int of_)]) (fun s H => s.2.1 = H ∧ Grows H2 s.2.1 ∧ s.2.1.at s.2.2 = some (.row 25 true s.1) ∧ s.1.length = 4 ∧ PV s.2.1 (.agg ⟨s.1⟩) x) ?_ ?_
  · conv => whnf
    refine ⟨b9, all_cells hX hb9, ?_⟩
    conv => whnf
    refine CallP.mono (given_spec _ x _ hPV (by omega) (by omega) (by omega)) ?_
    rintro r H3 ⟨hx, g3⟩
    obtain ⟨v1, v2, v3, rfl, e1, e2, e3⟩ := id hx
    obtain ⟨w1, rfl⟩ := e1.known
    obtain ⟨w2, rfl⟩ := e2.known
    obtain ⟨w3, rfl, -⟩ := e3.slice
    unfold pval at hx ⊢
    conv => whnf
    refine ⟨rfl, _, storeAt_all (vs := [int x.n, .slice w1 x.out.length x.out.length, .slice w2 x.start.length x.start.length, .slice w3 x.rules.length x.rules.length]) rfl rfl rfl, ?_⟩
    conv => whnf
    exact ⟨([int x.n, .slice w1 x.out.length x.out.length, .slice w2 x.start.length x.start.length, .slice w3 x.rules.length x.rules.length], _, H3.next), ⟨rfl, rfl, rfl, rfl, trivial⟩, ⟨rfl, g3.then_lay _, Hp.at_lay_self _ _, rfl, hx.ext (Grows.lay _ _)⟩, rfl⟩
  rintro ⟨b8, H3, Y⟩ φ3 _ ⟨rfl, hg3, hY, hb8, hPY⟩
  dsimp only at hg3 hY hb8 hPY ⊢
  have hX3 := hg3.at_ _ _ hX
  conv => whnf
  refine SeqP.cut (α := Value × List Int × Hp) (fun s => [(9, s.1), (8, ptr Y 0), (7, ptr X 0), (2, int of_)]) (fun s H => s.2.2 = H ∧ LV s.2.2 s.1 s.2.1 ∧ CrOk n s.2.1 ∧ Grows H3 s.2.2) ?_ ?_
  · conv => whnf
    refine ⟨_, cellAt_row hX3 y0, ?_⟩
    conv => whnf
    refine CallP.mono (gathered_spec _ l1 _ (hL1.ext (hg2.trans hg3)).ints (by omega) n 7 (by omega) (by omega) (by omega) (by omega)) ?_
    rintro r4 H4 ⟨c, hc1, hc2, hc3, hc4, hc5, g4⟩
    conv => whnf
    exact ⟨(r4, c, H4), ⟨rfl, rfl, rfl, rfl, trivial⟩, ⟨rfl, LV.of hc1, ⟨hc2, gl_mem (p := fun x => 0 ≤ x) hc3 (by omega), hc4, by show c.sum ≤ 9; omega⟩, g4⟩, rfl⟩
  rintro ⟨cvv, c, H4⟩ φ4 _ ⟨rfl, hcv, hcr, hg4⟩
  dsimp only at hcv hcr hg4 ⊢
  have hkk := hcv.known
  obtain ⟨acv, rfl⟩ := hkk
  have hX4 := hg4.at_ _ _ hX3
  have hY4 := hg4.at_ _ _ hY
  have hPX4 := hPV.ext (hg3.trans hg4)
  have hPY4 := hPY.ext hg4
  have hR : ∀ y ∈ x.rules, QIn n y := fun y hy => by
    obtain ⟨k, hk, rfl⟩ := List.getElem_of_mem hy
    rw [← en]
    exact hOk.qin k hk
  have hon : x.out.length = n := by omega
  conv => whnf
  refine SeqP.cut (α := List Value × List (List Int) × List (List Int) × Nat × Hp) (fun s => [(10, ptr s.2.2.2.1 0), (9, .slice acv c.length c.length), (8, ptr Y 0), (2, int of_)]) (fun s H => s.2.2.2.2 = H ∧ CR H s.1 x.rules n c s.2.1 s.2.2.1 ∧ Grows H4 H ∧ H.at s.2.2.2.1 = some (.row 64 true s.1)) ?_ ?_
  · conv => whnf
    refine ⟨b9, all_cells hX4 hb9, ?_⟩
    conv => whnf
    refine CallP.mono (hRR _ _ x n c _ hPX4 hcv.view hOk en hcr) ?_
    rintro r1 H1 ⟨⟨bx, L, N, rfl, hx⟩, g1⟩
    have hst := hx.stored
    obtain ⟨u0, m0, k0, u1, m1, k1, u2, m2, k2, ebx⟩ := hst
    subst ebx
    conv => whnf
    refine ⟨rfl, _, storeAt_all (vs := [.slice u0 m0 k0, .slice u1 m1 k1, .slice u2 m2 k2]) rfl rfl rfl, ?_⟩
    conv => whnf
    exact ⟨(_, L, N, H1.next, _), ⟨rfl, rfl, rfl, rfl, trivial⟩, ⟨rfl, hx.ext (Grows.lay _ _), g1.then_lay _, Hp.at_lay_self _ _⟩, rfl⟩
  rintro ⟨bx, L, N, Z, H5⟩ φ5 _ ⟨rfl, hx, hg5, hZ⟩
  dsimp only at hx hg5 hZ ⊢
  obtain ⟨hxl, hxo, ⟨lv, q0, hL⟩, -, hnx, hgr, hok, hfew, -⟩ := id hx
  have hL0 := hgr.pos
  have hLk := id hL
  obtain ⟨al, cl, rfl, hLc⟩ := hLk
  have hux := u64_of of_
  obtain ⟨u, u0, u1, hu⟩ := hux
  have hbd := tmod_bd u0 (show (0 : Int) < (L.length : Int) by omega)
  have hexa : ∃ a : Nat, u.tmod L.length = (a : Int) ∧ a < L.length := ⟨(u.tmod L.length).toNat, by omega, by omega⟩
  obtain ⟨a, hna, hal⟩ := hexa
  have hci := hLc a hal
  obtain ⟨r5, o5, sp5, w5, ea5, hsp5, hc5, hv5⟩ := hci
  subst ea5
  have hexd : ∃ d, L[a] = d := ⟨_, rfl⟩
  obtain ⟨d, ed⟩ := hexd
  have hdm : d ∈ L := by rw [← ed]; exact List.getElem_mem _
  have hrs := hgr.from_ d hdm
  have hdr := hok d hdm
  rw [ed] at hv5
  have hkk := hv5.known
  obtain ⟨a5, c5, rfl⟩ := hkk
  have hY5 := hg5.at_ _ _ hY4
  have hPY5 := hPY4.ext hg5
  have hcv5 := hcv.ext hg5
  conv => whnf
  refine SeqP.cut (α := Unit) (fun s => [(11, .slice a5 d.length c5), (9, .slice acv c.length c.length), (8, ptr Y 0)]) (fun s H => H5 = H) ?_ ?_
  · conv => whnf
    refine ⟨_, cellAt_row hZ q0, ?_⟩
    conv => whnf
    refine ⟨u, hu, ?_⟩
    conv => whnf
    refine ⟨_, cellAt_row hZ q0, ?_⟩
    conv => whnf
    refine ⟨(L.length : Int), u64_id (by omega), ?_⟩
    conv => whnf
    refine ⟨by omega, ?_⟩
    conv => whnf
    refine ⟨(a : Int), wie hna (by omega), ?_⟩
    conv => whnf
    refine ⟨hsp5, ⟨by omega, by omega⟩, ?_⟩
    conv => whnf
    refine ⟨.slice a5 d.length c5, by rw [offAt_eq, Nat.add_comm]; simpa using hc5, ?_⟩
    conv => whnf
    exact ⟨(), ⟨rfl, rfl, rfl, trivial⟩, rfl, rfl⟩
  rintro _ φ6 _ rfl
  conv => whnf
  refine SeqP.cut (α := Int × Bool × Hp) (fun s => [(12, int s.1), (13, .bool s.2.1), (14, int 0), (11, .slice a5 d.length c5), (9, .slice acv c.length c.length), (8, ptr Y 0)]) (fun s H => s.2.2 = H ∧ FirstOf (fun on => SettC x.rules x.out on c) s.1 s.2.1 ∧ Grows H5 s.2.2) ?_ ?_
  · conv => whnf
    refine ⟨b8, all_cells hY5 hb8, ?_⟩
    conv => whnf
    refine CallP.mono (Settled_ok hPR _ _ x n c _ hPY5 hcv5.view hOk en hcr) ?_
    rintro r5 H' ⟨⟨s, b, rfl, hf⟩, g5⟩
    conv => whnf
    exact ⟨(s, b, H'), ⟨rfl, rfl, rfl, rfl, rfl, rfl, trivial⟩, ⟨rfl, hf, g5⟩, rfl⟩
  rintro ⟨s0, b0', H6⟩ ψ0 _ ⟨rfl, hf0, hg6⟩
  dsimp only at hf0 hg6 ⊢
  have hY6 := hg6.at_ _ _ hY5
  have hPY6 := hPY5.ext hg6
  have hcv6 := hcv5.ext hg6
  have hv6 := hv5.ext hg6
  conv => whnf
  refine SeqP.cut (α := Int × Bool × Hp) (fun s => [(15, int s.1), (16, .bool s.2.1), (17, int 0), (12, int s0), (13, .bool b0'), (14, int 0), (11, .slice a5 d.length c5), (9, .slice acv c.length c.length), (8, ptr Y 0)]) (fun s H => s.2.2 = H ∧ FirstOf (fun on => DeciC x.rules x.out on c) s.1 s.2.1 ∧ Grows H6 s.2.2) ?_ ?_
  · conv => whnf
    refine ⟨b8, all_cells hY6 hb8, ?_⟩
    conv => whnf
    refine CallP.mono (Decides_ok hPR _ _ x n c _ hPY6 hcv6.view hOk en hcr) ?_
    rintro r5 H' ⟨⟨s, b, rfl, hf⟩, g5⟩
    conv => whnf
    exact ⟨(s, b, H'), ⟨rfl, rfl, rfl, rfl, rfl, rfl, rfl, rfl, rfl, trivial⟩, ⟨rfl, hf, g5⟩, rfl⟩
  rintro ⟨s1, b1', H7⟩ ψ1 _ ⟨rfl, hf1, hg7⟩
  dsimp only at hf1 hg7 ⊢
  have hY7 := hg7.at_ _ _ hY6
  have hPY7 := hPY6.ext hg7
  have hcv7 := hcv6.ext hg7
  have hv7 := hv6.ext hg7
  conv => whnf
  refine SeqP.cut (α := Int × Bool × Hp) (fun s => [(18, int s.1), (19, .bool s.2.1), (20, int 0), (15, int s1), (16, .bool b1'), (17, int 0), (12, int s0), (13, .bool b0'), (14, int 0), (11, .slice a5 d.length c5), (9, .slice acv c.length c.length), (8, ptr Y 0)]) (fun s H => s.2.2 = H ∧ FirstOf (fun on => DeciC x.rules x.out on d) s.1 s.2.1 ∧ Grows H7 s.2.2) ?_ ?_
  · conv => whnf
    refine ⟨b8, all_cells hY7 hb8, ?_⟩
    conv => whnf
    refine CallP.mono (Decides_ok hPR _ _ x n d _ hPY7 hv7 hOk en hdr) ?_
    rintro r5 H' ⟨⟨s, b, rfl, hf⟩, g5⟩
    conv => whnf
    exact ⟨(s, b, H'), ⟨rfl, rfl, rfl, rfl, rfl, rfl, rfl, rfl, rfl, rfl, rfl, rfl, trivial⟩, ⟨rfl, hf, g5⟩, rfl⟩
  rintro ⟨s2, b2', H8⟩ ψ2 _ ⟨rfl, hf2, hg8⟩
  dsimp only at hf2 hg8 ⊢
  have hY8 := hg8.at_ _ _ hY7
  have hPY8 := hPY7.ext hg8
  have hcv8 := hcv7.ext hg8
  have hv8 := hv7.ext hg8
  conv => whnf
  refine SeqP.cut (α := Int × Bool × Hp) (fun s => [(21, int s.1), (22, .bool s.2.1), (23, int 0), (18, int s2), (19, .bool b2'), (20, int 0), (15, int s1), (16, .bool b1'), (17, int 0), (12, int s0), (13, .bool b0'), (14, int 0), (11, .slice a5 d.length c5), (9, .slice acv c.length c.length), (8, ptr Y 0)]) (fun s H => s.2.2 = H ∧ FirstOf (fun on => SettC x.rules x.out on d) s.1 s.2.1 ∧ Grows H8 s.2.2) ?_ ?_
  · conv => whnf
    refine ⟨b8, all_cells hY8 hb8, ?_⟩
    conv => whnf
    refine CallP.mono (Settled_ok hPR _ _ x n d _ hPY8 hv8 hOk en hdr) ?_
    rintro r5 H' ⟨⟨s, b, rfl, hf⟩, g5⟩
    conv => whnf
    exact ⟨(s, b, H'), ⟨rfl, rfl, rfl, rfl, rfl, rfl, rfl, rfl, rfl, rfl, rfl, rfl, rfl, rfl, rfl, trivial⟩, ⟨rfl, hf, g5⟩, rfl⟩
  rintro ⟨s3, b3', H9⟩ ψ3 _ ⟨rfl, hf3, hg9⟩
  dsimp only at hf3 hg9 ⊢
  have hY9 := hg9.at_ _ _ hY8
  have hPY9 := hPY8.ext hg9
  have hcv9 := hcv8.ext hg9
  have hv9 := hv8.ext hg9
  have F1 : b0' = true → b1' = true ∧ s1 = s0 ∧ b3' = true ∧ s3 = s0 := fun e => by
    subst e
    have h0 := hf0.yes
    have hd := h0.deci
    have h3 := h0.step hrs
    have e1 := hf1.of hf0.two hd
    have e3 := hf3.of hf0.two h3
    subst e1 e3
    exact ⟨rfl, hf1.yes.uniq hR hcr hon hd, rfl, hf3.yes.uniq hdr hon h3⟩
  have F2 : b1' = true → b2' = true ∧ s2 = s1 := fun e => by
    subst e
    have hd := hf1.yes.step hrs
    have e1 := hf2.of hf1.two hd
    subst e1
    exact ⟨rfl, hf2.yes.uniq hR hdr hon hd⟩
  have F3 : b3' = true → b1' = true → s3 = s1 := fun e e2 => by
    subst e e2
    exact hf3.yes.deci.uniq hR hdr hon (hf1.yes.step hrs)
  clear hf0 hf1 hf2 hf3
  conv => whnf
  repeat (refine SeqP.go ?_; conv => whnf)
  refine cmpT rfl ?_
  conv => whnf
  refine cmpT rfl ?_
  conv => whnf
  refine cmpT rfl ?_
  conv => whnf
  refine cmpT rfl ?_
  cases b0' with
  | true =>
    obtain ⟨rfl, rfl, rfl, rfl⟩ := F1 rfl
    obtain ⟨rfl, rfl⟩ := F2 rfl
    conv => whnf
    refine cmpT rfl ?_
    conv => whnf
    refine cmpT rfl ?_
    conv => whnf
    refine cmpT rfl ?_
    conv => whnf
    refine cmpT rfl ?_
    conv => whnf
    refine memo27 ?_
    conv => whnf
    repeat (refine SeqP.go ?_; conv => whnf)
    rfl
  | false =>
    cases b1' with
    | true =>
      obtain ⟨rfl, rfl⟩ := F2 rfl
      cases b3' with
      | true =>
        have := F3 rfl rfl
        subst this
        conv => whnf
        refine cmpT rfl ?_
        conv => whnf
        refine cmpT rfl ?_
        conv => whnf
        refine memo27 ?_
        conv => whnf
        repeat (refine SeqP.go ?_; conv => whnf)
        rfl
      | false =>
        conv => whnf
        refine cmpT rfl ?_
        conv => whnf
        refine memo27 ?_
        conv => whnf
        repeat (refine SeqP.go ?_; conv => whnf)
        rfl
    | false =>
      cases b3' with
      | true =>
        conv => whnf
        refine memo27 ?_
        conv => whnf
        repeat (refine SeqP.go ?_; conv => whnf)
        rfl
      | false =>
        conv => whnf
        refine memo27 ?_
        conv => whnf
        repeat (refine SeqP.go ?_; conv => whnf)
        rfl
end
end Go.Proofs.Ytpiplaicnbapbaa
namespace Go.Proofs.Ytpiplaicnbapbaa
open Go.Rx Go.RowKit
section
variable [Unknowns]
theorem stays_all (ts0 : List Tr) (hy0 : TyT Try.prog 25 ts0) (t1 : Tr) (hy1 : TyT Try.prog 22 [t1]) (of_ : Int) (hof : InR of_) : ∀ h vs, AllT h vs [.ag ts0, t1, .num of_] → CallP E 14 vs h (fun r _ => r = .bool true) := stays_law PReached_ok RReached_ok ts0 hy0 t1 hy1 of_ hof
end
end Go.Proofs.Ytpiplaicnbapbaa
