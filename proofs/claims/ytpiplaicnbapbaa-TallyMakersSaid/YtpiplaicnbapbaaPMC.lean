/- Contracts of the functions that PME comes to. -/
import Derived.Test.YtpiplaicnbapbaaPMB
import Derived.Test.YtpiplaicnbapbaaWx26
set_option maxRecDepth 100000
set_option maxHeartbeats 2000000
set_option linter.unusedVariables false
set_option linter.unusedSectionVars false
set_option linter.unusedSimpArgs false
namespace Go.Proofs.Ytpiplaicnbapbaa
open Go.Rx Go.RowKit
def mv (R : List Q4) (c5 : List Int) (i : Int) : List Value := [int i, cv (after c5 (R.getD i.toNat ⟨0, 0, 0, 0⟩))]
theorem sameV_yield (l : Nat) : sameV 4 (yieldVal l) (yieldVal l) = true := by simp [sameV, yieldVal, sameL]
attribute [local irreducible] E idxN cellAt cellsAt storeAt callable helems hmoved lookIn findKey keyOk hentries Hp.at Hp.set Hp.lay arBits hupdated setAt CallP YieldP BoolOf IsWrap Rnd LoopP AppP CutP Int.tmod Int.tdiv Int.fdiv
section
variable [Unknowns]
attribute [local irreducible] ResP sameAt
theorem meet_iter (P C l : Nat) (bp : List Value) (R : List Q4) (c5 : List Int) (hbase : Hp) (v3 : Value) (b3 : bp[3]? = some v3) (k3 : RV hbase v3 R) (hbl : bp.length = 4) (hrl : R.length ≤ 15) (hc5 : c5.length = 5) (hb : ∀ j, -100 ≤ gl c5 j ∧ gl c5 j ≤ 100) (hR : ∀ k, (hk : k < R.length) → QIn 5 R[k]) (I : Nat → List Nat → Hp → Prop) (S : Hp → Prop) (h : Hp) (ext : ExtI I) (hJ : ∀ k es h, I k es h → Grows hbase h ∧ h.at P = some (.row 25 true bp) ∧ h.at C = some (.row 107 true (c5.map int))) (h0 : I 0 [] h) (hit : IterE E l ((posN R c5 R.length).map (mv R c5)) I S) : CallP E 108 [yieldVal l, ptr P 0, ptr C 0] h (fun _ h' => I ((posN R c5 R.length).map (mv R c5)).length [] h' ∨ S h') := by
  have hJ0 := hJ 0 [] h h0
  obtain ⟨gb, aP, aC⟩ := hJ0
  have hkc := k3.cells
  obtain ⟨a3, rfl, hcells⟩ := hkc
  have hexi : ∃ idx, posN R c5 R.length = idx := ⟨_, rfl⟩
  obtain ⟨idx, ei⟩ := hexi
  have hmem := posN_mem R c5 R.length
  have hil := posN_len R c5 R.length
  rw [ei] at hmem hil hit ⊢
  have hlen : (idx.map (mv R c5)).length = idx.length := List.length_map _
  rw [hlen]
  have yld : ∀ (k : Nat) (es : List Nat) (hk : k < idx.length) (q : Q4) (h : Hp), R.getD idx[k].toNat ⟨0, 0, 0, 0⟩ = q → I k es h → YieldP E l [int idx[k], cv (after c5 q)] h fun v h' => (v = .bool true ∧ I (k + 1) es h' ∧ KE es h h') ∨ (v = .bool false ∧ S h') := by
    intro k es hk q h eq hI
    have := hit k es (by rw [hlen]; exact hk) h hI
    rw [List.getElem_map] at this
    rw [← eq]
    exact this
  refine enter108 (by simp) ?_
  conv => whnf
  refine SeqP.cut (α := Value × Hp) (fun s => [(12, int 0), (11, int idx.length), (10, s.1), (2, ptr C 0), (1, ptr P 0), (0, yieldVal l)]) (fun s H => s.2 = H ∧ Grows h s.2 ∧ Built h s.2 3 s.1 idx) ?_ ?_
  · conv => whnf
    refine ⟨_, cellAt_row aP b3, ?_⟩
    conv => whnf
    refine ⟨c5.map int, all_cells aC (by rw [List.length_map, hc5]), ?_⟩
    conv => whnf
    refine CallP.mono (possible_spec _ R c5 _ (k3.ext gb) hrl hc5 hR) ?_
    rintro r1 H1 ⟨⟨l', hbl', rfl⟩, g1⟩
    rw [ei] at hbl'
    have hkk := (LV.of hbl').known
    obtain ⟨aw, rfl⟩ := hkk
    conv => whnf
    exact ⟨(_, H1), ⟨rfl, rfl, rfl, rfl, rfl, rfl, trivial⟩, ⟨rfl, g1, hbl'⟩, rfl⟩
  rintro ⟨lv, H1⟩ φ1 _ ⟨rfl, g1, hbl1⟩
  dsimp only at g1 hbl1 ⊢
  have hds : ∃ ds : List Nat, (∀ d ∈ ds, h.next ≤ d ∧ d < H1.next) ∧ ∀ H, KE ds H1 H → Built h H 3 lv idx := by
    rcases id hbl1 with ⟨e1, e2⟩ | ⟨r, e1, e2, x, e3⟩
    · exact ⟨[], fun d hd => by simp at hd, fun H _ => .inl ⟨e1, e2⟩⟩
    · exact ⟨[r], fun d hd => by rw [List.mem_singleton.1 hd]; exact ⟨e2, Hp.lt_of_at e3⟩, fun H k => .inr ⟨r, e1, e2, x, k r (by simp) _ e3⟩⟩
  obtain ⟨ds, hd1, hd2⟩ := hds
  have h1 := ext.more 0 [] h H1 ds h0 g1 hd1
  conv => whnf
  refine loop_inv (α := Nat × Hp) (fun s => [(12, int s.1), (11, int idx.length), (10, lv), (2, ptr C 0), (1, ptr P 0), (0, yieldVal l)]) (fun s => s.2) (fun s => s.1 ≤ idx.length ∧ I s.1 (ds ++ []) s.2 ∧ KE ds H1 s.2) (fun s => idx.length - s.1) (0, H1) ⟨Nat.zero_le _, h1, KE.grows (Grows.refl _)⟩ ⟨rfl, rfl, rfl, rfl, rfl, rfl, trivial⟩ (Hp.Le.refl _) ?_
  rintro ⟨k, H⟩ φ2 ⟨hk, hI, hke⟩
  dsimp only at hk hI hke ⊢
  conv => whnf
  repeat (refine SeqP.go ?_; conv => whnf)
  refine cmpB (fun c1 => ?_) (fun c1 => ?_)
  rotate_left
  · have : k = idx.length := by omega
    subst this
    conv => whnf
    repeat (refine SeqP.go ?_; conv => whnf)
    exact .inl (ext.less _ _ _ _ hI)
  have hkl : k < idx.length := by omega
  have hexx : ∃ x, idx[k] = x := ⟨_, rfl⟩
  obtain ⟨x, ex⟩ := hexx
  have hxm := (hmem x).1 (by rw [← ex]; exact List.getElem_mem _)
  obtain ⟨xn, rfl, -, hxR, hall⟩ := hxm
  have hqi := hR xn hxR
  have hkg := hcells xn hxR
  obtain ⟨rr, ear, hkc⟩ := hkg
  subst ear
  have hgd : R.getD (idx[k]).toNat ⟨0, 0, 0, 0⟩ = R[xn] := by
    rw [ex, List.getD_eq_getElem?_getD]
    show (R[xn]?).getD _ = _
    rw [List.getElem?_eq_getElem hxR]; rfl
  have hexq : ∃ q, R[xn] = q := ⟨_, rfl⟩
  obtain ⟨q, eq⟩ := hexq
  rw [eq] at hkc hqi hall hgd
  have yk := fun es h => yld k es hkl q h hgd
  rw [ex] at yk
  have hb2 := (hd2 H hke).c
  have hld := hb2.load (j := k) (w := int xn) (by rw [List.getElem?_map, List.getElem?_eq_getElem hkl, ex]; rfl)
  obtain ⟨rl, rfl, hcl⟩ := hld
  have hJk := hJ _ _ _ hI
  obtain ⟨gbk, aPk, aCk⟩ := hJk
  have hkc2 := gbk.cells hkc
  have ld4 : cellsAt H rr (offAt 0 xn 4) 4 = some [int q.a, int q.b, int q.c, int q.d] := by rw [offAt_eq]; simpa using hkc2
  conv => whnf
  refine SeqP.go ?_
  conv => whnf
  refine SeqP.cut (α := Hp) (fun s => [(12, int k), (11, int idx.length), (10, slc rl 0 idx.length idx.length), (2, ptr C 0), (1, ptr P 0), (0, yieldVal l)]) (fun s H => s = H ∧ I (k + 1) (ds ++ []) s ∧ KE ds H1 s) ?_ ?_
  rotate_left
  · rintro H3 φ3 _ ⟨rfl, hI3, hk3⟩
    conv => whnf
    refine ⟨((k + 1 : Nat) : Int), wie (by omega) (by omega), ?_⟩
    conv => whnf
    exact Rnd.mk (k + 1, H3) ⟨by show k + 1 ≤ _; omega, hI3, hk3⟩ (by show _ - (k + 1) < _ - k; omega) ⟨rfl, rfl, rfl, rfl, rfl, rfl, trivial⟩ (Hp.Le.refl _) rfl
  conv => whnf
  repeat (refine SeqP.go ?_; conv => whnf)
  refine ⟨rfl, ⟨by omega, by omega⟩, ?_⟩
  conv => whnf
  refine ⟨_, hcl, ?_⟩
  conv => whnf
  repeat (refine SeqP.go ?_; conv => whnf)
  refine ⟨c5.map int, all_cells aCk (by rw [List.length_map, hc5]), ?_⟩
  conv => whnf
  refine ⟨_, cellAt_row aPk b3, ?_⟩
  conv => whnf
  refine ⟨rfl, ⟨by omega, by omega⟩, ?_⟩
  conv => whnf
  refine ⟨_, ld4, ?_⟩
  conv => whnf
  refine CallP.mono (after_spec c5 q _ hc5 hb hqi) ?_
  rintro r2 H2 ⟨rfl, g2⟩
  have hI2 := ext.more k _ H H2 [] hI g2 (fun d hd => by simp at hd)
  conv => whnf
  refine YieldP.mono (yk _ H2 hI2) ?_
  rintro v H3 (⟨rfl, hI3, hk3⟩ | ⟨rfl, hS⟩)
  · conv => whnf
    refine ⟨?_, ?_⟩
    · repeat' (first | exact True.intro | (refine And.intro ?_ ?_ <;> (conv => whnf)))
      all_goals first
        | exact sameAt_val (h2 := _) rfl (sameV_int _)
        | exact sameAt_val (h2 := _) rfl (sameV_yield l)
    conv => whnf
    repeat (refine SeqP.go ?_; conv => whnf)
    exact ⟨H3, ⟨rfl, rfl, rfl, rfl, rfl, rfl, trivial⟩, ⟨rfl, hI3, hke.trans ((KE.grows g2).trans fun d hd o e => hk3 d (by simp [hd]) o e)⟩, rfl⟩
  · conv => whnf
    refine ⟨?_, ?_⟩
    · repeat' (first | exact True.intro | (refine And.intro ?_ ?_ <;> (conv => whnf)))
      all_goals first
        | exact sameAt_val (h2 := _) rfl (sameV_int _)
        | exact sameAt_val (h2 := _) rfl (sameV_yield l)
    conv => whnf
    repeat (refine SeqP.go ?_; conv => whnf)
    exact .inr hS
end
section
variable [Unknowns]
attribute [local irreducible] ResP sameAt finP
theorem meetings_spec (bp : List Value) (c5 : List Int) (h : Hp) : CallP E 95 [.agg ⟨bp⟩, cv c5] h (fun r h' => r = .func (.func 108) ⟨[]⟩ ⟨[ptr h.next 0, ptr (h.next + 1) 0]⟩ ∧ h' = (h.lay (.row 25 true bp)).lay (.row 107 true (c5.map int))) := by
  unfold cv
  refine enter95 (by simp) ?_
  conv => whnf
  repeat (refine SeqP.go ?_; conv => whnf)
  have e : (h.lay (.row 25 true bp)).next = h.next + 1 := Hp.next_lay _ _
  exact finP_one rfl rfl ⟨congrArg (fun k => Value.func (.func 108) ⟨[]⟩ ⟨[ptr h.next 0, ptr k 0]⟩) e, rfl⟩
end
end Go.Proofs.Ytpiplaicnbapbaa
namespace Go.Proofs.Ytpiplaicnbapbaa
open Go.Rx Go.RowKit
abbrev pl (d : Nat) : Value := slc d 0 0 0
def flat5 : List (List Int) → List Value
  | [] => []
  | d :: L => (pad5 d).map int ++ flat5 L
theorem flat5_app : ∀ (L M : List (List Int)), flat5 (L ++ M) = flat5 L ++ flat5 M
  | [], M => rfl
  | d :: L, M => by show (pad5 d).map int ++ flat5 (L ++ M) = _; rw [flat5_app L M, ← List.append_assoc]; rfl
theorem flat5_len : ∀ (L : List (List Int)), (∀ d ∈ L, d.length ≤ 5) → (flat5 L).length = L.length * 5
  | [], _ => rfl
  | d :: L, h => by
    show ((pad5 d).map int ++ flat5 L).length = _
    rw [List.length_append, List.length_map, pad5_len (h d (by simp)), flat5_len L fun x hx => h x (by simp [hx]), List.length_cons]
    omega
theorem flat5_drop : ∀ (L : List (List Int)) (k : Nat) (h : k < L.length), (∀ d ∈ L, d.length ≤ 5) → ((flat5 L).drop (k * 5)).take 5 = (pad5 L[k]).map int
  | d :: L, 0, _, hd => by
    show (((pad5 d).map int ++ flat5 L).drop (0 * 5)).take 5 = (pad5 d).map int
    rw [Nat.zero_mul, List.drop_zero]
    have hl : ((pad5 d).map int).length = 5 := by rw [List.length_map, pad5_len (hd d (by simp))]
    rw [← hl, List.take_left]
  | d :: L, k + 1, h, hd => by
    have hk : k < L.length := by simpa using h
    show (((pad5 d).map int ++ flat5 L).drop ((k + 1) * 5)).take 5 = (pad5 (L[k]'hk)).map int
    have hl : ((pad5 d).map int).length = 5 := by rw [List.length_map, pad5_len (hd d (by simp))]
    rw [List.drop_append, hl, List.drop_eq_nil_of_le (by omega), List.nil_append, show (k + 1) * 5 - 5 = k * 5 by omega]
    exact flat5_drop L k hk fun x hx => hd x (by simp [hx])
def fnote (A6 Rr : Nat) : Value := .func (.func 94) ⟨[]⟩ ⟨[ptr A6 0, ptr Rr 0]⟩
structure RPM (h H : Hp) (P X Rr A6 A7 M : Nat) (bp : List Value) (cs bv : Value) (us : List Value) (L B : List (List Int)) (f : K5 → Option Value) (m : Nat) (o1 o2 : Value) (es : List Nat) : Prop where
  gr : Grows h H
  p : H.at P = some (.row 25 true bp)
  x : H.at X = some (.row 104 true [nilS, nilS])
  r : H.at Rr = some (.row 104 true [o1, o2])
  a6 : H.at A6 = some (.row 137 true [mapAt M])
  a7 : H.at A7 = some (.row 121 true [fnote A6 Rr])
  m : MapAt H M enc5 f m
  c : BuiltC h H 107 5 cs L.length (flat5 L)
  b : BuiltC h H 22 1 bv us.length us
  bl : us.length = B.length
  be : ∀ (k : Nat) u l, us[k]? = some u → B[k]? = some l → Built h H 3 u l
  hR : h.next ≤ Rr
  hM : h.next ≤ M
  sep : Rx.Sep H (pl P :: pl X :: pl Rr :: pl A6 :: pl A7 :: pl M :: cs :: bv :: us) (es.map pl)
theorem map_kx5 {h h' : Hp} {M : Nat} {f : K5 → Option Value} {m : Nat} {v : Value} (k : MapAt h M enc5 f m) (x : Kx (ad v) h h') (a : Ap v (pl M)) : MapAt h' M enc5 f m := by
  obtain ⟨es, c, h1, h2, h3⟩ := k
  exact ⟨es, c, x.at_ h1 (fun e2 => a M e2 rfl), h2, h3⟩
section
variable {h H H' : Hp} {P X Rr A6 A7 M : Nat} {bp : List Value} {cs bv : Value} {us : List Value} {L B : List (List Int)} {f : K5 → Option Value} {m : Nat} {o1 o2 : Value} {es : List Nat}
theorem RPM.ext (k : RPM h H P X Rr A6 A7 M bp cs bv us L B f m o1 o2 es) (g : Grows H H') : RPM h H' P X Rr A6 A7 M bp cs bv us L B f m o1 o2 es :=
  ⟨k.gr.trans g, g.at_ _ _ k.p, g.at_ _ _ k.x, g.at_ _ _ k.r, g.at_ _ _ k.a6, g.at_ _ _ k.a7, k.m.ext g, k.c.ext g, k.b.ext g, k.bl, fun j u l h1 h2 => (k.be j u l h1 h2).ext g, k.hR, k.hM, k.sep.ext g⟩
theorem RPM.more (k : RPM h H P X Rr A6 A7 M bp cs bv us L B f m o1 o2 es) (g : Grows H H') (ds : List Nat) (hd : ∀ d ∈ ds, H.next ≤ d ∧ d < H'.next) : RPM h H' P X Rr A6 A7 M bp cs bv us L B f m o1 o2 (ds ++ es) := by
  refine { k.ext g with sep := ?_ }
  have s := k.sep
  refine ⟨(k.ext g).sep.oldr, fun u hu r e => ?_, s.ap, fun v hv u hu => ?_⟩
  · rw [List.map_append] at hu
    rcases List.mem_append.1 hu with hu | hu
    · obtain ⟨d, h1, rfl⟩ := List.mem_map.1 hu
      cases e
      exact (hd _ h1).2
    · exact (k.ext g).sep.olde u hu r e
  · rw [List.map_append] at hu
    rcases List.mem_append.1 hu with hu | hu
    · obtain ⟨d, h1, rfl⟩ := List.mem_map.1 hu
      intro r e1 e2
      cases e2
      have := s.oldr v hv _ e1
      have := hd _ h1
      omega
    · exact s.ape v hv u hu
theorem RPM.less (k : RPM h H P X Rr A6 A7 M bp cs bv us L B f m o1 o2 es) {es' : List Nat} (s : ∀ d ∈ es', d ∈ es) : RPM h H P X Rr A6 A7 M bp cs bv us L B f m o1 o2 es' := by
  refine { k with sep := k.sep.sub fun u hu => ?_ }
  obtain ⟨d, h1, rfl⟩ := List.mem_map.1 hu
  exact List.mem_map.2 ⟨d, s d h1, rfl⟩
theorem RPM.ke (k : RPM h H P X Rr A6 A7 M bp cs bv us L B f m o1 o2 es) {v : Value} (hv : v ∈ (pl P :: pl X :: pl Rr :: pl A6 :: pl A7 :: pl M :: cs :: bv :: us)) (x : Kx (ad v) H H') : KE es H H' :=
  KE.kx x fun d hd e => k.sep.ape v hv (pl d) (List.mem_map.2 ⟨d, hd, rfl⟩) d e rfl
theorem RPM.other (k : RPM h H P X Rr A6 A7 M bp cs bv us L B f m o1 o2 es) {d : Nat} (hd : d ∈ es) (x : Kx (some d) H H') (g : Grows h H') (hn : H.next ≤ H'.next) : RPM h H' P X Rr A6 A7 M bp cs bv us L B f m o1 o2 es := by
  have x : Kx (ad (pl d)) H H' := x
  have a : ∀ v ∈ (pl P :: pl X :: pl Rr :: pl A6 :: pl A7 :: pl M :: cs :: bv :: us), Ap (pl d) v := fun v hv => (k.sep.ape v hv (pl d) (List.mem_map.2 ⟨d, hd, rfl⟩)).symm
  exact ⟨g, ap_at (a := none) x k.p (a _ (by simp)), ap_at (a := none) x k.x (a _ (by simp)), ap_at (a := none) x k.r (a _ (by simp)), ap_at (a := none) x k.a6 (a _ (by simp)), ap_at (a := none) x k.a7 (a _ (by simp)), map_kx5 k.m x (a _ (by simp)), k.c.kx x (a _ (by simp)), k.b.kx x (a _ (by simp)), k.bl, fun j u l h1 h2 => (k.be j u l h1 h2).kx x (a _ (by simp [List.mem_of_getElem? h1])), k.hR, k.hM, k.sep.next hn⟩
theorem us_ap {v : Value} {i : Nat} {rs es : List Value} (s : Rx.Sep H (pl P :: pl X :: pl Rr :: pl A6 :: pl A7 :: pl M :: cs :: bv :: us) es) (hi : (pl P :: pl X :: pl Rr :: pl A6 :: pl A7 :: pl M :: cs :: bv :: us)[i]? = some v) (h8 : i < 8) {j : Nat} {u : Value} (hu : us[j]? = some u) : Ap v u :=
  s.ap i (j + 8) v u (by omega) hi (by simpa using hu)
theorem RPM.mapped {f' : K5 → Option Value} {m' : Nat} (k : RPM h H P X Rr A6 A7 M bp cs bv us L B f m o1 o2 es) (y : Keeps M H H') (hm : MapAt H' M enc5 f' m') : RPM h H' P X Rr A6 A7 M bp cs bv us L B f' m' o1 o2 es := by
  have x : Kx (ad (pl M)) H H' := Kx.keeps y
  have a := fun j v hj hv => k.sep.ap 5 j (pl M) v hj rfl hv
  exact ⟨y.grows k.gr k.hM, ap_at (a := none) x k.p (a 0 _ (by decide) rfl), ap_at (a := none) x k.x (a 1 _ (by decide) rfl), ap_at (a := none) x k.r (a 2 _ (by decide) rfl), ap_at (a := none) x k.a6 (a 3 _ (by decide) rfl), ap_at (a := none) x k.a7 (a 4 _ (by decide) rfl), hm, k.c.kx x (a 6 _ (by decide) rfl), k.b.kx x (a 7 _ (by decide) rfl), k.bl, fun j u l h1 h2 => (k.be j u l h1 h2).kx x (us_ap (rs := []) k.sep (i := 5) rfl (by decide) h1), k.hR, k.hM, k.sep.next (by rw [y.next]; exact Nat.le_refl _)⟩
theorem RPM.put (k : RPM h H P X Rr A6 A7 M bp cs bv us L B f m o1 o2 es) (o1' o2' : Value) : RPM h (H.set Rr (.row 104 true [o1', o2'])) P X Rr A6 A7 M bp cs bv us L B f m o1' o2' es := by
  have x : Kx (ad (pl Rr)) H (H.set Rr (.row 104 true [o1', o2'])) := Kx.set _ _ _
  have a := fun j v hj hv => k.sep.ap 2 j (pl Rr) v hj rfl hv
  exact ⟨k.gr.then_set _ k.hR, ap_at (a := none) x k.p (a 0 _ (by decide) rfl), ap_at (a := none) x k.x (a 1 _ (by decide) rfl), Hp.at_set_self _ (Hp.lt_of_at k.r), ap_at (a := none) x k.a6 (a 3 _ (by decide) rfl), ap_at (a := none) x k.a7 (a 4 _ (by decide) rfl), map_kx5 k.m x (a 5 _ (by decide) rfl), k.c.kx x (a 6 _ (by decide) rfl), k.b.kx x (a 7 _ (by decide) rfl), k.bl, fun j u l h1 h2 => (k.be j u l h1 h2).kx x (us_ap (rs := []) k.sep (i := 2) rfl (by decide) h1), k.hR, k.hM, k.sep.next (Nat.le_refl _)⟩
theorem RPM.c_app {d : List Int} {b : Bool} {K : Value → Hp → Prop} (k : RPM h H P X Rr A6 A7 M bp cs bv us L B f m o1 o2 es) (hd : d.length ≤ 5) (hl : L.length ≤ 1000000)
    (q : ∀ cs' H', RPM h H' P X Rr A6 A7 M bp cs' bv us (L ++ [d]) B f m o1 o2 es → KE es H H' → K cs' H') : AppP E (H.lay (.row 107 b ((pad5 d).map int))) 107 5 40 cs (slc H.next 0 1 1) K := by
  have k1 := k.ext (Grows.lay H (.row 107 b ((pad5 d).map int)))
  have hp : ((pad5 d).map int).length = 5 := by rw [List.length_map, pad5_len hd]
  refine AppP.cellsF k1.c k1.gr (m := 1) (new := (pad5 d).map int) ⟨rfl, ?_, by rw [hp], ints_one _⟩ (by omega) (by omega) (by omega) ?_
  · show cellsAt (H.lay (.row 107 b ((pad5 d).map int))) H.next 0 (1 * 5) = _
    exact all_cells (Hp.at_lay_self _ _) hp
  intro v' H' hb' hg' hkeep ⟨r', er, hr'⟩
  have x := Kx.builtC k1.c hkeep
  have hv : ∀ r, ad v' = some r → (H.lay (.row 107 b ((pad5 d).map int))).next ≤ r ∧ r < H'.next := fun r e => ⟨by rw [er] at e; cases e; exact hr', (hb'.ad_lt r e).2⟩
  have hnx : (H.lay (.row 107 b ((pad5 d).map int))).next ≤ H'.next := by have := hv r' (by rw [er]; rfl); omega
  have a := fun j v hj hv => k1.sep.ap 6 j cs v hj rfl hv
  refine q _ _ ⟨hg', ap_at (a := none) x k1.p (a 0 _ (by decide) rfl), ap_at (a := none) x k1.x (a 1 _ (by decide) rfl), ap_at (a := none) x k1.r (a 2 _ (by decide) rfl), ap_at (a := none) x k1.a6 (a 3 _ (by decide) rfl), ap_at (a := none) x k1.a7 (a 4 _ (by decide) rfl), map_kx5 k1.m x (a 5 _ (by decide) rfl), ?_, k1.b.kx x (a 7 _ (by decide) rfl), k1.bl, fun j u l h1 h2 => (k1.be j u l h1 h2).kx x (us_ap (rs := []) k1.sep (i := 6) rfl (by decide) h1), k.hR, k.hM, k1.sep.move hnx 6 hv⟩ ((KE.grows (Grows.lay _ _)).trans (k1.ke (by simp) x))
  rw [List.length_append, flat5_app]
  show BuiltC _ _ _ _ _ _ (flat5 L ++ ((pad5 d).map int ++ []))
  rw [List.append_nil]
  exact hb'
theorem RPM.c_app' {d : List Int} {new : List Value} {b : Bool} {K : Value → Hp → Prop} (k : RPM h H P X Rr A6 A7 M bp cs bv us L B f m o1 o2 es) (hd : d.length ≤ 5) (hl : L.length ≤ 1000000) (ep : (pad5 d).map int = new)
    (q : ∀ cs' H', RPM h H' P X Rr A6 A7 M bp cs' bv us (L ++ [d]) B f m o1 o2 es → KE es H H' → K cs' H') : AppP E (H.lay (.row 107 b new)) 107 5 40 cs (slc H.next 0 1 1) K := by
  subst ep
  exact k.c_app hd hl q
theorem pad5_five {d : List Int} (h : d.length ≤ 5) : ∃ a b c e g : Int, (pad5 d).map int = [int a, int b, int c, int e, int g] := by
  have := pad5_len h
  match pad5 d, this with
  | [a, b, c, e, g], _ => exact ⟨a, b, c, e, g, rfl⟩
theorem RPM.b_app {b : Bool} {K : Value → Hp → Prop} (k : RPM h H P X Rr A6 A7 M bp cs bv us L B f m o1 o2 es) (hl : us.length ≤ 1000000)
    (q : ∀ bv' H', RPM h H' P X Rr A6 A7 M bp cs bv' (us ++ [nilS]) L (B ++ [[]]) f m o1 o2 es → KE es H H' → K bv' H') : AppP E (H.lay (.row 22 b [nilS])) 22 1 24 bv (slc H.next 0 1 1) K := by
  have k1 := k.ext (Grows.lay H (.row 22 b [nilS]))
  refine AppP.cellsF k1.b k1.gr (elemsC_one (u := nilS) rfl) (by omega) (by omega) (by omega) ?_
  intro v' H' hb' hg' hkeep ⟨r', er, hr'⟩
  have x := Kx.builtC k1.b hkeep
  have hv : ∀ r, ad v' = some r → (H.lay (.row 22 b [nilS])).next ≤ r ∧ r < H'.next := fun r e => ⟨by rw [er] at e; cases e; exact hr', (hb'.ad_lt r e).2⟩
  have hnx : (H.lay (.row 22 b [nilS])).next ≤ H'.next := by have := hv r' (by rw [er]; rfl); omega
  have a := fun j v hj hv => k1.sep.ap 7 j bv v hj rfl hv
  refine q _ _ ⟨hg', ap_at (a := none) x k1.p (a 0 _ (by decide) rfl), ap_at (a := none) x k1.x (a 1 _ (by decide) rfl), ap_at (a := none) x k1.r (a 2 _ (by decide) rfl), ap_at (a := none) x k1.a6 (a 3 _ (by decide) rfl), ap_at (a := none) x k1.a7 (a 4 _ (by decide) rfl), map_kx5 k1.m x (a 5 _ (by decide) rfl), k1.c.kx x (a 6 _ (by decide) rfl), by rw [List.length_append]; exact hb', by rw [List.length_append, List.length_append, k1.bl]; rfl, fun j u l h1 h2 => ?_, k.hR, k.hM, ?_⟩ ((KE.grows (Grows.lay _ _)).trans (k1.ke (by simp) x))
  · have hbl := k1.bl
    by_cases hj : j < us.length
    · rw [List.getElem?_append_left hj] at h1
      rw [List.getElem?_append_left (by omega)] at h2
      exact (k1.be j u l h1 h2).kx x (us_ap (rs := []) k1.sep (i := 7) rfl (by decide) h1)
    · have h3 := (List.getElem?_eq_some_iff.1 h1).1
      rw [List.length_append, List.length_singleton] at h3
      have : j = us.length := by omega
      subst this
      rw [List.getElem?_append_right (Nat.le_refl _)] at h1
      rw [hbl, List.getElem?_append_right (Nat.le_refl _)] at h2
      simp at h1 h2
      subst h1; subst h2
      exact .inl ⟨rfl, rfl⟩
  · exact (k1.sep.move hnx 7 hv).addR (Nat.le_refl _) (v' := nilS) (fun r e => by cases e)
theorem set_get {α : Type} {l : List α} {i j : Nat} {x y : α} (h : (l.set i x)[j]? = some y) : (j = i ∧ y = x) ∨ (j ≠ i ∧ l[j]? = some y) := by
  rw [List.getElem?_set] at h
  by_cases e : i = j
  · subst e
    rw [if_pos rfl] at h
    split at h
    · cases h; exact .inl ⟨rfl, rfl⟩
    · cases h
  · rw [if_neg e] at h
    exact .inr ⟨fun x => e x.symm, h⟩
theorem RPM.u_app {i : Nat} {u : Value} {l : List Int} {z : Int} {b : Bool} {K : Value → Hp → Prop} (k : RPM h H P X Rr A6 A7 M bp cs bv us L B f m o1 o2 es) (hu : us[i]? = some u) (hB : B[i]? = some l) (hl : l.length ≤ 10000000)
    (q : ∀ u' H' rb x H2, (∃ a n, u' = .slice a n n) → bv = slc rb 0 us.length us.length → H'.at rb = some (.row 22 x us) → H'.at Rr = some (.row 104 true [o1, o2]) → storeAt H' rb (offAt 0 i 1) [u'] = some H2 → RPM h H2 P X Rr A6 A7 M bp cs bv (us.set i u') L (B.set i (l ++ [z])) f m o1 o2 es → KE es H H' → KE es H' H2 → K u' H') : AppP E (H.lay (.row 3 b [int z])) 3 1 8 u (slc H.next 0 1 1) K := by
  have k1 := k.ext (Grows.lay H (.row 3 b [int z]))
  have hul : i < us.length := (List.getElem?_eq_some_iff.1 hu).1
  have hu1 := k1.be i u l hu hB
  have hu8 : (pl P :: pl X :: pl Rr :: pl A6 :: pl A7 :: pl M :: cs :: bv :: us)[i + 8]? = some u := by simpa using hu
  refine AppP.cellsF hu1.c k1.gr (elemsC_one (u := int z) rfl) (by omega) (by omega) (by omega) ?_
  intro v' H' hb' hg' hkeep ⟨r', er, hr'⟩
  have x := Kx.builtC hu1.c hkeep
  have hv : ∀ r, ad v' = some r → (H.lay (.row 3 b [int z])).next ≤ r ∧ r < H'.next := fun r e => ⟨by rw [er] at e; cases e; exact hr', (hb'.ad_lt r e).2⟩
  have hnx : (H.lay (.row 3 b [int z])).next ≤ H'.next := by have := hv r' (by rw [er]; rfl); omega
  have a := fun j v (hj : j < 8) hv => k1.sep.ap (i + 8) j u v (by omega) hu8 hv
  have b1 := k1.b.kx x (a 7 _ (by decide) rfl)
  have hbx : ∃ rb y, bv = slc rb 0 us.length us.length ∧ H'.at rb = some (.row 22 y us) := by
    obtain ⟨_, ⟨_, e0⟩ | ⟨rb, e1, _, y, e2⟩⟩ := b1
    · omega
    · exact ⟨rb, y, e1, e2⟩
  obtain ⟨rb, y, e1, e2⟩ := hbx
  have ov : oneCell v' = true := by rw [er]; rfl
  have st := storeAt_row (o := i) (v := v') e2 hul ov
  have sep2 := k1.sep.move hnx (i + 8) hv
  have xb : Kx (ad bv) H' (H'.set rb (.row 22 y (us.set i v'))) := by rw [e1]; exact Kx.set _ _ _
  have a2 := fun j v (hj : j ≠ 7) hv => sep2.ap 7 j bv v (fun e => hj e.symm) rfl hv
  have hbl := k1.bl
  refine q v' H' rb y (H'.set rb (.row 22 y (us.set i v'))) ⟨_, _, er⟩ e1 e2 (ap_at (a := none) x k1.r (a 2 _ (by decide) rfl)) (by rw [offAt_eq, Nat.zero_add, Nat.mul_one]; exact st) ⟨?_, ?_, ?_, ?_, ?_, ?_, ?_, ?_, ?_, ?_, ?_, k.hR, k.hM, ?_⟩ ((KE.grows (Grows.lay _ _)).trans (k1.ke (List.mem_of_getElem? hu8) x)) ?_
  · exact hg'.then_set _ (by have := (k1.b.ad_lt rb (by rw [e1]; rfl)).1; exact this)
  · exact ap_at (a := none) xb (ap_at (a := none) x k1.p (a 0 _ (by decide) rfl)) (a2 0 _ (by decide) rfl)
  · exact ap_at (a := none) xb (ap_at (a := none) x k1.x (a 1 _ (by decide) rfl)) (a2 1 _ (by decide) rfl)
  · exact ap_at (a := none) xb (ap_at (a := none) x k1.r (a 2 _ (by decide) rfl)) (a2 2 _ (by decide) rfl)
  · exact ap_at (a := none) xb (ap_at (a := none) x k1.a6 (a 3 _ (by decide) rfl)) (a2 3 _ (by decide) rfl)
  · exact ap_at (a := none) xb (ap_at (a := none) x k1.a7 (a 4 _ (by decide) rfl)) (a2 4 _ (by decide) rfl)
  · exact map_kx5 (map_kx5 k1.m x (a 5 _ (by decide) rfl)) xb (a2 5 _ (by decide) rfl)
  · exact (k1.c.kx x (a 6 _ (by decide) rfl)).kx xb (a2 6 _ (by decide) rfl)
  · refine ⟨by rw [Nat.mul_one], .inr ⟨rb, by rw [List.length_set]; exact e1, (k1.b.ad_lt rb (by rw [e1]; rfl)).1, y, Hp.at_set_self _ (Hp.lt_of_at e2)⟩⟩
  · rw [List.length_set, List.length_set]; exact hbl
  · intro j w ll h1 h2
    rcases set_get h1 with ⟨rfl, rfl⟩ | ⟨hj, h3⟩
    · rw [List.getElem?_set_self (by omega)] at h2
      cases h2
      have e3 : BuiltC h H' 3 1 w (l ++ [z]).length ((l ++ [z]).map int) := by rw [List.length_append, List.map_append]; exact hb'
      exact e3.b.kx xb (a2 (j + 8) w (by omega) (by show (us.set j w)[j]? = some w; rw [List.getElem?_set_self hul]))
    · rw [List.getElem?_set_ne (fun e => hj e.symm)] at h2
      have e3 := (k1.be j w ll h3 h2).kx x (k1.sep.ap (i + 8) (j + 8) u w (by omega) hu8 (by simpa using h3))
      exact e3.kx xb (a2 (j + 8) w (by omega) (by show (us.set i v')[j]? = some w; exact h1))
  · exact sep2.next (Nat.le_refl _)
  · exact KE.kx xb fun d hd e => sep2.ape bv (by simp) (pl d) (List.mem_map.2 ⟨d, hd, rfl⟩) d e rfl
end
end Go.Proofs.Ytpiplaicnbapbaa
namespace Go.Proofs.Ytpiplaicnbapbaa
open Go.Rx Go.RowKit
def kk (d : List Int) : K5 := k5 (pad5 d)
def NoteR (h : Hp) (P X Rr A6 A7 M : Nat) (bp : List Value) (L B : List (List Int)) (es : List Nat) (d : List Int) (H H' : Hp) (k : Nat) : Prop := ∃ (cs bv : Value) (us : List Value) (L' B' : List (List Int)) (f : K5 → Option Value), RPM h H' P X Rr A6 A7 M bp cs bv us L' B' f L'.length cs bv es ∧ IxOf kk L' f ∧ KE es H H' ∧ L'[k]? = some d ∧ ((L' = L ∧ B' = B) ∨ (d ∉ L ∧ L' = L ++ [d] ∧ B' = B ++ [[]]))
attribute [local irreducible] E idxN cellAt cellsAt storeAt callable helems hmoved lookIn findKey keyOk hentries Hp.at Hp.set Hp.lay arBits hupdated setAt CallP YieldP BoolOf IsWrap Rnd LoopP AppP CutP Int.tmod Int.tdiv Int.fdiv
section
variable [Unknowns]
attribute [local irreducible] ResP sameAt
theorem note_spec {h H : Hp} {P X Rr A6 A7 M : Nat} {bp : List Value} {cs bv : Value} {us : List Value} {L B : List (List Int)} {f : K5 → Option Value} {es : List Nat} {n : Nat} {d : List Int} (k : RPM h H P X Rr A6 A7 M bp cs bv us L B f L.length cs bv es) (hix : IxOf kk L f) (hL : ∀ x ∈ L, CrOk n x) (hd : CrOk n d) (hn : n ≤ 5) (hlen : L.length ≤ 100000) (hBL : B.length = L.length) : CallP E 94 [cv (pad5 d), ptr A6 0, ptr Rr 0] H (fun r H' => ∃ i : Nat, r = int i ∧ NoteR h P X Rr A6 A7 M bp L B es d H H' i) := by
  have hdl := hd.len
  have hp5 : (pad5 d).length = 5 := pad5_len (by omega)
  have hpl : ((pad5 d).map int).length = 5 := by rw [List.length_map, hp5]
  obtain ⟨i137, t137, d137⟩ := ty137
  obtain ⟨i3, t3, _, z3⟩ := ty3
  have inj : ∀ x ∈ L, kk x = kk d → x = d := fun x hx e2 => k5_pad (hL x hx) hd hn e2
  have ekey : Value.agg ⟨(pad5 d).map int⟩ = enc5 (kk d) := (enc_k5 hp5).symm
  have k1 := k.more (Grows.lay H (.row 107 true ((pad5 d).map int))) [H.next] (fun x hx => by rw [List.mem_singleton.1 hx, Hp.next_lay]; omega)
  have a3 : (H.lay (.row 107 true ((pad5 d).map int))).at H.next = some (.row 107 true ((pad5 d).map int)) := Hp.at_lay_self _ _
  have ke0 : KE es H (H.lay (.row 107 true ((pad5 d).map int))) := KE.grows (Grows.lay _ _)
  unfold cv
  refine enter94 (by simp) ?_
  conv => whnf
  refine SeqP.cut (α := Hp) (fun s => [(4, int 0), (3, ptr H.next 0), (2, ptr Rr 0), (1, ptr A6 0)]) (fun s H' => s = H' ∧ RPM h s P X Rr A6 A7 M bp cs bv us L B f L.length cs bv ([H.next] ++ es) ∧ s.at H.next = some (.row 107 true ((pad5 d).map int)) ∧ KE es H s) ?_ ?_
  · conv => whnf
    exact ⟨_, ⟨rfl, rfl, rfl, rfl, trivial⟩, ⟨rfl, k1, a3, ke0⟩, rfl⟩
  clear k1 a3 ke0
  rintro H1 φ1 _ ⟨rfl, k1, a3, ke1⟩
  conv => whnf
  refine SeqP.cut (α := Int × Bool) (fun s => [(6, .bool s.2), (5, int s.1), (3, ptr H.next 0), (2, ptr Rr 0), (1, ptr A6 0)]) (fun s H' => H1 = H' ∧ (s.2 = false → f (kk d) = none) ∧ (s.2 = true → ∃ a : Nat, s.1 = a ∧ L[a]? = some d)) ?_ ?_
  · conv => whnf
    refine ⟨mapAt M, cellAt_row k1.a6 rfl, ?_⟩
    conv => whnf
    refine ⟨_, all_cells a3 hpl, ?_⟩
    conv => whnf
    cases hf : f (kk d) with
    | none =>
      refine raw_look2_none t137 d137 t3 z3 key107 (k := kk d) rfl (by exact ekey) k1.m hf ?_
      conv => whnf
      exact ⟨(_, false), ⟨rfl, rfl, rfl, rfl, rfl, trivial⟩, ⟨rfl, fun _ => rfl, fun e2 => (by cases e2)⟩, rfl⟩
    | some x =>
      have hix2 := hix.some_iff inj hf
      obtain ⟨a, ha, e2, rfl⟩ := hix2
      refine raw_look2_some t137 d137 t3 z3 key107 (k := kk d) rfl (by exact ekey) k1.m hf ?_
      conv => whnf
      exact ⟨(_, true), ⟨rfl, rfl, rfl, rfl, rfl, trivial⟩, ⟨rfl, fun e2 => (by cases e2), fun _ => ⟨a, rfl, by rw [List.getElem?_eq_getElem ha, e2]⟩⟩, rfl⟩
  rintro ⟨kv, b⟩ φ2 _ ⟨rfl, w1, w2⟩
  dsimp only at w1 w2 ⊢
  conv => whnf
  refine SeqP.cut (α := Nat × Hp) (fun s => [(5, int s.1)]) (fun s H' => s.2 = H' ∧ NoteR h P X Rr A6 A7 M bp L B es d H s.2 s.1) ?_ ?_
  rotate_left
  · rintro ⟨i, H9⟩ φ9 _ ⟨rfl, h9⟩
    dsimp only at h9 ⊢
    conv => whnf
    repeat (refine SeqP.go ?_; conv => whnf)
    exact ⟨i, rfl, h9⟩
  cases b with
  | true =>
    have w3 := w2 rfl
    obtain ⟨a, rfl, ha⟩ := w3
    conv => whnf
    repeat (refine SeqP.go ?_; conv => whnf)
    exact ⟨(a, H1), ⟨rfl, trivial⟩, ⟨rfl, cs, bv, us, L, B, f, k1.less (fun x hx => by simp [hx]), hix, ke1, ha, .inl ⟨rfl, rfl⟩⟩, rfl⟩
  | false =>
    have hf := w1 rfl
    have hnew : d ∉ L := hix.none_iff inj hf
    have hkc := k1.c.slice
    obtain ⟨ac, rfl, -⟩ := hkc
    have hkb := k1.b.slice
    obtain ⟨ab, rfl, -⟩ := hkb
    have hbl := k1.bl
    conv => whnf
    repeat (refine SeqP.go ?_; conv => whnf)
    refine ⟨_, cellAt_row k1.r rfl, ?_⟩
    conv => whnf
    repeat (refine SeqP.go ?_; conv => whnf)
    refine ⟨mapAt M, cellAt_row k1.a6 rfl, ?_⟩
    conv => whnf
    refine ⟨_, all_cells a3 hpl, ?_⟩
    conv => whnf
    refine raw_update t137 d137 key107 (k := kk d) (v := int L.length) rfl (by exact ekey) rfl k1.m ?_
    intro H2 hm2 y2
    rw [hf] at hm2
    have k2 := k1.mapped y2 hm2
    have ke2 : KE ([H.next] ++ es) H1 H2 := k1.ke (v := pl M) (by simp) (Kx.keeps y2)
    have a32 := ke2 H.next (by simp) _ a3
    conv => whnf
    repeat (refine SeqP.go ?_; conv => whnf)
    refine ⟨_, cellAt_row k2.r rfl, ?_⟩
    conv => whnf
    have h5 := pad5_five (d := d) (by omega)
    obtain ⟨v1, v2, v3, v4, v5, e5⟩ := h5
    have a33 := a32
    rw [e5] at a33
    refine ⟨[int v1, int v2, int v3, int v4, int v5], all_cells a33 rfl, ?_⟩
    conv => whnf
    refine k2.c_app' (d := d) (by omega) (by omega) e5 ?_
    intro cs3 H3 k3 ke3
    have hkc3 := k3.c.slice
    obtain ⟨ac3, rfl, -⟩ := hkc3
    conv => whnf
    refine ⟨rfl, _, storeAt_row k3.r (o := 0) (by simp) rfl, ?_⟩
    have k4 := k3.put (.slice ac3 (L ++ [d]).length (L ++ [d]).length) (.slice ab us.length us.length)
    have ke4 : KE ([H.next] ++ es) H3 (H3.set Rr (.row 104 true [.slice ac3 (L ++ [d]).length (L ++ [d]).length, .slice ab us.length us.length])) := k3.ke (v := pl Rr) (by simp) (Kx.set _ _ _)
    conv => whnf
    repeat (refine SeqP.go ?_; conv => whnf)
    refine ⟨_, cellAt_row k4.r rfl, ?_⟩
    conv => whnf
    refine k4.b_app (by omega) ?_
    intro bv5 H5 k5 ke5
    have hkb5 := k5.b.slice
    obtain ⟨ab5, rfl, -⟩ := hkb5
    conv => whnf
    refine ⟨rfl, _, storeAt_row k5.r (o := 1) (by simp) rfl, ?_⟩
    have k6 := k5.put (.slice ac3 (L ++ [d]).length (L ++ [d]).length) (.slice ab5 (us ++ [nilS]).length (us ++ [nilS]).length)
    have ke6 : KE ([H.next] ++ es) H5 (H5.set Rr (.row 104 true [.slice ac3 (L ++ [d]).length (L ++ [d]).length, .slice ab5 (us ++ [nilS]).length (us ++ [nilS]).length])) := k5.ke (v := pl Rr) (by simp) (Kx.set _ _ _)
    conv => whnf
    refine ⟨(L.length, _), ⟨rfl, trivial⟩, ⟨rfl, _, _, _, L ++ [d], B ++ [[]], _, (show RPM _ _ _ _ _ _ _ _ _ _ _ _ _ _ _ (L ++ [d]).length _ _ _ from by rw [List.length_append]; rw [List.length_append] at k6; exact k6.less (fun x hx => by simp [hx])), hix.add hf, ke1.trans ((((ke2.trans ke3).trans ke4).trans (ke5.trans ke6)).mono (fun x hx => by simp [hx])), ?_, .inr ⟨hnew, rfl, rfl⟩⟩, rfl⟩
    rw [List.getElem?_append_right (Nat.le_refl _)]
    simp
end
end Go.Proofs.Ytpiplaicnbapbaa
namespace Go.Proofs.Ytpiplaicnbapbaa
open Go.Rx Go.RowKit
structure BfP (R : List Q4) (L B : List (List Int)) (i : Nat) (d : List Int) (idx : List Int) (r : Nat) : Prop where
  len : B.length = L.length
  fwd : ∀ (j : Nat) (row : List Int), B[j]? = some row → ∀ x ∈ row, ∃ k : Nat, x = (k : Int) ∧ Ed R L k j
  bwd : ∀ (k j : Nat), k < i → Ed R L k j → ∃ row, B[j]? = some row ∧ (k : Int) ∈ row
  cur : ∀ (m : Nat) (x : Int) (e : List Int), m < r → idx[m]? = some x → step R d x = some e → ∃ (j : Nat) (row : List Int), L[j]? = some e ∧ B[j]? = some row ∧ (i : Int) ∈ row
  few : ∀ (j : Nat) (row : List Int), B[j]? = some row → row.length ≤ 15 * i + r
theorem Ed.old {R : List Q4} {L : List (List Int)} {a b : Nat} (h : Ed R L a b) (x : List Int) : Ed R (L ++ [x]) a b := by
  obtain ⟨d, e, i, h1, h2, h3⟩ := h
  exact ⟨d, e, i, getE_snoc h1, getE_snoc h2, h3⟩
theorem BfP.add {R : List Q4} {n : Nat} {c : List Int} {L B : List (List Int)} {i : Nat} {d : List Int} {idx : List Int} {r : Nat} (k : BfP R L B i d idx r) (g : Gp R n c L i) (hi : i ≤ L.length) {x : List Int} (hx : x ∉ L) : BfP R (L ++ [x]) (B ++ [[]]) i d idx r := by
  have hl := k.len
  have snoc : ∀ {j : Nat} {row : List Int}, (B ++ [[]])[j]? = some row → B[j]? = some row ∨ (j = B.length ∧ row = []) := by
    intro j row h
    by_cases e : j < B.length
    · rw [List.getElem?_append_left e] at h; exact .inl h
    · have h1 := (List.getElem?_eq_some_iff.1 h).1
      rw [List.length_append, List.length_singleton] at h1
      have : j = B.length := by omega
      subst this
      rw [List.getElem?_append_right (Nat.le_refl _)] at h
      simp at h
      exact .inr ⟨rfl, h⟩
  refine ⟨by rw [List.length_append, List.length_append, hl]; rfl, fun j row hr y hy => ?_, fun a j ha he => ?_, fun m y e hm hy hs => ?_, fun j row hr => ?_⟩
  · rcases snoc hr with h | ⟨_, rfl⟩
    · obtain ⟨a, h1, h2⟩ := k.fwd j row h y hy
      exact ⟨a, h1, h2.old x⟩
    · simp at hy
  · obtain ⟨d', e, y, h1, h2, h3⟩ := he
    rw [List.getElem?_append_left (by omega)] at h1
    have hm := g.clo a d' ha h1 y e h3
    by_cases hj : j < L.length
    · rw [List.getElem?_append_left hj] at h2
      obtain ⟨row, h4, h5⟩ := k.bwd a j ha ⟨d', e, y, h1, h2, h3⟩
      exact ⟨row, by rw [List.getElem?_append_left (by omega)]; exact h4, h5⟩
    · have h4 := (List.getElem?_eq_some_iff.1 h2).1
      rw [List.length_append, List.length_singleton] at h4
      have : j = L.length := by omega
      subst this
      rw [List.getElem?_append_right (Nat.le_refl _)] at h2
      simp at h2
      subst h2
      exact absurd hm hx
  · obtain ⟨j, row, h1, h2, h3⟩ := k.cur m y e hm hy hs
    have := (List.getElem?_eq_some_iff.1 h2).1
    exact ⟨j, row, getE_snoc h1, by rw [List.getElem?_append_left this]; exact h2, h3⟩
  · rcases snoc hr with h | ⟨_, rfl⟩
    · exact k.few j row h
    · simp
theorem BfP.put {R : List Q4} {L B : List (List Int)} {i : Nat} {d e : List Int} {idx : List Int} {r : Nat} {x : Int} {j : Nat} {row : List Int} (k : BfP R L B i d idx r) (hd : L[i]? = some d) (hx : idx[r]? = some x) (hs : step R d x = some e) (hj : L[j]? = some e) (hB : B[j]? = some row) : BfP R L (B.set j (row ++ [(i : Int)])) i d idx (r + 1) := by
  have hjB := (List.getElem?_eq_some_iff.1 hB).1
  refine ⟨by rw [List.length_set]; exact k.len, fun a row' hr y hy => ?_, fun a b ha he => ?_, fun m y e' hm hy hs' => ?_, fun a row' hr => ?_⟩
  · rcases set_get hr with ⟨rfl, rfl⟩ | ⟨_, h2⟩
    · rcases List.mem_append.1 hy with hy | hy
      · exact k.fwd _ _ hB y hy
      · exact ⟨i, List.mem_singleton.1 hy, d, e, x, hd, hj, hs⟩
    · exact k.fwd _ _ h2 y hy
  · obtain ⟨row', h1, h2⟩ := k.bwd a b ha he
    by_cases eb : b = j
    · subst eb
      rw [hB] at h1
      cases h1
      exact ⟨_, by rw [List.getElem?_set_self hjB], List.mem_append_left _ h2⟩
    · exact ⟨row', by rw [List.getElem?_set_ne (fun e => eb e.symm)]; exact h1, h2⟩
  · have keep : ∀ (a : Nat) (row' : List Int), B[a]? = some row' → (i : Int) ∈ row' → ∃ row2, (B.set j (row ++ [(i : Int)]))[a]? = some row2 ∧ (i : Int) ∈ row2 := by
      intro a row' h1 h2
      by_cases ea : a = j
      · subst ea
        exact ⟨_, by rw [List.getElem?_set_self hjB], by simp⟩
      · exact ⟨row', by rw [List.getElem?_set_ne (fun e => ea e.symm)]; exact h1, h2⟩
    by_cases em : m = r
    · subst em
      rw [hx] at hy
      cases hy
      rw [hs] at hs'
      cases hs'
      exact ⟨j, _, hj, by rw [List.getElem?_set_self hjB], by simp⟩
    · obtain ⟨a, row', h1, h2, h3⟩ := k.cur m y e' (by omega) hy hs'
      obtain ⟨row2, h4, h5⟩ := keep a row' h2 h3
      exact ⟨a, row2, h1, h4, h5⟩
  · rcases set_get hr with ⟨rfl, rfl⟩ | ⟨_, h2⟩
    · have := k.few _ _ hB
      rw [List.length_append, List.length_singleton]
      omega
    · have := k.few _ _ h2
      omega
theorem BfP.turn {R : List Q4} {L B : List (List Int)} {i : Nat} {d d' : List Int} {idx idx' : List Int} (k : BfP R L B i d idx idx.length) (hd : L[i]? = some d) (hn : L.Nodup) (hi : idx.length ≤ 15) (hall : ∀ x e, step R d x = some e → x ∈ idx) : BfP R L B (i + 1) d' idx' 0 := by
  refine ⟨k.len, k.fwd, fun a j ha he => ?_, fun m x e hm => absurd hm (Nat.not_lt_zero _), fun j row hr => by have := k.few j row hr; omega⟩
  by_cases ea : a = i
  · subst ea
    obtain ⟨d1, e, x, h1, h2, h3⟩ := he
    rw [hd] at h1
    cases h1
    obtain ⟨m, hm, em⟩ := List.getElem_of_mem (hall x e h3)
    obtain ⟨j', row, h4, h5, h6⟩ := k.cur m x e hm (by rw [List.getElem?_eq_getElem hm, em]) h3
    have hj := (List.getElem?_eq_some_iff.1 h4).1
    have : j' = j := (List.getElem?_inj hj hn).1 (h4.trans h2.symm)
    subst this
    exact ⟨row, h5, h6⟩
  · exact k.bwd a j (by omega) he
theorem BfP.done {R : List Q4} {L B : List (List Int)} {i : Nat} {d : List Int} {idx : List Int} (k : BfP R L B i d idx 0) (hi : i = L.length) (hL : L.length ≤ 100000) : BfOk R L B := by
  subst hi
  refine ⟨k.len, fun i hi x hx => k.fwd i _ (List.getElem?_eq_getElem hi) x hx, fun a j he => ?_, fun i hi => ?_⟩
  · obtain ⟨row, h1, h2⟩ := k.bwd a j he.lt.1 he
    obtain ⟨hj, e⟩ := List.getElem?_eq_some_iff.1 h1
    exact ⟨hj, by rw [e]; exact h2⟩
  · have := k.few i _ (List.getElem?_eq_getElem hi)
    omega
theorem mv_step {R : List Q4} {n : Nat} {d : List Int} (hd : CrOk n d) (hR : ∀ x ∈ R, QIn n x) {x : Int} (hx : x ∈ posN R (pad5 d) R.length) : ∃ e, step R d x = some e ∧ mv R (pad5 d) x = [int x, cv (pad5 e)] := by
  obtain ⟨k, rfl, -, hk, ha⟩ := (posN_mem R (pad5 d) R.length x).1 hx
  have h1 := step_yes (R := R) (c := d) (i := (k : Int)) ⟨by omega, by omega⟩ (allowed_pad.1 ha)
  refine ⟨_, h1, ?_⟩
  have hq : QIn d.length R[k] := by rw [hd.len]; exact hR _ (List.getElem_mem hk)
  unfold mv
  have e1 : R.getD (k : Int).toNat ⟨0, 0, 0, 0⟩ = R[k] := by
    rw [List.getD_eq_getElem?_getD]
    show (R[k]?).getD _ = _
    rw [List.getElem?_eq_getElem hk]; rfl
  rw [e1, after_pad hq]
  rfl
theorem step_pos {R : List Q4} {d e : List Int} {x : Int} (h : step R d x = some e) : x ∈ posN R (pad5 d) R.length := by
  have hr := step_range h
  refine (posN_mem R (pad5 d) R.length x).2 ⟨x.toNat, by omega, by omega, by omega, ?_⟩
  refine allowed_pad.2 (Classical.byContradiction fun k => ?_)
  rw [step_not hr k] at h
  cases h
end Go.Proofs.Ytpiplaicnbapbaa
namespace Go.Proofs.Ytpiplaicnbapbaa
open Go.Rx Go.RowKit
theorem ty104 : ∃ i, E.ty 104 = some i ∧ i.agg = true ∧ i.size = 2 := by
  have hs : (tiOf Try.prog 104).isSome = true := by kernel_rfl
  refine ⟨(tiOf Try.prog 104).get hs, ty_get (by kernel_rfl) (Option.some_get hs).symm, ?_, ?_⟩
  · kernel_rfl
  · kernel_rfl
def h66 (h : Hp) (bp : List Value) (c5 : List Int) : Hp := ((((((h.lay (.row 25 true bp)).lay (.row 107 true (c5.map int))).lay (.row 104 true [nilS, nilS])).lay (.row 104 true [nilS, nilS])).lay (.map [] 0)).lay (.row 137 true [mapAt (h.next + 4)])).lay (.row 121 true [fnote (h.next + 5) (h.next + 3)])
theorem h66_next (h : Hp) (bp : List Value) (c5 : List Int) : (h66 h bp c5).next = h.next + 7 := by
  unfold h66
  simp only [Hp.next_lay]
theorem RPM.start (h : Hp) (bp : List Value) (c5 : List Int) : RPM h (h66 h bp c5) h.next (h.next + 2) (h.next + 3) (h.next + 5) (h.next + 6) (h.next + 4) bp nilS nilS [] [] [] (fun _ => none) 0 nilS nilS [] := by
  have nx := h66_next h bp c5
  refine ⟨?_, ?_, ?_, ?_, ?_, ?_, ?_, BuiltC.nil, BuiltC.nil, rfl, fun k u l e => by simp at e, by omega, by omega, ?_⟩
  · exact ((((((Grows.lay _ _).then_lay _).then_lay _).then_lay _).then_lay _).then_lay _).then_lay _
  · exact Hp.at_lay_old _ (Hp.at_lay_old _ (Hp.at_lay_old _ (Hp.at_lay_old _ (Hp.at_lay_old _ (Hp.at_lay_old _ (Hp.at_lay_self _ _))))))
  · exact at_nx2 (by simp only [Hp.next_lay]) (Hp.at_lay_old _ (Hp.at_lay_old _ (Hp.at_lay_old _ (Hp.at_lay_old _ (Hp.at_lay_self ((h.lay (.row 25 true bp)).lay (.row 107 true (c5.map int))) _)))))
  · exact at_nx2 (by simp only [Hp.next_lay]) (Hp.at_lay_old _ (Hp.at_lay_old _ (Hp.at_lay_old _ (Hp.at_lay_self (((h.lay (.row 25 true bp)).lay (.row 107 true (c5.map int))).lay (.row 104 true [nilS, nilS])) _))))
  · exact at_nx2 (by simp only [Hp.next_lay]) (Hp.at_lay_old _ (Hp.at_lay_self (((((h.lay (.row 25 true bp)).lay (.row 107 true (c5.map int))).lay (.row 104 true [nilS, nilS])).lay (.row 104 true [nilS, nilS])).lay (.map [] 0)) _))
  · exact at_nx2 (by simp only [Hp.next_lay]) (Hp.at_lay_self ((((((h.lay (.row 25 true bp)).lay (.row 107 true (c5.map int))).lay (.row 104 true [nilS, nilS])).lay (.row 104 true [nilS, nilS])).lay (.map [] 0)).lay (.row 137 true [mapAt (h.next + 4)])) _)
  · refine ⟨[], 0, ?_, fun _ => rfl, rfl⟩
    exact at_nx2 (by simp only [Hp.next_lay]) (Hp.at_lay_old _ (Hp.at_lay_old _ (Hp.at_lay_self ((((h.lay (.row 25 true bp)).lay (.row 107 true (c5.map int))).lay (.row 104 true [nilS, nilS])).lay (.row 104 true [nilS, nilS])) _)))
  · refine ⟨fun v hv r e => ?_, fun u hu => by simp at hu, fun i j v u hij hi hj => ?_, fun v hv u hu => by simp at hu⟩
    · simp at hv
      rcases hv with rfl | rfl | rfl | rfl | rfl | rfl | rfl <;> cases e <;> omega
    · intro r e1 e2
      have hi8 := (List.getElem?_eq_some_iff.1 hi).1
      have hj8 := (List.getElem?_eq_some_iff.1 hj).1
      have key : ∀ (i : Nat) (v : Value), (pl h.next :: pl (h.next + 2) :: pl (h.next + 3) :: pl (h.next + 5) :: pl (h.next + 6) :: pl (h.next + 4) :: nilS :: nilS :: [])[i]? = some v → ad v = some r → (i = 0 ∧ r = h.next) ∨ (i = 1 ∧ r = h.next + 2) ∨ (i = 2 ∧ r = h.next + 3) ∨ (i = 3 ∧ r = h.next + 5) ∨ (i = 4 ∧ r = h.next + 6) ∨ (i = 5 ∧ r = h.next + 4) := by
        intro i v hi e
        match i, hi with
        | 0, hi => cases hi; cases e; simp
        | 1, hi => cases hi; cases e; simp
        | 2, hi => cases hi; cases e; simp
        | 3, hi => cases hi; cases e; simp
        | 4, hi => cases hi; cases e; simp
        | 5, hi => cases hi; cases e; simp
        | 6, hi => cases hi; cases e
        | 7, hi => cases hi; cases e
        | n + 8, hi => simp at hi
      have k1 := key i v hi e1
      have k2 := key j u hj e2
      omega
structure PS where
  cs : Value
  bv : Value
  us : List Value
  L : List (List Int)
  B : List (List Int)
  f : K5 → Option Value
  H : Hp
structure Rd (h : Hp) (bp : List Value) (R : List Q4) (n : Nat) (c : List Int) (s : PS) (i r : Nat) (d : List Int) (idx : List Int) (A8 z : Nat) (ms es : List Nat) : Prop where
  m : RPM h s.H h.next (h.next + 2) (h.next + 3) (h.next + 5) (h.next + 6) (h.next + 4) bp s.cs s.bv s.us s.L s.B s.f s.L.length s.cs s.bv (es ++ A8 :: ms)
  ix : IxOf kk s.L s.f
  a8 : s.H.at A8 = some (.row 3 true [int z])
  h8 : h.next + 7 ≤ A8
  mks : ∀ d ∈ ms, s.H.at d = some .noDefers
  nd : ms.Nodup
  ge : ∀ d ∈ ms, h.next + 7 ≤ d
  g : Gp R n c s.L i
  b : BfP R s.L s.B i d idx r
  il : i ≤ s.L.length
section
variable {h : Hp} {bp : List Value} {R : List Q4} {n : Nat} {c : List Int} {cs bv : Value} {us : List Value} {L B : List (List Int)} {f : K5 → Option Value} {H H' : Hp} {i r : Nat} {d : List Int} {idx : List Int} {A8 z : Nat} {ms es : List Nat}
theorem Rd.ext (k : Rd h bp R n c ⟨cs, bv, us, L, B, f, H⟩ i r d idx A8 z ms es) (g : Grows H H') : Rd h bp R n c ⟨cs, bv, us, L, B, f, H'⟩ i r d idx A8 z ms es :=
  ⟨k.m.ext g, k.ix, g.at_ _ _ k.a8, k.h8, fun d hd => g.at_ _ _ (k.mks d hd), k.nd, k.ge, k.g, k.b, k.il⟩
theorem Rd.keep {l : Nat} (k : Rd h bp R n c ⟨cs, bv, us, L, B, f, H⟩ i r d idx A8 z ms es) (hl : l ∈ es) (h8 : A8 ≠ l) (hm : l ∉ ms) (h7 : h.next ≤ l) (y : Keeps l H H') : Rd h bp R n c ⟨cs, bv, us, L, B, f, H'⟩ i r d idx A8 z ms es :=
  ⟨k.m.other (d := l) (by simp [hl]) (Kx.keeps y) (y.grows k.m.gr h7) (by rw [y.next]; exact Nat.le_refl _), k.ix, y.at_ _ _ h8 k.a8, k.h8, fun d hd => y.at_ _ _ (fun e => hm (e ▸ hd)) (k.mks d hd), k.nd, k.ge, k.g, k.b, k.il⟩
theorem crowd_cells {h0 h : Hp} {v : Value} {L : List (List Int)} (k : BuiltC h0 h 107 5 v L.length (flat5 L)) (hd : ∀ d ∈ L, d.length ≤ 5) {i : Nat} {d : List Int} (hi : L[i]? = some d) : ∃ rc, v = slc rc 0 L.length L.length ∧ cellsAt h rc (offAt 0 i 5) 5 = some ((pad5 d).map int) := by
  have hil := (List.getElem?_eq_some_iff.1 hi).1
  have hll := flat5_len L hd
  obtain ⟨hl, ⟨rfl, e1⟩ | ⟨r, rfl, h2, y, hr⟩⟩ := k
  · omega
  · refine ⟨r, rfl, ?_⟩
    rw [offAt_eq, Nat.zero_add, cellsAt_row hr (by omega), flat5_drop L i hil hd]
    rw [(List.getElem?_eq_some_iff.1 hi).2]
end
theorem builtC_stay {h0 h h' : Hp} {e : TypeId} {s n : Nat} {v : Value} {cs : List Value} (k : BuiltC h0 h e s v n cs) (g : ∀ r o, ad v = some r → h.at r = some o → h'.at r = some o) : BuiltC h0 h' e s v n cs := by
  obtain ⟨hl, h1 | ⟨r, rfl, h2, y, hr⟩⟩ := k
  · exact ⟨hl, .inl h1⟩
  · exact ⟨hl, .inr ⟨r, rfl, h2, y, g _ _ rfl hr⟩⟩
theorem built_stay {h0 h h' : Hp} {e : TypeId} {v : Value} {l : List Int} (k : Built h0 h e v l) (g : ∀ r o, ad v = some r → h.at r = some o → h'.at r = some o) : Built h0 h' e v l := by
  rcases k with h1 | ⟨r, rfl, h2, y, hr⟩
  · exact .inl h1
  · exact .inr ⟨r, rfl, h2, y, g _ _ rfl hr⟩
theorem AL_of {h0 h : Hp} {v : Value} {L : List (List Int)} (k : BuiltC h0 h 107 5 v L.length (flat5 L)) (hd : ∀ d ∈ L, d.length ≤ 5) : AL h v L := by
  have hll := flat5_len L hd
  obtain ⟨hl, ⟨rfl, e1⟩ | ⟨r, rfl, h2, y, hr⟩⟩ := k
  · exact ⟨none, 0, by rw [e1], fun j hj => by omega⟩
  · refine ⟨_, _, rfl, fun j hj => ⟨r, 0, rfl, ?_⟩⟩
    rw [Nat.add_zero, cellsAt_row hr (by omega), flat5_drop L j hj hd]
attribute [local irreducible] E idxN cellAt cellsAt storeAt callable helems hmoved lookIn findKey keyOk hentries Hp.at Hp.set Hp.lay arBits hupdated setAt CallP YieldP BoolOf IsWrap Rnd LoopP AppP CutP Int.tmod Int.tdiv Int.fdiv
section
variable [Unknowns]
attribute [local irreducible] ResP sameAt finP endQ
theorem PReached_ok : PReachedOk := by
  intro v p n c h hv hP en hc
  obtain ⟨bp, rfl, hbl, b0, -, -, ⟨a3, b3, k3⟩, -⟩ := hv.box
  have hcl := hc.len
  have hn5 : n ≤ 5 := by have := hP.n5; omega
  have hn1 : 1 ≤ n := by have := hP.n1; omega
  have hrl := hP.rl
  have hRq : ∀ x ∈ p.rules, QIn n x := fun x hx => by
    obtain ⟨k, hk, e⟩ := List.getElem_of_mem hx
    have := hP.qin k hk
    rw [en] at this
    rw [← e]
    exact this
  have hp5 := pad5_len (c := c) (by omega)
  have hpl : ((pad5 c).map int).length = 5 := by rw [List.length_map, hp5]
  unfold cv
  refine enter66 (by simp) ?_
  conv => whnf
  refine SeqP.go ?_
  conv => whnf
  refine SeqP.go ?_
  conv => whnf
  refine ⟨rfl, _, storeAt_all (vs := [nilS, nilS]) rfl rfl rfl, ?_⟩
  conv => whnf
  refine SeqP.go ?_
  conv => whnf
  refine ⟨rfl, _, storeAt_all (vs := [mapAt _]) rfl rfl rfl, ?_⟩
  conv => whnf
  refine SeqP.cut (α := Unit) (fun _ => [(7, ptr (h.next + 6) 0), (5, ptr (h.next + 3) 0), (4, ptr (h.next + 2) 0), (3, ptr (h.next + 1) 0), (2, ptr h.next 0)]) (fun _ H => H = h66 h bp (pad5 c)) ?_ ?_
  · conv => whnf
    refine ⟨rfl, _, storeAt_all (vs := [.func (.func 94) ⟨[]⟩ ⟨[ptr _ 0, ptr _ 0]⟩]) rfl rfl rfl, ?_⟩
    conv => whnf
    refine ⟨(), ⟨congrArg (fun k => ptr k 0) (by simp only [Hp.next_lay]), congrArg (fun k => ptr k 0) (by simp only [Hp.next_lay]), congrArg (fun k => ptr k 0) (by simp only [Hp.next_lay]), congrArg (fun k => ptr k 0) (by simp only [Hp.next_lay]), rfl, trivial⟩, ?_, rfl⟩
    unfold h66 fnote
    simp only [Hp.next_lay]
  rintro _ φ1 H0 eH0
  have m0 : RPM h H0 h.next (h.next + 2) (h.next + 3) (h.next + 5) (h.next + 6) (h.next + 4) bp nilS nilS [] [] [] (fun _ => none) 0 nilS nilS [] := by rw [eH0]; exact RPM.start h bp (pad5 c)
  have a3 : H0.at (h.next + 1) = some (.row 107 true ((pad5 c).map int)) := by
    rw [eH0]
    exact at_nx2 (Hp.next_lay _ _) (Hp.at_lay_old _ (Hp.at_lay_old _ (Hp.at_lay_old _ (Hp.at_lay_old _ (Hp.at_lay_old _ (Hp.at_lay_self (h.lay (.row 25 true bp)) _))))))
  have n0 : H0.next = h.next + 7 := by rw [eH0]; exact h66_next _ _ _
  clear eH0
  have can94' := can94
  conv => whnf
  refine SeqP.cut (α := PS) (fun _ => [(7, ptr (h.next + 6) 0), (5, ptr (h.next + 3) 0), (4, ptr (h.next + 2) 0), (2, ptr h.next 0)]) (fun s H => s.H = H ∧ RPM h s.H h.next (h.next + 2) (h.next + 3) (h.next + 5) (h.next + 6) (h.next + 4) bp s.cs s.bv s.us [c] [[]] s.f 1 s.cs s.bv [] ∧ IxOf kk [c] s.f ∧ h.next + 7 ≤ s.H.next) ?_ ?_
  · conv => whnf
    refine ⟨fnote (h.next + 5) (h.next + 3), cellAt_row m0.a7 rfl, ?_⟩
    conv => whnf
    refine ⟨_, all_cells a3 hpl, ?_⟩
    conv => whnf
    refine ⟨can94, ?_⟩
    refine CallP.mono (note_spec (n := n) (d := c) m0 ⟨fun i hi => by simp at hi, fun k v e => by cases e⟩ (fun x hx => by simp at hx) hc hn5 (by simp) rfl) ?_
    rintro r H1 ⟨i, rfl, cs, bv, us, L', B', f, q1, q2, q3, q4, q5⟩
    have q6 : L' = [c] ∧ B' = [[]] := by
      rcases q5 with ⟨rfl, rfl⟩ | ⟨_, rfl, rfl⟩
      · simp at q4
      · exact ⟨rfl, rfl⟩
    obtain ⟨rfl, rfl⟩ := q6
    conv => whnf
    refine ⟨⟨cs, bv, us, [c], [[]], f, H1⟩, ⟨rfl, rfl, rfl, rfl, trivial⟩, ⟨rfl, q1, q2, ?_⟩, rfl⟩
    have := q1.sep.oldr (pl (h.next + 6)) (by simp) _ rfl
    show h.next + 7 ≤ H1.next
    omega
  clear m0 a3 n0
  rintro ⟨cs0, bv0, us0, L0, B0, f0, H0⟩ φ2 _ ⟨rfl, m0, ix0, n0⟩
  dsimp only at m0 ix0 n0 ⊢
  conv => whnf
  refine SeqP.cutM (α := PS × Nat × List Nat) (fun _ => [(5, ptr (h.next + 3) 0), (4, ptr (h.next + 2) 0)]) (fun s => s.2.2) (fun s H => s.1.H = H ∧ ∃ i z, s.1.L.length = i ∧ Rd h bp p.rules n c s.1 i 0 [] [] s.2.1 z s.2.2 []) ?_ ?_
  rotate_left
  · rintro ⟨⟨cs, bv, us, L, B, f, H⟩, A8, ms⟩ φ9 _ ⟨rfl, i, z, eL, k⟩
    dsimp only at eL k ⊢
    have hks := k.m.c.slice
    dsimp only at hks
    obtain ⟨ac, rfl, -⟩ := hks
    have hkb := k.m.b.slice
    dsimp only at hkb
    obtain ⟨ab, rfl, -⟩ := hkb
    conv => whnf
    repeat (refine SeqP.go ?_; conv => whnf)
    refine ⟨_, all_cells k.m.r rfl, ?_⟩
    conv => whnf
    refine ⟨rfl, _, storeAt_full k.m.x (vs := [_, _]) rfl rfl rfl, ?_⟩
    conv => whnf
    have hms : Marks (h.next + 7) ms (H.set (h.next + 2) (.row 104 true [.slice ac L.length L.length, .slice ab us.length us.length])) := ⟨k.nd, fun d hd => ⟨k.ge d hd, by have := k.ge d hd; rw [Hp.at_set_ne _ (by omega)]; exact k.mks d hd⟩⟩
    have nma : ∀ v ∈ (pl h.next :: pl (h.next + 2) :: pl (h.next + 3) :: pl (h.next + 5) :: pl (h.next + 6) :: pl (h.next + 4) :: .slice ac L.length L.length :: .slice ab us.length us.length :: us), ∀ r, ad v = some r → r ∉ ms := fun v hv r e hr => k.m.sep.ape v hv (pl r) (List.mem_map.2 ⟨r, by simp [hr], rfl⟩) r e rfl
    have nx2 : ∀ j v, j ≠ 1 → (pl h.next :: pl (h.next + 2) :: pl (h.next + 3) :: pl (h.next + 5) :: pl (h.next + 6) :: pl (h.next + 4) :: .slice ac L.length L.length :: .slice ab us.length us.length :: us)[j]? = some v → ∀ r, ad v = some r → r ≠ h.next + 2 := fun j v hj hv r e e2 => k.m.sep.ap 1 j (pl (h.next + 2)) v (fun e => hj e.symm) rfl hv (h.next + 2) rfl (by rw [e, e2])
    obtain ⟨ti, hti, hag, hsz⟩ := ty104
    refine finP_marks hms ?_
    intro h3 n3 k3' k4
    have stay : ∀ j v, j ≠ 1 → (pl h.next :: pl (h.next + 2) :: pl (h.next + 3) :: pl (h.next + 5) :: pl (h.next + 6) :: pl (h.next + 4) :: .slice ac L.length L.length :: .slice ab us.length us.length :: us)[j]? = some v → ∀ r o, ad v = some r → H.at r = some o → h3.at r = some o := fun j v hj hv r o e ho => k4 r o (nma v (List.mem_of_getElem? hv) r e) (by rw [Hp.at_set_ne _ (nx2 j v hj hv r e)]; exact ho)
    have atX : h3.at (h.next + 2) = some (.row 104 true [.slice ac L.length L.length, .slice ab us.length us.length]) := k3' _ _ (by omega) (Hp.at_set_self _ (Hp.lt_of_at k.m.x))
    have hfew := crowds_few hn5 k.g.ok k.g.nodup
    have hgr : Gr p.rules c L := by
      have hg := k.g
      rw [← eL] at hg
      exact hg.done
    have hbk : ∀ (j : Nat) u l, us[j]? = some u → B[j]? = some l → View h3 u l := fun j u l h1 h2 => (built_stay (k.m.be j u l h1 h2) fun r o e ho => stay (j + 8) u (by omega) (by simpa using h1) r o e ho).c.view
    refine leave_cell rfl hti hag (by rw [hsz]; exact all_cells atX rfl) ⟨⟨_, L, B, rfl, ⟨rfl, rfl, ⟨_, rfl, AL_of (builtC_stay k.m.c fun r o e ho => stay 6 _ (by decide) rfl r o e ho) (fun d hd => by have := (k.g.ok d hd).len; omega)⟩, ⟨_, rfl, EL.sl (builtC_stay k.m.b fun r o e ho => stay 7 _ (by decide) rfl r o e ho) ⟨k.m.bl, hbk⟩⟩, k.b.done eL.symm hfew, hgr, k.g.ok, hfew⟩⟩, ?_⟩
    refine ⟨by rw [n3, Hp.next_set]; exact k.m.gr.next, fun r o ho => ?_⟩
    have hlt := Hp.lt_of_at ho
    exact k3' r o (by omega) (by rw [Hp.at_set_ne _ (by omega)]; exact k.m.gr.at_ _ _ ho)
  conv => whnf
  refine SeqP.go ?_
  conv => whnf
  refine ⟨rfl, _, storeAt_all (vs := [int 0]) rfl rfl rfl, ?_⟩
  conv => whnf
  refine loop_invM (α := Nat × PS × Nat × List Nat) (fun s => [(8, ptr s.2.2.1 0), (7, ptr (h.next + 6) 0), (5, ptr (h.next + 3) 0), (4, ptr (h.next + 2) 0), (2, ptr h.next 0)]) (fun s => s.2.1.H) (fun s => s.2.2.2) (fun s => Rd h bp p.rules n c s.2.1 s.1 0 [] [] s.2.2.1 s.1 s.2.2.2 []) (fun s => 100000 - s.1) (0, ⟨cs0, bv0, us0, [c], [[]], f0, _⟩, H0.next, []) ?_ ⟨rfl, rfl, rfl, rfl, rfl, trivial⟩ (Hp.Le.refl _) rfl ?_
  · refine ⟨?_, ix0, Hp.at_lay_self _ _, n0, fun d hd => by simp at hd, List.nodup_nil, fun d hd => by simp at hd, Gp.start hc, ?_, Nat.zero_le _⟩
    · exact m0.more (Grows.lay _ _) [H0.next] (fun x hx => by rw [List.mem_singleton.1 hx, Hp.next_lay]; omega)
    · refine ⟨rfl, fun j row hr x hx => ?_, fun a j ha => absurd ha (Nat.not_lt_zero _), fun m x e hm => absurd hm (Nat.not_lt_zero _), fun j row hr => ?_⟩
      · have hj := (List.getElem?_eq_some_iff.1 hr).1
        simp at hj
        subst hj
        cases hr
        simp at hx
      · have hj := (List.getElem?_eq_some_iff.1 hr).1
        simp at hj
        subst hj
        cases hr
        simp
  rintro ⟨i, ⟨cs, bv, us, L, B, f, H⟩, A8, ms⟩ φ3 k
  dsimp only at k ⊢
  have hlen5 : ∀ d ∈ L, d.length ≤ 5 := fun d hd => by have := (k.g.ok d hd).len; omega
  have hfew := crowds_few hn5 k.g.ok k.g.nodup
  have hil := k.il
  have hks := k.m.c.slice
  dsimp only at hks
  obtain ⟨ac, rfl, -⟩ := hks
  conv => whnf
  refine SeqP.go ?_
  conv => whnf
  refine ⟨_, cellAt_row k.a8 rfl, ?_⟩
  conv => whnf
  refine ⟨_, cellAt_row k.m.r rfl, ?_⟩
  conv => whnf
  repeat (refine SeqP.go ?_; conv => whnf)
  dsimp only at hfew hil
  refine cmpB (fun c1 => ?_) (fun c1 => ?_)
  rotate_left
  · have : L.length = i := by omega
    conv => whnf
    repeat (refine SeqP.go ?_; conv => whnf)
    exact ⟨(⟨_, bv, us, L, B, f, H⟩, A8, ms), ⟨rfl, rfl, trivial⟩, ⟨rfl, i, i, this, k⟩, rfl⟩
  have hiL : i < L.length := by omega
  have hexd : ∃ d, L[i]? = some d := ⟨_, List.getElem?_eq_getElem hiL⟩
  obtain ⟨d, hd⟩ := hexd
  have hdm := List.mem_of_getElem? hd
  have hdok := k.g.ok d hdm
  have hcc := crowd_cells k.m.c hlen5 hd
  obtain ⟨rc, erc, hcc⟩ := hcc
  cases erc
  dsimp only at hcc
  have hd5 := pad5_len (c := d) (by have := hdok.len; omega)
  conv => whnf
  refine SeqP.cutM (α := PS × Nat) (fun _ => [(8, ptr A8 0), (7, ptr (h.next + 6) 0), (5, ptr (h.next + 3) 0), (4, ptr (h.next + 2) 0), (2, ptr h.next 0)]) (fun s => s.2 :: ms) (fun s H => s.1.H = H ∧ Rd h bp p.rules n c s.1 (i + 1) 0 [] [] A8 i (s.2 :: ms) []) ?_ ?_
  rotate_left
  · rintro ⟨⟨cs', bv', us', L', B', f', H'⟩, D⟩ φ4 _ ⟨rfl, k2⟩
    dsimp only at k2 ⊢
    have hlt8 : A8 < H'.next := Hp.lt_of_at k2.a8
    have h88 : h.next + 7 ≤ A8 := k2.h8
    have hil2 := k2.il
    have hfew2 := crowds_few hn5 k2.g.ok k2.g.nodup
    dsimp only at hil2 hfew2
    conv => whnf
    refine SeqP.go ?_
    conv => whnf
    refine SeqP.go ?_
    conv => whnf
    refine ⟨_, cellAt_row k2.a8 rfl, ?_⟩
    conv => whnf
    refine ⟨rfl, _, storeAt_all (vs := [int i]) rfl rfl rfl, ?_⟩
    conv => whnf
    refine ⟨int i, cellAt_row (Hp.at_lay_self _ _) rfl, ?_⟩
    conv => whnf
    refine ⟨((i + 1 : Nat) : Int), wie (by omega) (by omega), ?_⟩
    conv => whnf
    refine ⟨rfl, _, storeAt_all (vs := [int (i + 1 : Nat)]) rfl rfl rfl, ?_⟩
    conv => whnf
    refine RndM.mk (i + 1, ⟨cs', bv', us', L', B', f', H'.lay (.row 3 true [int (i + 1 : Nat)])⟩, H'.next, D :: ms) ⟨?_, k2.ix, Hp.at_lay_self _ _, by show h.next + 7 ≤ H'.next; omega, fun d hd => Hp.at_lay_old _ (k2.mks d hd), k2.nd, k2.ge, k2.g, k2.b, k2.il⟩ (by show 100000 - (i + 1) < 100000 - i; omega) ⟨rfl, rfl, rfl, rfl, rfl, trivial⟩ (Hp.Le.refl _) rfl
    exact (k2.m.more (Grows.lay H' (.row 3 true [int (i + 1 : Nat)])) [H'.next] (fun x hx => by rw [List.mem_singleton.1 hx]; exact ⟨Nat.le_refl _, by rw [Hp.next_lay]; exact Nat.lt_succ_self _⟩)).less (fun x hx => by simp at hx ⊢; rcases hx with h | h | h <;> simp [h])
  conv => whnf
  refine SeqP.go ?_
  conv => whnf
  refine ⟨bp, all_cells k.m.p hbl, ?_⟩
  conv => whnf
  refine ⟨_, cellAt_row k.m.r rfl, ?_⟩
  conv => whnf
  refine ⟨_, cellAt_row k.a8 rfl, ?_⟩
  conv => whnf
  refine ⟨rfl, ⟨by omega, by omega⟩, ?_⟩
  conv => whnf
  refine ⟨(pad5 d).map int, hcc, ?_⟩
  conv => whnf
  refine CallP.mono (meetings_spec bp (pad5 d) _) ?_
  rintro r _ ⟨rfl, rfl⟩
  conv => whnf
  have nH1 : (H.lay (.row 25 true bp)).next = H.next + 1 := Hp.next_lay _ _
  have nH2 : ((H.lay (.row 25 true bp)).lay (.row 107 true ((pad5 d).map int))).next = H.next + 2 := by rw [Hp.next_lay, nH1]
  have nH3 : (((H.lay (.row 25 true bp)).lay (.row 107 true ((pad5 d).map int))).lay .noDefers).next = H.next + 3 := by rw [Hp.next_lay, nH2]
  have h88 := k.h8
  have hlt8 : A8 < H.next := Hp.lt_of_at k.a8
  have hRn : ∀ j, (hj : j < p.rules.length) → QIn 5 p.rules[j] := fun j hj => by
    have := hRq _ (List.getElem_mem hj)
    unfold QIn at this ⊢
    omega
  have hbd : ∀ j, -100 ≤ gl (pad5 d) j ∧ gl (pad5 d) j ≤ 100 := fun j => by
    rw [gl_pad]
    have := hdok.nn j
    have := hdok.le j
    omega
  have hst : ∀ o, ∃ cs bv us L B f, Rd h bp p.rules n c ⟨cs, bv, us, L, B, f, (((H.lay (.row 25 true bp)).lay (.row 107 true ((pad5 d).map int))).lay .noDefers).lay o⟩ i 0 d (posN p.rules (pad5 d) p.rules.length) A8 i ((H.next + 2) :: ms) ([] ++ [H.next + 3, H.next, H.next + 1]) ∧ ((((H.lay (.row 25 true bp)).lay (.row 107 true ((pad5 d).map int))).lay .noDefers).lay o).at H.next = some (.row 25 true bp) ∧ ((((H.lay (.row 25 true bp)).lay (.row 107 true ((pad5 d).map int))).lay .noDefers).lay o).at (H.next + 1) = some (.row 107 true ((pad5 d).map int)) ∧ L[i]? = some d := by
    intro o
    have g0 : Grows H ((((H.lay (.row 25 true bp)).lay (.row 107 true ((pad5 d).map int))).lay .noDefers).lay o) := (((Grows.lay _ _).then_lay _).then_lay _).then_lay _
    have k0 := k.ext g0
    refine ⟨_, bv, us, L, B, f, ⟨?_, k.ix, k0.a8, k.h8, ?_, ?_, ?_, k.g, ⟨k.b.len, k.b.fwd, k.b.bwd, fun m x e hm => absurd hm (Nat.not_lt_zero _), k.b.few⟩, k.il⟩, ?_, ?_, hd⟩
    · have := k.m.more g0 [H.next + 3, H.next, H.next + 1, H.next + 2] (fun x hx => by
        simp only [Hp.next_lay]
        simp at hx
        omega)
      exact this.less (fun x hx => by simp at hx ⊢; rcases hx with e | e | e | e | e | e <;> simp [e])
    · intro x hx
      rcases List.mem_cons.1 hx with rfl | hx
      · exact at_nx2 nH2 (Hp.at_lay_old _ (Hp.at_lay_self _ _))
      · exact k0.mks x hx
    · refine List.nodup_cons.2 ⟨fun hx => ?_, k.nd⟩
      have := Hp.lt_of_at (k.mks _ hx)
      dsimp only at this
      omega
    · intro x hx
      rcases List.mem_cons.1 hx with rfl | hx
      · omega
      · exact k.ge x hx
    · exact Hp.at_lay_old _ (Hp.at_lay_old _ (Hp.at_lay_old _ (Hp.at_lay_self _ _)))
    · exact at_nx2 nH1 (Hp.at_lay_old _ (Hp.at_lay_old _ (Hp.at_lay_self _ _)))
  refine range_goE (fun hh => Grows h hh ∧ hh.at H.next = some (.row 25 true bp) ∧ hh.at (H.next + 1) = some (.row 107 true ((pad5 d).map int))) ((posN p.rules (pad5 d) p.rules.length).map (mv p.rules (pad5 d))) (fun k es hh => ∃ cs bv us L B f, Rd h bp p.rules n c ⟨cs, bv, us, L, B, f, hh⟩ i k d (posN p.rules (pad5 d) p.rules.length) A8 i ((H.next + 2) :: ms) (es ++ [H.next + 3, H.next, H.next + 1]) ∧ hh.at H.next = some (.row 25 true bp) ∧ hh.at (H.next + 1) = some (.row 107 true ((pad5 d).map int)) ∧ L[i]? = some d) (fun _ => False) can108 ?_ rfl (fun I S hx hJ h0 hit => meet_iter _ _ _ bp p.rules (pad5 d) h _ b3 k3 hbl hrl hd5 hbd hRn I S _ hx hJ h0 hit) ?_ ?_ ?_ ?_ ?_ ?_
  · intro k hk
    rw [List.getElem_map]
    rfl
  · refine ⟨?_, ?_⟩
    · rintro k es h1 h2 ds ⟨cs, bv, us, L, B, f, q1, q2, q3, q4⟩ g hds
      have q1' := q1.ext g
      refine ⟨cs, bv, us, L, B, f, { q1' with m := ?_ }, g.at_ _ _ q2, g.at_ _ _ q3, q4⟩
      have := q1.m.more g ds hds
      rw [← List.append_assoc, ← List.append_assoc] at this
      exact this
    · rintro k es ds h1 ⟨cs, bv, us, L, B, f, q1, q2, q3, q4⟩
      refine ⟨cs, bv, us, L, B, f, { q1 with m := q1.m.less fun x hx => ?_ }, q2, q3, q4⟩
      simp at hx ⊢
      rcases hx with e | e | e | e | e | e <;> simp [e]
  · rintro k es hh ⟨cs, bv, us, L, B, f, q1, q2, q3, q4⟩
    exact ⟨q1.m.gr, q2, q3⟩
  · exact hst _
  · rintro m es xs hget H3 hl3 ⟨cs3, bv3, us3, L3, B3, f3, k3', aP3, aC3, hd3⟩
    have hget2 := List.getElem?_eq_some_iff.1 hget
    obtain ⟨hml, exs⟩ := hget2
    rw [List.getElem_map] at exs
    rw [List.length_map] at hml
    have hexx : ∃ x, (posN p.rules (pad5 d) p.rules.length)[m] = x := ⟨_, rfl⟩
    obtain ⟨x, ex⟩ := hexx
    rw [ex] at exs
    have hxm : x ∈ posN p.rules (pad5 d) p.rules.length := by rw [← ex]; exact List.getElem_mem _
    have hxi : (posN p.rules (pad5 d) p.rules.length)[m]? = some x := by rw [List.getElem?_eq_getElem hml, ex]
    have hst2 := mv_step hdok hRq hxm
    obtain ⟨e, hse, emv⟩ := hst2
    rw [emv] at exs
    subst exs
    have heok := step_ok hRq hdok hse
    have hel := heok.len
    have he5 := pad5_len (c := e) (by omega)
    have hepl : ((pad5 e).map int).length = 5 := by rw [List.length_map, he5]
    unfold cv
    clear hget
    have hl3' := at_nx2 nH3 hl3
    have n8l : A8 ≠ H.next + 3 := by omega
    have nml : H.next + 3 ∉ (H.next + 2) :: ms := fun hx => by
      rcases List.mem_cons.1 hx with e | hx
      · omega
      · have := Hp.lt_of_at (k.mks _ hx)
        dsimp only at this
        omega
    have hlt3 := Hp.lt_of_at hl3'
    conv => whnf
    refine ⟨by show ((pad5 e).map int).length = 5; exact hepl, _, storeAt_all (vs := (pad5 e).map int) (by rw [hepl]; rfl) (ints_one _) (over_int (k := [0, 0, 0, 0, 0]) (by rw [he5]; rfl)), ?_⟩
    have g4 : Grows H3 (H3.lay (.row 107 true ((pad5 e).map int))) := Grows.lay _ _
    have k4 := k3'.ext g4
    have aP4 := g4.at_ _ _ aP3
    have aC4 := g4.at_ _ _ aC3
    have hl4 := Hp.at_lay_old (.row 107 true ((pad5 e).map int)) hl3
    have a10 : (H3.lay (.row 107 true ((pad5 e).map int))).at H3.next = some (.row 107 true ((pad5 e).map int)) := Hp.at_lay_self _ _
    have ke4 : KE es H3 (H3.lay (.row 107 true ((pad5 e).map int))) := KE.grows g4
    conv => whnf
    refine bodyQ_go hl4 ?_
    intro BO hb2 eBO hbl hbk
    have hbl' := at_nx2 nH3 hbl
    have hbk' := hbk
    rw [nH3] at hbk'
    have k5 := k4.keep (l := H.next + 3) (by simp) n8l nml (by omega) hbk'
    have aP5 := hbk'.at_ _ _ (by omega) aP4
    have aC5 := hbk'.at_ _ _ (by omega) aC4
    have a105 := hbk'.at_ _ _ (by omega) a10
    have hfew4 := crowds_few hn5 k5.g.ok k5.g.nodup
    dsimp only at hfew4
    conv => whnf
    refine SeqP.go ?_
    conv => whnf
    refine ⟨_, cellAt_row k5.m.a7 rfl, ?_⟩
    conv => whnf
    refine ⟨_, all_cells a105 hepl, ?_⟩
    conv => whnf
    refine ⟨can94, ?_⟩
    refine CallP.mono (note_spec (n := n) (d := e) k5.m k5.ix k5.g.ok heok hn5 hfew4 k5.b.len) ?_
    rintro r H5 ⟨j, rfl, cs6, bv6, us6, L6, B6, f6, q1, q2, q3, q4, q5⟩
    have a86 := q3 A8 (by simp) _ k5.a8
    have aP6 := q3 H.next (by simp) _ aP5
    have aC6 := q3 (H.next + 1) (by simp) _ aC5
    have aB6 := q3 (H.next + 3) (by simp) _ hbl'
    have mk6 : ∀ x ∈ (H.next + 2) :: ms, H5.at x = some .noDefers := fun x hx => q3 x (by rcases List.mem_cons.1 hx with rfl | hx <;> simp [*]) _ (k5.mks x hx)
    have q6 : L6[i]? = some d ∧ Gp p.rules n c L6 i ∧ BfP p.rules L6 B6 i d (posN p.rules (pad5 d) p.rules.length) m ∧ i ≤ L6.length := by
      rcases q5 with ⟨rfl, rfl⟩ | ⟨hne, rfl, rfl⟩
      · exact ⟨hd3, k5.g, k5.b, k5.il⟩
      · exact ⟨getE_snoc hd3, k5.g.add k5.il hRq (List.mem_of_getElem? hd3) hse hne, k5.b.add k5.g k5.il hne, by rw [List.length_append]; have := k5.il; exact Nat.le_trans this (Nat.le_add_right _ _)⟩
    clear q5
    obtain ⟨hd6, g6, b6, il6⟩ := q6
    have hj6 := (List.getElem?_eq_some_iff.1 q4).1
    have hbl6 := b6.len
    have hul6 := q1.bl
    have hexr : ∃ row, B6[j]? = some row := ⟨_, List.getElem?_eq_getElem (by omega)⟩
    obtain ⟨row, hrow⟩ := hexr
    have hexu : ∃ u, us6[j]? = some u := ⟨_, List.getElem?_eq_getElem (by omega)⟩
    obtain ⟨u, hu⟩ := hexu
    have hub := q1.be j u row hu hrow
    have hrf := b6.few j row hrow
    have hpn := posN_len p.rules (pad5 d) p.rules.length
    have hfew6 := crowds_few hn5 g6.ok g6.nodup
    have hlb := q1.b.load hu
    obtain ⟨rb, rfl, hcb⟩ := hlb
    have huk := (LV.of hub).known
    obtain ⟨au, rfl⟩ := huk
    conv => whnf
    refine ⟨_, cellAt_row q1.r rfl, ?_⟩
    conv => whnf
    refine ⟨_, cellAt_row q1.r rfl, ?_⟩
    conv => whnf
    refine ⟨rfl, ⟨by omega, by omega⟩, ?_⟩
    conv => whnf
    refine ⟨_, hcb, ?_⟩
    conv => whnf
    refine ⟨_, cellAt_row a86 rfl, ?_⟩
    conv => whnf
    refine q1.u_app hu hrow (by omega) ?_
    intro u' H7 rb' xf H8 ⟨a', n', eu'⟩ erb atb atR st8 k8 ke7 ke8
    cases erb
    subst eu'
    conv => whnf
    refine ⟨rfl, ⟨by omega, by omega⟩, ?_⟩
    conv => whnf
    refine ⟨rfl, _, st8, ?_⟩
    conv => whnf
    refine ⟨?_, ?_⟩
    · repeat' (first | exact True.intro | (refine And.intro ?_ ?_ <;> (conv => whnf)))
      all_goals first
        | exact sameAt_val (h2 := _) rfl (sameV_int _)
        | exact sameAt_val (h2 := _) rfl (sameV_ptr _ _)
        | exact sameAt_val (h2 := _) (congrArg (hval _) (cellAt_row q1.r rfl)) (sameV_slc _ _ _ _)
        | exact sameAt_val (h2 := _) (congrArg (hval _) (cellAt_row (Hp.at_lay_old _ q1.r) rfl)) (sameV_slc _ _ _ _)
        | exact sameAt_val (h2 := _) (congrArg (hval _) (cellAt_row atR rfl)) (sameV_slc _ _ _ _)
        | exact sameAt_val (h2 := _) (show hval _ (idxSV 1 (.slice (some ⟨rb, 0, none⟩) us6.length us6.length) (int j)) = _ from idxS_val' rfl ⟨by omega, by omega⟩) (sameV_ptr _ _)
        | exact sameAt_val (h2 := _) (congrArg (hval _) hcb) (sameV_slice _ _ _)
        | exact sameAt_val (h2 := _) (congrArg (hval _) ((Grows.lay _ _).cell hcb)) (sameV_slice _ _ _)
    have hds : ∀ x ∈ es, x ∈ es ++ [H.next + 3, H.next, H.next + 1] ++ A8 :: (H.next + 2) :: ms := fun x hx => by simp [hx]
    have ke68 := ke7.trans ke8
    have a88 := ke68 A8 (by simp) _ a86
    have aP8 := ke68 H.next (by simp) _ aP6
    have aC8 := ke68 (H.next + 1) (by simp) _ aC6
    have aB8 := ke68 (H.next + 3) (by simp) _ aB6
    have mk8 : ∀ x ∈ (H.next + 2) :: ms, H8.at x = some .noDefers := fun x hx => ke68 x (by rcases List.mem_cons.1 hx with rfl | hx <;> simp [*]) _ (mk6 x hx)
    have kR8 : Rd h bp p.rules n c ⟨cs6, slc rb 0 us6.length us6.length, us6.set j (.slice a' n' n'), L6, B6.set j (row ++ [(i : Int)]), f6, H8⟩ i (m + 1) d (posN p.rules (pad5 d) p.rules.length) A8 i ((H.next + 2) :: ms) (es ++ [H.next + 3, H.next, H.next + 1]) := ⟨k8, q2, a88, k.h8, mk8, k5.nd, k5.ge, g6, b6.put hd6 hxi hse q4 hrow, il6⟩
    conv => whnf
    refine endQ_next eBO (at_nx2 nH3.symm aB8) ?_
    intro h9 hr9 hk9
    have hk9' := hk9
    rw [nH3] at hk9'
    have hr9' := at_nx2 nH3 hr9
    refine .inl ⟨rfl, hr9, ⟨_, _, _, L6, _, f6, kR8.keep (l := H.next + 3) (by simp) n8l nml (by omega) hk9', hk9'.at_ _ _ (by omega) aP8, hk9'.at_ _ _ (by omega) aC8, hd6⟩, fun x hx o ho => ?_⟩
    by_cases exl : x = H.next + 3
    · subst exl
      rw [hl3'] at ho
      cases ho
      exact hr9'
    · have e1 := hbk'.at_ x o exl (ke4 x hx o ho)
      exact hk9'.at_ x o exl (ke68 x (hds x hx) o (q3 x (hds x hx) o e1))
  · rintro h2 h3 ⟨cs', bv', us', L', B', f', q1, q2, q3, q4⟩ hkp
    rw [List.length_map] at q1
    rw [nH3] at hkp
    have nD : H.next + 3 ≠ H.next + 2 := by omega
    have q1' := q1.keep (l := H.next + 3) (by simp) (by omega) (fun hx => by
      rcases List.mem_cons.1 hx with e | hx
      · omega
      · have := Hp.lt_of_at (k.mks _ hx)
        dsimp only at this
        omega) (by omega) hkp
    have hfill : posN p.rules (pad5 d) p.rules.length = posN p.rules (pad5 d) p.rules.length := rfl
    refine ⟨(⟨cs', bv', us', L', B', f', h3⟩, H.next + 2), ⟨rfl, rfl, rfl, rfl, rfl, trivial⟩, ⟨rfl, q1'.m.less (fun x hx => by simp at hx ⊢; rcases hx with e | e | e <;> simp [e]), q1'.ix, q1'.a8, q1'.h8, q1'.mks, q1'.nd, q1'.ge, q1'.g.turn q4 (fun x e he => ?_), q1'.b.turn q4 q1'.g.nodup (by have := posN_len p.rules (pad5 d) p.rules.length; omega) (fun x e he => step_pos he), ?_⟩, congrArg (· :: ms) nH2⟩
    · obtain ⟨m, hm, em⟩ := List.getElem_of_mem (step_pos he)
      obtain ⟨j, row, h4, -⟩ := q1'.b.cur m x e hm (by rw [List.getElem?_eq_getElem hm, em]) he
      exact List.mem_of_getElem? h4
    · exact (List.getElem?_eq_some_iff.1 q4).1
  · intro h2 hF
    exact hF.elim
end
end Go.Proofs.Ytpiplaicnbapbaa
namespace Go.Proofs.Ytpiplaicnbapbaa
open Go.Rx Go.RowKit
theorem elemsC_ext {h h' : Hp} {s m : Nat} {x : Value} {new : List Value} (g : Grows h h') (k : ElemsC h s x m new) : ElemsC h' s x m new := by
  obtain ⟨h1, h2, h3, h4⟩ := k
  refine ⟨h1, ?_, h3, h4⟩
  cases x with
  | slice a n c =>
    cases a with
    | none => exact h2
    | some ad =>
      obtain ⟨r, o, sp⟩ := ad
      unfold helems at h2 ⊢
      dsimp only at h2 ⊢
      split at h2
      · exact h2
      · exact g.cells h2
  | _ => exact h2
def C4 (h : Hp) (v : Value) (n : Nat) (l : List Int) : Prop := (∃ a, v = .slice a n n) ∧ ∀ k, k ≤ n → ∃ x, ElemsC h 4 x k ((l.take (k * 4)).map int) ∧ (∀ h', Grows h h' → hcutS h' 4 v none (some (int k)) none = .val x h') ∧ sameV 4 x x = true
theorem C4.ext {h h' : Hp} {v : Value} {n : Nat} {l : List Int} (k : C4 h v n l) (g : Grows h h') : C4 h' v n l :=
  ⟨k.1, fun j hj => let ⟨x, h1, h2, h3⟩ := k.2 j hj; ⟨x, elemsC_ext g h1, fun h2' g2 => h2 h2' (g.trans g2), h3⟩⟩
theorem C4.of {h0 h : Hp} {v : Value} {n : Nat} {l : List Int} (k : BuiltC h0 h 96 4 v n (l.map int)) : C4 h v n l := by
  obtain ⟨hl, hb⟩ := k
  rw [List.length_map] at hl
  have hbd : ∀ j : Nat, BdOf none (some (int j)) n 0 j := fun j => ⟨.inl ⟨rfl, rfl⟩, .inr rfl⟩
  rcases hb with ⟨rfl, rfl⟩ | ⟨r, rfl, -, x, hr⟩
  · refine ⟨⟨_, rfl⟩, fun j hj => ⟨.slice none 0 0, ?_, fun h' _ => ?_, sameV_slice _ _ _⟩⟩
    · have : j = 0 := by omega
      subst this
      exact ⟨rfl, rfl, rfl, rfl⟩
    · have : j = 0 := by omega
      subst this
      unfold hcutS
      dsimp only
      rw [bounds_of (len := 0) (i := 0) (j := 0) ⟨.inl ⟨rfl, rfl⟩, .inr rfl⟩ (by omega) (by omega) (Nat.le_refl _)]
      rfl
  · refine ⟨⟨_, rfl⟩, fun k hk => ?_⟩
    have hlen : ((l.take (k * 4)).map int).length = k * 4 := by rw [List.length_map, List.length_take]; omega
    have el : ∀ x, x = slc r 0 k n ∨ x = void ∧ k = 0 → ElemsC h 4 x k ((l.take (k * 4)).map int) := by
      rintro x (rfl | ⟨rfl, rfl⟩)
      · refine ⟨rfl, ?_, hlen, ints_one _⟩
        show cellsAt h r 0 (k * 4) = _
        rw [cellsAt_row hr (by rw [List.length_map]; omega), List.drop_zero, List.map_take]
      · exact ⟨rfl, rfl, by simp, by simp⟩
    have shape : ∀ h', Grows h h' → hcutS h' 4 (slc r 0 n n) none (some (int k)) none = hcutObj h' 4 r 0 true (some (0, k, n)) (some (.row 96 x (l.map int))) := by
      intro h' g
      unfold hcutS
      dsimp only [slc]
      rw [bounds_of (hbd k) (by omega) hk (Nat.le_refl _)]
      show hcutObj h' 4 r 0 true (some (0, k, n)) (h'.at r) = _
      rw [g.at_ _ _ hr]
    have opened : ∃ y, (y = slc r 0 k n ∨ y = void ∧ k = 0) ∧ ∀ h', hcutObj h' 4 r 0 true (some (0, k, n)) (some (.row 96 x (l.map int))) = .val y h' := by
      cases x with
      | true =>
        refine ⟨slc r 0 k n, .inl rfl, fun h' => ?_⟩
        have e0 : cutTo 4 0 0 n = 0 := by
          unfold cutTo
          cases Nat.beq n 0 <;> rfl
        unfold hcutObj cutExact
        dsimp only
        rw [e0]
        rfl
      | false =>
        show ∃ y, (y = slc r 0 k n ∨ y = void ∧ k = 0) ∧ ∀ h', lift (cutOf D0 4 r 0 true (some (0, k, n))) h' = .val y h'
        unfold cutOf cutOpen
        dsimp only
        cases hble : Nat.ble (Nat.succ 0) n with
        | true => exact ⟨_, .inl rfl, fun h' => rfl⟩
        | false =>
          have hn : ¬ 1 ≤ n := fun hle => by rw [Nat.ble_eq_true_of_le hle] at hble; cases hble
          unfold cutAll
          have e1 : Nat.sub k 0 = 0 := by show k - 0 = 0; omega
          have e2 : Nat.sub n 0 = 0 := by show n - 0 = 0; omega
          rw [e1, e2]
          exact ⟨_, .inr ⟨rfl, by omega⟩, fun h' => rfl⟩
    obtain ⟨y, hy, hy2⟩ := opened
    refine ⟨y, el y hy, fun h' g => by rw [shape h' g, hy2 h'], ?_⟩
    rcases hy with rfl | ⟨rfl, _⟩ <;> exact sameV_slice _ _ _
def PX (h : Hp) (v : Value) (p : Prot) : Prop := ∃ vo vs vr, v = pval p.n vo vs vr ∧ View h vo p.out ∧ View h vs p.start ∧ C4 h vr p.rules.length (flat4 p.rules)
theorem PX.of {h : Hp} {v : Value} {p : Prot} (k : PV h v p) : PX h v p := by
  obtain ⟨a, b, c, e, h1, h2, h3⟩ := k
  exact ⟨a, b, c, e, h1.view, h2.view, C4.of h3⟩
theorem PX.ext {h h' : Hp} {v : Value} {p : Prot} (g : Grows h h') (k : PX h v p) : PX h' v p := by
  obtain ⟨a, b, c, e, h1, h2, h3⟩ := k
  exact ⟨a, b, c, e, h1.ext g, h2.ext g, h3.ext g⟩
theorem nodup_sub : ∀ {l m : List (List Int)}, l.Nodup → (∀ x ∈ l, x ∈ m) → l.length ≤ m.length
  | [], m, _, _ => Nat.zero_le _
  | x :: l, m, hn, hs => by
    have hc := List.nodup_cons.1 hn
    have hx : x ∈ m := hs x (by simp)
    have h1 := nodup_sub (l := l) (m := m.erase x) hc.2 (fun y hy => by
      have hne : y ≠ x := fun e => hc.1 (e ▸ hy)
      exact (List.mem_erase_of_ne hne).2 (hs y (by simp [hy])))
    rw [List.length_erase_of_mem hx] at h1
    have := List.length_pos_of_mem hx
    simp only [List.length_cons]
    omega
theorem Gr.len_uniq {R : List Q4} {c : List Int} {L L' : List (List Int)} (g : Gr R c L) (g' : Gr R c L') : L.length = L'.length :=
  Nat.le_antisymm (nodup_sub g.nodup fun x hx => g'.mem.2 (g.mem.1 hx)) (nodup_sub g'.nodup fun x hx => g.mem.2 (g'.mem.1 hx))
end Go.Proofs.Ytpiplaicnbapbaa
namespace Go.Proofs.Ytpiplaicnbapbaa
open Go.Rx Go.RowKit
def majP : Prot := ⟨4, [1, 0, 1, 0], [0, 1], [⟨0, 1, 3, 3⟩, ⟨0, 3, 0, 2⟩, ⟨1, 2, 1, 3⟩, ⟨2, 3, 3, 3⟩]⟩
def PN (h h' : Hp) (r : Value) (p : Prot) : Prop := ∃ A B C x y z, r = pval p.n (slc A 0 p.out.length p.out.length) (slc B 0 p.start.length p.start.length) (slc C 0 p.rules.length p.rules.length) ∧ h'.at A = some (.row 3 x (p.out.map int)) ∧ h'.at B = some (.row 3 y (p.start.map int)) ∧ h'.at C = some (.row 96 z ((flat4 p.rules).map int)) ∧ h.next ≤ A ∧ h.next ≤ B ∧ h.next ≤ C ∧ A ≠ B
theorem PN.pv {h h' : Hp} {r : Value} {p : Prot} (k : PN h h' r p) : PV h' r p := by
  obtain ⟨A, B, C, x, y, z, e, h1, h2, h3, h4, h5, h6, -⟩ := k
  exact ⟨_, _, _, e, .inr ⟨A, rfl, Nat.zero_le _, x, h1⟩, .inr ⟨B, rfl, Nat.zero_le _, y, h2⟩, by rw [List.length_map, flat4_len], .inr ⟨C, rfl, Nat.zero_le _, z, h3⟩⟩
attribute [local irreducible] E idxN cellAt cellsAt storeAt callable helems hmoved lookIn findKey keyOk hentries Hp.at Hp.set Hp.lay arBits hupdated setAt CallP YieldP BoolOf IsWrap Rnd LoopP AppP CutP Int.tmod Int.tdiv Int.fdiv
section
variable [Unknowns]
attribute [local irreducible] ResP sameAt finP
theorem majority_spec (h : Hp) : CallP E 58 [] h (fun r h' => PN h h' r majP ∧ Grows h h') := by
  refine enter58 (by simp) ?_
  conv => whnf
  refine SeqP.go ?_
  conv => whnf
  repeat (refine SeqP.go ?_; conv => whnf)
  have a0 : ((((h.lay (.row 25 true [int 0, nilS, nilS, nilS])).lay (.row 3 true ([1, 0, 1, 0].map int))).lay (.row 3 true ([0, 1].map int))).lay (.row 96 true ((flat4 majP.rules).map int))).at h.next = some (.row 25 true [int 0, nilS, nilS, nilS]) := Hp.at_lay_old _ (Hp.at_lay_old _ (Hp.at_lay_old _ (Hp.at_lay_self _ _)))
  have a1 : ((((h.lay (.row 25 true [int 0, nilS, nilS, nilS])).lay (.row 3 true ([1, 0, 1, 0].map int))).lay (.row 3 true ([0, 1].map int))).lay (.row 96 true ((flat4 majP.rules).map int))).at (h.next + 1) = some (.row 3 true ([1, 0, 1, 0].map int)) := at_nx2 (by simp only [Hp.next_lay]) (Hp.at_lay_old _ (Hp.at_lay_old _ (Hp.at_lay_self (h.lay (.row 25 true [int 0, nilS, nilS, nilS])) _)))
  have a2 : ((((h.lay (.row 25 true [int 0, nilS, nilS, nilS])).lay (.row 3 true ([1, 0, 1, 0].map int))).lay (.row 3 true ([0, 1].map int))).lay (.row 96 true ((flat4 majP.rules).map int))).at (h.next + 2) = some (.row 3 true ([0, 1].map int)) := at_nx2 (by simp only [Hp.next_lay]) (Hp.at_lay_old _ (Hp.at_lay_self ((h.lay (.row 25 true [int 0, nilS, nilS, nilS])).lay (.row 3 true ([1, 0, 1, 0].map int))) _))
  have a3 : ((((h.lay (.row 25 true [int 0, nilS, nilS, nilS])).lay (.row 3 true ([1, 0, 1, 0].map int))).lay (.row 3 true ([0, 1].map int))).lay (.row 96 true ((flat4 majP.rules).map int))).at (h.next + 3) = some (.row 96 true ((flat4 majP.rules).map int)) := at_nx2 (by simp only [Hp.next_lay]) (Hp.at_lay_self (((h.lay (.row 25 true [int 0, nilS, nilS, nilS])).lay (.row 3 true ([1, 0, 1, 0].map int))).lay (.row 3 true ([0, 1].map int))) _)
  have g0 : Grows h ((((h.lay (.row 25 true [int 0, nilS, nilS, nilS])).lay (.row 3 true ([1, 0, 1, 0].map int))).lay (.row 3 true ([0, 1].map int))).lay (.row 96 true ((flat4 majP.rules).map int))) := (((Grows.lay _ _).then_lay _).then_lay _).then_lay _
  refine ⟨rfl, _, storeAt_full (vs := [int 4, slc _ 0 4 4, slc _ 0 2 2, slc _ 0 4 4]) a0 rfl rfl rfl, ?_⟩
  conv => whnf
  obtain ⟨i25, t25, ag25, sz25⟩ := ty25
  refine leave_cell rfl t25 ag25 (by rw [sz25]; exact all_cells (Hp.at_set_self _ (Hp.lt_of_at a0)) rfl) ⟨⟨_, _, _, true, true, true, rfl, ?_, ?_, ?_, by simp only [Hp.next_lay]; omega, by simp only [Hp.next_lay]; omega, by simp only [Hp.next_lay]; omega, by simp only [Hp.next_lay]; omega⟩, g0.then_set _ (Nat.le_refl _)⟩
  · rw [Hp.at_set_ne _ (by simp only [Hp.next_lay]; omega)]; exact at_nx2 (by simp only [Hp.next_lay]) a1
  · rw [Hp.at_set_ne _ (by simp only [Hp.next_lay]; omega)]; exact at_nx2 (by simp only [Hp.next_lay]) a2
  · rw [Hp.at_set_ne _ (by simp only [Hp.next_lay]; omega)]; exact at_nx2 (by simp only [Hp.next_lay]) a3
end
end Go.Proofs.Ytpiplaicnbapbaa
namespace Go.Proofs.Ytpiplaicnbapbaa
open Go.Rx Go.RowKit
theorem storeAt_off {H : Hp} {r e : Nat} {x : Bool} {cs : List Value} {v : Value} {i : Nat} (hr : H.at r = some (.row e x cs)) (hi : i < cs.length) (h1 : oneCell v = true) : storeAt H r (offAt 0 i 1) [v] = some (H.set r (.row e x (cs.set i v))) := by
  rw [offAt_eq, Nat.zero_add, Nat.mul_one]
  exact storeAt_row hr hi h1
end Go.Proofs.Ytpiplaicnbapbaa
namespace Go.Proofs.Ytpiplaicnbapbaa
open Go.Rx Go.RowKit
structure RZ (h H : Hp) (tz Z : Nat) (ov sv rv : Value) (O S : List Int) (Q : List Q4) (cs : List Value) : Prop where
  gr : Grows h H
  z : H.at Z = some (.row tz true cs)
  o : BuiltC h H 3 1 ov O.length (O.map int)
  s : BuiltC h H 3 1 sv S.length (S.map int)
  r : BuiltC h H 96 4 rv Q.length ((flat4 Q).map int)
  hZ : h.next ≤ Z
  sep : Rx.Sep H [pl Z, ov, sv, rv] []
section
variable {h H H' : Hp} {tz Z : Nat} {ov sv rv : Value} {O S : List Int} {Q : List Q4} {cs : List Value}
theorem RZ.ext (k : RZ h H tz Z ov sv rv O S Q cs) (g : Grows H H') : RZ h H' tz Z ov sv rv O S Q cs :=
  ⟨k.gr.trans g, g.at_ _ _ k.z, k.o.ext g, k.s.ext g, k.r.ext g, k.hZ, k.sep.ext g⟩
theorem RZ.pv (k : RZ h H tz Z ov sv rv O S Q cs) {n : Int} : PV H (pval n ov sv rv) ⟨n, O, S, Q⟩ :=
  ⟨ov, sv, rv, rfl, LV.of k.o.b, LV.of k.s.b, k.r.back (Nat.zero_le _)⟩
theorem RZ.put (k : RZ h H tz Z ov sv rv O S Q cs) (cs' : List Value) : RZ h (H.set Z (.row tz true cs')) tz Z ov sv rv O S Q cs' := by
  have x : Kx (ad (pl Z)) H (H.set Z (.row tz true cs')) := Kx.set _ _ _
  have a := fun j v hj hv => k.sep.ap 0 j (pl Z) v hj rfl hv
  exact ⟨k.gr.then_set _ k.hZ, Hp.at_set_self _ (Hp.lt_of_at k.z), k.o.kx x (a 1 _ (by decide) rfl), k.s.kx x (a 2 _ (by decide) rfl), k.r.kx x (a 3 _ (by decide) rfl), k.hZ, k.sep.next (Nat.le_refl _)⟩
theorem RZ.r_app {z : Q4} {b : Bool} {K : Value → Hp → Prop} (k : RZ h H tz Z ov sv rv O S Q cs) (hl : Q.length ≤ 1000000)
    (q : ∀ rv' H', (∃ a n, rv' = .slice a n n) → RZ h H' tz Z ov sv rv' O S (Q ++ [z]) cs → K rv' H') : AppP E (H.lay (.row 96 b [int z.a, int z.b, int z.c, int z.d])) 96 4 32 rv (slc H.next 0 1 1) K := by
  have k1 := k.ext (Grows.lay H (.row 96 b [int z.a, int z.b, int z.c, int z.d]))
  refine AppP.cellsF k1.r k1.gr (m := 1) (new := [int z.a, int z.b, int z.c, int z.d]) ⟨rfl, all_cells (Hp.at_lay_self _ _) rfl, rfl, rfl⟩ (by omega) (by omega) (by omega) ?_
  intro v' H' hb' hg' hkeep ⟨r', er, hr'⟩
  have x := Kx.builtC k1.r hkeep
  have hv : ∀ r, ad v' = some r → (H.lay (.row 96 b [int z.a, int z.b, int z.c, int z.d])).next ≤ r ∧ r < H'.next := fun r e => ⟨by rw [er] at e; cases e; exact hr', (hb'.ad_lt r e).2⟩
  have hnx : (H.lay (.row 96 b [int z.a, int z.b, int z.c, int z.d])).next ≤ H'.next := by have := hv r' (by rw [er]; rfl); omega
  have a := fun j v hj hv => k1.sep.ap 3 j rv v hj rfl hv
  refine q _ _ ⟨_, _, er⟩ ⟨hg', ap_at (a := none) x k1.z (a 0 _ (by decide) rfl), k1.o.kx x (a 1 _ (by decide) rfl), k1.s.kx x (a 2 _ (by decide) rfl), ?_, k.hZ, k1.sep.move hnx 3 hv⟩
  rw [List.length_append, flat4_app, List.map_append]
  exact hb'
theorem RZ.o_set (k : RZ h H tz Z ov sv rv O S Q cs) {i : Nat} (hi : i < O.length) (z : Int) : ∃ r x, ov = slc r 0 O.length O.length ∧ storeAt H r (offAt 0 i 1) [int z] = some (H.set r (.row 3 x ((O.set i z).map int))) ∧ RZ h (H.set r (.row 3 x ((O.set i z).map int))) tz Z ov sv rv (O.set i z) S Q cs := by
  obtain ⟨hl, ⟨_, e1⟩ | ⟨r, er, h2, y, hr⟩⟩ := id k.o
  · omega
  · have x : Kx (ad ov) H (H.set r (.row 3 y ((O.set i z).map int))) := by rw [er]; exact Kx.set _ _ _
    have a := fun j v hj hv => k.sep.ap 1 j ov v hj rfl hv
    have st := storeAt_off (i := i) (v := int z) hr (by rw [List.length_map]; exact hi) rfl
    rw [show (O.map int).set i (int z) = (O.set i z).map int from by rw [List.map_set]] at st
    refine ⟨r, y, er, st, ⟨k.gr.then_set _ h2, ap_at (a := none) x k.z (a 0 _ (by decide) rfl), ⟨by rw [List.length_map, Nat.mul_one], .inr ⟨r, by rw [List.length_set]; exact er, h2, y, Hp.at_set_self _ (Hp.lt_of_at hr)⟩⟩, k.s.kx x (a 2 _ (by decide) rfl), k.r.kx x (a 3 _ (by decide) rfl), k.hZ, k.sep.next (Nat.le_refl _)⟩⟩
end
end Go.Proofs.Ytpiplaicnbapbaa
namespace Go.Proofs.Ytpiplaicnbapbaa
open Go.Rx Go.RowKit
def sg (n k x : Int) : Int := if x + k < n then x + k else x + k - n
def ig (n k x : Int) : Int := if x < k then x + n - k else x - k
theorem sg_bd {n k x : Int} (hk : 0 ≤ k ∧ k < n) (hx : 0 ≤ x ∧ x < n) : 0 ≤ sg n k x ∧ sg n k x < n := by unfold sg; split <;> omega
theorem ig_bd {n k x : Int} (hk : 0 ≤ k ∧ k < n) (hx : 0 ≤ x ∧ x < n) : 0 ≤ ig n k x ∧ ig n k x < n := by unfold ig; split <;> omega
theorem ig_sg {n k x : Int} (hk : 0 ≤ k ∧ k < n) (hx : 0 ≤ x ∧ x < n) : ig n k (sg n k x) = x := by unfold ig sg; split <;> split <;> omega
theorem sg_ig {n k x : Int} (hk : 0 ≤ k ∧ k < n) (hx : 0 ≤ x ∧ x < n) : sg n k (ig n k x) = x := by unfold ig sg; split <;> split <;> omega
def renp (n k : Nat) (l : List Int) (m : Nat) : List Int := (List.range m).map fun (s : Nat) => gl l (ig n k (s : Int)).toNat
def ren (n k : Nat) (l : List Int) : List Int := renp n k l n
theorem renp_len (n k : Nat) (l : List Int) (m : Nat) : (renp n k l m).length = m := by unfold renp; rw [List.length_map, List.length_range]
theorem ren_len (n k : Nat) (l : List Int) : (ren n k l).length = n := renp_len ..
theorem gl_ren {n k : Nat} {l : List Int} {i : Nat} (hi : i < n) : gl (ren n k l) i = gl l (ig n k i).toNat := by
  rw [gl_at (by rw [ren_len]; exact hi)]
  unfold ren renp
  rw [List.getElem_map, List.getElem_range]
theorem gl_ren_sg {n k : Nat} {l : List Int} {x : Int} (hk : k < n) (hx : 0 ≤ x ∧ x < n) : gl (ren n k l) (sg n k x).toNat = gl l x.toNat := by
  have h1 := sg_bd (n := n) (k := k) (x := x) (by omega) hx
  rw [gl_ren (by omega), show ((sg n k x).toNat : Int) = sg n k x by omega, ig_sg (by omega) hx]
theorem ext_gl {n : Nat} {l m : List Int} (hl : l.length = n) (hm : m.length = n) (h : ∀ i, i < n → gl l i = gl m i) : l = m := by
  refine List.ext_getElem (by omega) fun i h1 h2 => ?_
  have := h i (by omega)
  rw [gl_at h1, gl_at h2] at this
  exact this
theorem ren_inj {n k : Nat} {l m : List Int} (hk : k < n) (hl : l.length = n) (hm : m.length = n) (h : ren n k l = ren n k m) : l = m := by
  refine ext_gl hl hm fun i hi => ?_
  have h1 := gl_ren_sg (n := n) (k := k) (l := l) (x := i) hk (by omega)
  have h2 := gl_ren_sg (n := n) (k := k) (l := m) (x := i) hk (by omega)
  rw [h] at h1
  rw [h1] at h2
  simpa using h2
def qi (n k : Nat) (r : Q4) : Q4 := ⟨min (sg n k r.a) (sg n k r.b), max (sg n k r.a) (sg n k r.b), sg n k r.c, sg n k r.d⟩
theorem qi_in {n k : Nat} {r : Q4} (hk : k < n) (h : QIn n r) : QIn n (qi n k r) ∧ (qi n k r).a ≤ (qi n k r).b := by
  unfold QIn at h
  have h1 := sg_bd (n := n) (k := k) (x := r.a) (by omega) (by omega)
  have h2 := sg_bd (n := n) (k := k) (x := r.b) (by omega) (by omega)
  have h3 := sg_bd (n := n) (k := k) (x := r.c) (by omega) (by omega)
  have h4 := sg_bd (n := n) (k := k) (x := r.d) (by omega) (by omega)
  unfold QIn qi
  dsimp only
  omega
theorem sg_inj {n k : Nat} {x y : Int} (hk : k < n) (hx : 0 ≤ x ∧ x < n) (hy : 0 ≤ y ∧ y < n) (h : sg n k x = sg n k y) : x = y := by
  have h1 := ig_sg (n := n) (k := k) (x := x) (by omega) hx
  have h2 := ig_sg (n := n) (k := k) (x := y) (by omega) hy
  rw [h] at h1
  omega
theorem qi_allowed {n k : Nat} {r : Q4} {c : List Int} (hk : k < n) (h : QIn n r) : Allowed (ren n k c) (qi n k r) ↔ Allowed c r := by
  have hq := qin' h
  have g1 := gl_ren_sg (l := c) (k := k) hk hq.1
  have g2 := gl_ren_sg (l := c) (k := k) hk hq.2.1
  unfold Allowed
  by_cases e : r.a = r.b
  · have e2 : (qi n k r).a = (qi n k r).b := by unfold qi; dsimp only; rw [e]; omega
    have e3 : (qi n k r).a = sg n k r.a := by unfold qi; dsimp only; rw [e]; omega
    rw [if_pos e, if_pos e2, e3, g1]
  · have e1 : sg n k r.a ≠ sg n k r.b := fun x => e (sg_inj hk hq.1 hq.2.1 x)
    by_cases hlt : sg n k r.a < sg n k r.b
    · have a1 : (qi n k r).a = sg n k r.a := by unfold qi; dsimp only; omega
      have a2 : (qi n k r).b = sg n k r.b := by unfold qi; dsimp only; omega
      rw [if_neg e, if_neg (by omega), a1, a2, g1, g2]
    · have a1 : (qi n k r).a = sg n k r.b := by unfold qi; dsimp only; omega
      have a2 : (qi n k r).b = sg n k r.a := by unfold qi; dsimp only; omega
      rw [if_neg e, if_neg (by omega), a1, a2, g1, g2, and_comm]
theorem ind_sg {n k i : Nat} {x : Int} (hk : k < n) (hi : i < n) (hx : 0 ≤ x ∧ x < n) : ind i (sg n k x).toNat = ind (ig n k i).toNat x.toNat := by
  have h1 := sg_bd (n := n) (k := k) (x := x) (by omega) hx
  have h2 := ig_bd (n := n) (k := k) (x := i) (by omega) (by omega)
  by_cases e : i = (sg n k x).toNat
  · rw [ind_eq e]
    have : (i : Int) = sg n k x := by omega
    rw [this, ig_sg (by omega) hx, ind_eq rfl]
  · rw [ind_ne e, ind_ne]
    intro e2
    have : ig n k i = x := by omega
    have := sg_ig (n := n) (k := k) (x := i) (by omega) (by omega)
    subst x
    omega
theorem qi_after {n k : Nat} {r : Q4} {c : List Int} (hk : k < n) (h : QIn n r) (hc : c.length = n) : after (ren n k c) (qi n k r) = ren n k (after c r) := by
  have hq := qin' h
  have hqi := qi_in hk h
  refine ext_gl (n := n) (by rw [after_len, ren_len]) (ren_len ..) fun i hi => ?_
  have hb := ig_bd (n := n) (k := k) (x := i) (by omega) (by omega)
  rw [gl_after (ren_len ..) (qin hqi.1), gl_ren hi, gl_ren hi, gl_after hc (qin h)]
  rw [← ind_sg hk hi hq.1, ← ind_sg hk hi hq.2.1, ← ind_sg hk hi hq.2.2.1, ← ind_sg hk hi hq.2.2.2]
  have e3 : (qi n k r).c = sg n k r.c := rfl
  have e4 : (qi n k r).d = sg n k r.d := rfl
  rw [e3, e4]
  by_cases hlt : sg n k r.a ≤ sg n k r.b
  · have a1 : (qi n k r).a = sg n k r.a := by unfold qi; dsimp only; omega
    have a2 : (qi n k r).b = sg n k r.b := by unfold qi; dsimp only; omega
    rw [a1, a2]
  · have a1 : (qi n k r).a = sg n k r.b := by unfold qi; dsimp only; omega
    have a2 : (qi n k r).b = sg n k r.a := by unfold qi; dsimp only; omega
    rw [a1, a2]
    omega
theorem step_iff {R : List Q4} {c e : List Int} : (∃ i, step R c i = some e) ↔ ∃ r ∈ R, Allowed c r ∧ e = after c r := by
  constructor
  · rintro ⟨i, h⟩
    unfold step at h
    split at h
    · split at h
      · cases h
        exact ⟨_, List.getElem_mem _, by assumption, rfl⟩
      · cases h
    · cases h
  · rintro ⟨r, hr, ha, rfl⟩
    obtain ⟨i, hi, rfl⟩ := List.getElem_of_mem hr
    refine ⟨i, ?_⟩
    unfold step
    rw [dif_pos ⟨by omega, by omega⟩]
    simp only [Int.toNat_natCast]
    rw [if_pos ha]
section
variable {n k : Nat} {R Rz : List Q4}
structure Rn (n k : Nat) (R Rz : List Q4) : Prop where
  hk : k < n
  n4 : n ≤ 4
  hR : ∀ x ∈ R, QIn n x
  to : ∀ r ∈ R, qi n k r ∈ Rz
  back : ∀ q ∈ Rz, ∃ r ∈ R, q = qi n k r
theorem Rn.step (h : Rn n k R Rz) {c e : List Int} (hc : CrOk n c) (s : ∃ i, step R c i = some e) : ∃ i, step Rz (ren n k c) i = some (ren n k e) := by
  obtain ⟨r, hr, ha, rfl⟩ := step_iff.1 s
  exact step_iff.2 ⟨_, h.to r hr, (qi_allowed h.hk (h.hR r hr)).2 ha, (qi_after h.hk (h.hR r hr) hc.len).symm⟩
theorem Rn.unstep (h : Rn n k R Rz) {c f : List Int} (hc : CrOk n c) (s : ∃ i, Go.Proofs.Ytpiplaicnbapbaa.step Rz (ren n k c) i = some f) : ∃ e, f = ren n k e ∧ ∃ i, Go.Proofs.Ytpiplaicnbapbaa.step R c i = some e := by
  obtain ⟨q, hq, ha, rfl⟩ := step_iff.1 s
  obtain ⟨r, hr, rfl⟩ := h.back q hq
  exact ⟨_, qi_after h.hk (h.hR r hr) hc.len, step_iff.2 ⟨r, hr, (qi_allowed h.hk (h.hR r hr)).1 ha, rfl⟩⟩
theorem Rn.rs (h : Rn n k R Rz) {c d : List Int} (hc : CrOk n c) (s : Rs R c d) : Rs Rz (ren n k c) (ren n k d) := by
  induction s with
  | refl => exact .refl _
  | tail h1 h2 ih =>
    obtain ⟨i, hi⟩ := h.step (h1.ok h.hR hc) ⟨_, h2⟩
    exact ih.tail hi
theorem Rn.unrs (h : Rn n k R Rz) {c f : List Int} (hc : CrOk n c) {c' : List Int} (ec : c' = ren n k c) (s : Rs Rz c' f) : ∃ d, f = ren n k d ∧ Rs R c d := by
  induction s with
  | refl => exact ⟨c, ec, .refl _⟩
  | tail h1 h2 ih =>
    obtain ⟨d, rfl, hd⟩ := ih
    obtain ⟨e, rfl, i, hi⟩ := h.unstep (hd.ok h.hR hc) ⟨_, h2⟩
    exact ⟨e, rfl, hd.tail hi⟩
theorem ren_all {out c : List Int} {on : Int} (hk : k < n) (ho : out.length = n) : AllOut (ren n k out) on (ren n k c) ↔ AllOut out on c := by
  unfold AllOut
  rw [ren_len, ho]
  constructor
  · intro h s hs hp
    have h1 := sg_bd (n := n) (k := k) (x := s) (by omega) (by omega)
    have h2 := gl_ren_sg (l := c) (k := k) (x := s) hk (by omega)
    have h3 := gl_ren_sg (l := out) (k := k) (x := s) hk (by omega)
    have := h (sg n k s).toNat (by omega) (by rw [h2]; simpa using hp)
    rw [h3] at this
    simpa using this
  · intro h s hs hp
    rw [gl_ren hs] at hp ⊢
    have := ig_bd (n := n) (k := k) (x := s) (by omega) (by omega)
    exact h _ (by omega) hp
theorem Rn.sett (h : Rn n k R Rz) {out c : List Int} {on : Int} (ho : out.length = n) (hc : CrOk n c) : SettC Rz (ren n k out) on (ren n k c) ↔ SettC R out on c := by
  constructor
  · intro s d hd
    exact (ren_all h.hk ho).1 (s _ (h.rs hc hd))
  · intro s f hf
    obtain ⟨d, rfl, hd⟩ := h.unrs hc rfl hf
    exact (ren_all h.hk ho).2 (s d hd)
theorem Rn.gr (h : Rn n k R Rz) {c : List Int} {L : List (List Int)} (hc : CrOk n c) (g : Gr R c L) : Gr Rz (ren n k c) (L.map (ren n k)) := by
  refine ⟨?_, ?_, ?_, ?_⟩
  · refine List.pairwise_iff_getElem.2 fun i j hi hj hij => ?_
    rw [List.getElem_map, List.getElem_map]
    intro e
    rw [List.length_map] at hi hj
    have l1 := ((g.from_ _ (List.getElem_mem hi)).ok h.hR hc).len
    have l2 := ((g.from_ _ (List.getElem_mem hj)).ok h.hR hc).len
    exact List.pairwise_iff_getElem.1 g.nodup i j hi hj hij (ren_inj h.hk l1 l2 e)
  · rw [List.getElem?_map, g.first]; rfl
  · intro d hd
    obtain ⟨e, he, rfl⟩ := List.mem_map.1 hd
    exact h.rs hc (g.from_ e he)
  · intro d hd i f hf
    obtain ⟨e, he, rfl⟩ := List.mem_map.1 hd
    obtain ⟨e', rfl, j, hj⟩ := h.unstep ((g.from_ e he).ok h.hR hc) ⟨i, hf⟩
    exact List.mem_map.2 ⟨e', g.closed e he j e' hj, rfl⟩
theorem Rn.len (h : Rn n k R Rz) {c : List Int} {L L' : List (List Int)} (hc : CrOk n c) (g : Gr R c L) (g' : Gr Rz (ren n k c) L') : L'.length = L.length := by
  rw [g'.len_uniq (h.gr hc g), List.length_map]
end
theorem FirstOf.same {P Q : Int → Prop} (e : ∀ x, P x ↔ Q x) {s s' : Int} {b b' : Bool} (h : FirstOf P s b) (h' : FirstOf Q s' b') : s = s' ∧ b = b' := by
  by_cases h0 : P 0
  · obtain ⟨h1, h2⟩ := h.1 h0
    obtain ⟨h3, h4⟩ := h'.1 ((e 0).1 h0)
    exact ⟨h1.trans h3.symm, h2.trans h4.symm⟩
  · by_cases h1 : P 1
    · obtain ⟨h1, h2⟩ := h.2.1 h0 h1
      obtain ⟨h3, h4⟩ := h'.2.1 (fun x => h0 ((e 0).2 x)) ((e 1).1 (by assumption))
      exact ⟨h1.trans h3.symm, h2.trans h4.symm⟩
    · obtain ⟨h1, h2⟩ := h.2.2 h0 h1
      obtain ⟨h3, h4⟩ := h'.2.2 (fun x => h0 ((e 0).2 x)) (fun x => by rename_i hn; exact hn ((e 1).2 x))
      exact ⟨h1.trans h3.symm, h2.trans h4.symm⟩
def ky (q : Q4) : Int := 5 * q.a + q.b
structure ZI (n k : Nat) (R : List Q4) (K : Int) (i : Nat) (Q : List Q4) : Prop where
  mem : ∀ q ∈ Q, ∃ j, ∃ hj : j < R.length, q = qi n k R[j] ∧ (ky q < K ∨ ky q = K ∧ j < i)
  cov : ∀ j (hj : j < R.length), (ky (qi n k R[j]) < K ∨ ky (qi n k R[j]) = K ∧ j < i) → qi n k R[j] ∈ Q
  srt : Q.Pairwise (fun x y => ky x < ky y)
section
variable {n k : Nat} {R : List Q4}
theorem ROk.in {m : Int} (h : ROk m R R.length) : ∀ x ∈ R, QIn m x := fun x hx => by
  obtain ⟨i, hi, rfl⟩ := List.getElem_of_mem hx
  exact (h i hi hi).1
theorem ROk.uniq (hk : k < n) (h : ROk n R R.length) (hn : n ≤ 4) {i j : Nat} (hi : i < R.length) (hj : j < R.length) (e : ky (qi n k R[i]) = ky (qi n k R[j])) : i = j := by
  have srt : ∀ d a, (ha : a + d + 1 < R.length) → QLess (R[a]'(by omega)) (R[a + d + 1]'ha) := by
    intro d
    induction d with
    | zero => intro a ha; exact (h (a + 1) ha ha).2.2 (by omega)
    | succ d ih =>
      intro a ha
      have h1 := ih a (by omega)
      have h2 := (h (a + (d + 1) + 1) ha ha).2.2 (by omega)
      have e1 : R[a + (d + 1) + 1 - 1]'(by omega) = R[a + d + 1]'(by omega) := by congr 1
      rw [e1] at h2
      unfold QLess at *
      omega
  have key : ∀ a b, (ha : a < R.length) → (hb : b < R.length) → ky (qi n k R[a]) = ky (qi n k R[b]) → ¬ a < b := by
    intro a b ha hb e hab
    obtain ⟨d, rfl⟩ : ∃ d, b = a + d + 1 := ⟨b - a - 1, by omega⟩
    have hs := srt d a hb
    have o1 := h _ ha ha
    have o2 := h _ hb hb
    have q1 := qi_in hk o1.1
    have q2 := qi_in hk o2.1
    have i1 := qin' o1.1
    have i2 := qin' o2.1
    have s1 := sg_bd (n := n) (k := k) (by omega) i1.1
    have s2 := sg_bd (n := n) (k := k) (by omega) i1.2.1
    have s3 := sg_bd (n := n) (k := k) (by omega) i2.1
    have s4 := sg_bd (n := n) (k := k) (by omega) i2.2.1
    have inj := fun {x y : Int} => sg_inj (k := k) (n := n) (x := x) (y := y) hk
    have e1 := o1.2.1
    have e2 := o2.2.1
    unfold ky qi at e
    unfold QLess at hs
    dsimp only at e
    have c1 := @inj R[a].a (R[a + d + 1]'hb).a i1.1 i2.1
    have c2 := @inj R[a].b (R[a + d + 1]'hb).b i1.2.1 i2.2.1
    have c3 := @inj R[a].a (R[a + d + 1]'hb).b i1.1 i2.2.1
    have c4 := @inj R[a].b (R[a + d + 1]'hb).a i1.2.1 i2.1
    omega
  have h1 := key i j hi hj e
  have h2 := key j i hj hi e.symm
  omega
theorem ZI.start (hk : k < n) (hR : ∀ x ∈ R, QIn n x) : ZI n k R 0 0 [] := ⟨fun q hq => by simp at hq, fun j hj h => by
  have := (qi_in hk (hR _ (List.getElem_mem hj)))
  unfold QIn at this
  unfold ky at h
  omega, List.Pairwise.nil⟩
theorem ZI.skip {K : Int} {i : Nat} {Q : List Q4} (h : ZI n k R K i Q) (hi : i < R.length) (hne : ky (qi n k R[i]) ≠ K) : ZI n k R K (i + 1) Q := by
  refine ⟨fun q hq => ?_, fun j hj hc => h.cov j hj ?_, h.srt⟩
  · obtain ⟨j, hj, e, hc⟩ := h.mem q hq
    exact ⟨j, hj, e, by omega⟩
  · rcases hc with hc | ⟨hc, hji⟩
    · exact .inl hc
    · refine .inr ⟨hc, ?_⟩
      by_cases e : j = i
      · subst e; exact absurd hc hne
      · omega
theorem ZI.add (hk : k < n) (hn : n ≤ 4) (hR : ROk n R R.length) {K : Int} {i : Nat} {Q : List Q4} (h : ZI n k R K i Q) (hi : i < R.length) (he : ky (qi n k R[i]) = K) : ZI n k R K (i + 1) (Q ++ [qi n k R[i]]) := by
  refine ⟨fun q hq => ?_, fun j hj hc => ?_, ?_⟩
  · rcases List.mem_append.1 hq with hq | hq
    · obtain ⟨j, hj, e, hc⟩ := h.mem q hq
      exact ⟨j, hj, e, by omega⟩
    · rw [List.mem_singleton.1 hq]
      exact ⟨i, hi, rfl, .inr ⟨he, by omega⟩⟩
  · by_cases e : j = i
    · subst e; simp
    · exact List.mem_append_left _ (h.cov j hj (by omega))
  · refine List.pairwise_append.2 ⟨h.srt, List.pairwise_singleton _ _, fun x hx y hy => ?_⟩
    rw [List.mem_singleton.1 hy]
    obtain ⟨j, hj, rfl, hc⟩ := h.mem x hx
    rcases hc with hc | ⟨hc, hji⟩
    · omega
    · have := hR.uniq hk hn hj hi (by omega)
      omega
theorem ZI.next {K : Int} {Q : List Q4} (h : ZI n k R K R.length Q) : ZI n k R (K + 1) 0 Q := by
  refine ⟨fun q hq => ?_, fun j hj hc => h.cov j hj (by omega), h.srt⟩
  obtain ⟨j, hj, e, hc⟩ := h.mem q hq
  exact ⟨j, hj, e, by omega⟩
theorem ZI.turn (hk : k < n) (hn : n ≤ 4) (hR : ∀ x ∈ R, QIn n x) {a : Int} {Q : List Q4} (h : ZI n k R (5 * a + n) 0 Q) : ZI n k R (5 * (a + 1) + (a + 1)) 0 Q := by
  refine ⟨fun q hq => ?_, fun j hj hc => h.cov j hj ?_, h.srt⟩
  · obtain ⟨j, hj, e, hc⟩ := h.mem q hq
    have := qi_in hk (hR _ (List.getElem_mem hj))
    rw [← e] at this
    unfold QIn at this
    unfold ky at hc
    refine ⟨j, hj, e, ?_⟩
    unfold ky
    omega
  · have := qi_in hk (hR _ (List.getElem_mem hj))
    unfold QIn at this
    unfold ky at hc ⊢
    omega
theorem nodup_q : ∀ {l m : List Q4}, l.Nodup → (∀ x ∈ l, x ∈ m) → l.length ≤ m.length
  | [], m, _, _ => Nat.zero_le _
  | x :: l, m, hn, hs => by
    classical
    have hc := List.nodup_cons.1 hn
    have hx : x ∈ m := hs x (by simp)
    have h1 := nodup_q (l := l) (m := m.erase x) hc.2 (fun y hy => by
      have hne : y ≠ x := fun e => hc.1 (e ▸ hy)
      exact (List.mem_erase_of_ne hne).2 (hs y (by simp [hy])))
    rw [List.length_erase_of_mem hx] at h1
    have := List.length_pos_of_mem hx
    simp only [List.length_cons]
    omega
theorem ZI.len {K : Int} {i : Nat} {Q : List Q4} (h : ZI n k R K i Q) : Q.length ≤ R.length := by
  have h1 : Q.Nodup := h.srt.imp fun {a b} hab e => by subst e; omega
  have h2 := nodup_q (m := R.map (qi n k)) h1 fun x hx => by
    obtain ⟨j, hj, e, -⟩ := h.mem x hx
    exact e ▸ List.mem_map.2 ⟨_, List.getElem_mem hj, rfl⟩
  rwa [List.length_map] at h2
theorem ZI.done (hk : k < n) (hn : n ≤ 4) (hR : ∀ x ∈ R, QIn n x) {Q : List Q4} (h : ZI n k R (5 * n + n) 0 Q) : Rn n k R Q ∧ ROk n Q Q.length := by
  have hin : ∀ q ∈ Q, QIn n q ∧ q.a ≤ q.b := fun q hq => by
    obtain ⟨j, hj, rfl, -⟩ := h.mem q hq
    exact qi_in hk (hR _ (List.getElem_mem hj))
  refine ⟨⟨hk, hn, hR, fun r hr => ?_, fun q hq => ?_⟩, fun m hm _ => ?_⟩
  · obtain ⟨j, hj, rfl⟩ := List.getElem_of_mem hr
    refine h.cov j hj ?_
    have := qi_in hk (hR _ (List.getElem_mem hj))
    unfold QIn at this
    unfold ky
    omega
  · obtain ⟨j, hj, e, -⟩ := h.mem q hq
    exact ⟨_, List.getElem_mem hj, e⟩
  · have h1 := hin _ (List.getElem_mem hm)
    refine ⟨h1.1, h1.2, fun h0 => ?_⟩
    have h2 := hin _ (List.getElem_mem (n := m - 1) (l := Q) (by omega))
    have h3 := List.pairwise_iff_getElem.1 h.srt (m - 1) m (by omega) hm (by omega)
    unfold ky at h3
    unfold QIn at h1 h2
    unfold QLess
    omega
end
end Go.Proofs.Ytpiplaicnbapbaa
namespace Go.Proofs.Ytpiplaicnbapbaa
open Go.Rx Go.RowKit
theorem RZ.start (H : Hp) (tz : Nat) (cs : List Value) : RZ H (H.lay (.row tz true cs)) tz H.next (.slice none 0 0) (.slice none 0 0) (.slice none 0 0) [] [] [] cs := by
  refine ⟨Grows.lay _ _, Hp.at_lay_self _ _, BuiltC.nil, BuiltC.nil, BuiltC.nil, Nat.le_refl _, ⟨?_, ?_, ?_, ?_⟩⟩
  · intro v hv r e
    rw [Hp.next_lay]
    simp only [List.mem_cons, List.not_mem_nil, or_false] at hv
    rcases hv with rfl | rfl | rfl | rfl <;> cases e
    omega
  · intro v hv; simp at hv
  · intro i j v u hij hv hu
    match i, j, hij, hv, hu with
    | 0, 0, hij, _, _ => exact absurd rfl hij
    | 0, 1, _, _, hu => cases hu; exact (Ap.nil _).symm
    | 0, 2, _, _, hu => cases hu; exact (Ap.nil _).symm
    | 0, 3, _, _, hu => cases hu; exact (Ap.nil _).symm
    | 0, j + 4, _, _, hu => simp at hu
    | 1, _, _, hv, _ => cases hv; exact Ap.nil _
    | 2, _, _, hv, _ => cases hv; exact Ap.nil _
    | 3, _, _, hv, _ => cases hv; exact Ap.nil _
    | i + 4, _, _, hv, _ => simp at hv
  · intro v _ u hu; simp at hu
theorem wqOps_app {E : Env} : ∀ (l m : List G) (φ : Rx.Frame) (h : Hp) (Q : Rx.Frame → Hp → Prop), wqOps E (l ++ m) φ h Q = wqOps E l φ h fun φ h => wqOps E m φ h Q
  | [], m, φ, h, Q => rfl
  | ⟨d, op, g⟩ :: l, m, φ, h, Q => by
    have ih := wqOps_app (E := E) l m
    show wqOps E (⟨d, op, g⟩ :: (l ++ m)) φ h Q = _
    rw [wqOps_cons, wqOps_cons]
    simp only [ih]
theorem SeqP.splitN {E : Env} [TyOk E] {z : Nat} {rd : Option Nat} {b : C} {l : List G} {φ : Rx.Frame} {h : Hp} {m : List Nat} {Q : Pq} (n : Nat)
    (k : SeqP z rd (.ops (l.take n)) (.seq (.ops (l.drop n)) b) (wq E z rd (.ops (l.take n))) (wq E z rd (.seq (.ops (l.drop n)) b)) φ h m Q) : SeqP z rd (.ops l) b (wq E z rd (.ops l)) (wq E z rd b) φ h m Q := by
  refine SeqP.mk ?_
  show wqOps E l φ h (fun φ h => wq E z rd b φ h m Q)
  rw [show l = l.take n ++ l.drop n from (List.take_append_drop n l).symm, wqOps_app]
  have h1 := k.out
  have h2 := wq_mono (Q' := seqQ Q fun φ h m => wqOps E (l.drop n) φ h fun φ h => wq E z rd b φ h m Q) (fun e φ' h' m' hq => ?_) h1
  · exact h2
  · cases e with
    | normal => exact SeqP.out hq
    | _ => exact hq
end Go.Proofs.Ytpiplaicnbapbaa
