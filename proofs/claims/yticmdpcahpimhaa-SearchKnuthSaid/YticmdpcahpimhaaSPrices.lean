/- Contracts of the functions that SKnuthM comes to. -/
import Derived.Test.YticmdpcahpimhaaSAns
set_option maxRecDepth 100000
set_option maxHeartbeats 1000000
set_option linter.unusedVariables false
set_option linter.unusedSectionVars false
set_option linter.unusedSimpArgs false
namespace Go.Rx
theorem Built.ne_lt {h0 h : Hp} {e : TypeId} {v : Value} {l : List Int} {r : Nat} (k : Built h0 h e v l) (hr : r < h0.next) : ∀ n c, v ≠ slc r 0 n c := by
  intro n c ev
  rcases k with ⟨rfl, _⟩ | ⟨r', rfl, hle, x', hr'⟩
  · cases ev
  · unfold slc at ev
    cases ev
    omega
theorem rowF_ints (n : Nat) (f : Nat → Int) : rowF n f = ((List.range n).map f).map int := by
  unfold rowF; rw [List.map_map]; rfl
theorem sum_take_succ {l : List Int} {k : Nat} (h : k < l.length) : (l.take (k + 1)).sum = (l.take k).sum + l[k] := by
  rw [List.take_succ_eq_append_getElem h, List.sum_append]; simp
end Go.Rx
namespace Go.Proofs.Yticmdpcahpimhaa
open Go.Rx Go.RowKit
attribute [local irreducible] E idxN cellAt cellsAt storeAt callable helems hmoved lookIn findKey keyOk hentries Hp.at Hp.set Hp.lay arBits hupdated setAt CallP YieldP BoolOf IsWrap Rnd LoopP AppP CutP Int.tmod Int.tdiv Int.fdiv
def cost (cs : List Int) (g : Int) : Int := cs.getD g.toNat 0
def paid (cs q : List Int) (i : Nat) : Int := ((ans cs.length 0 q i).map (cost cs)).sum
def pricesOf (cs q : List Int) : List Int := (List.range (cs.length + 1)).map (paid cs q)
theorem cost_at {cs : List Int} {g : Int} {k : Nat} (hk : k < cs.length) (e : g.toNat = k) : cost cs g = cs[k] := by
  unfold cost
  rw [e, List.getD_eq_getElem?_getD, List.getElem?_eq_getElem hk]; rfl
theorem costs_bd {cs : List Int} (hc : ∀ x ∈ cs, 1 ≤ x ∧ x ≤ 1000) (l : List Int) : ∀ x ∈ l.map (cost cs), 0 ≤ x ∧ x ≤ 1000 := by
  intro x hx
  obtain ⟨g, _, rfl⟩ := List.mem_map.1 hx
  by_cases h : g.toNat < cs.length
  · rw [cost_at h rfl]
    have := hc _ (List.getElem_mem h)
    omega
  · unfold cost
    rw [List.getD_eq_getElem?_getD, List.getElem?_eq_none (by omega)]
    simp
theorem sum_bd' (m : Int) (hm : 0 ≤ m) : ∀ (l : List Int), (∀ x ∈ l, 0 ≤ x ∧ x ≤ m) → 0 ≤ l.sum ∧ l.sum ≤ m * l.length
  | [], _ => by simp
  | x :: l, h => by
    have h1 := h x (by simp)
    have h2 := sum_bd' m hm l (fun y hy => h y (by simp [hy]))
    simp only [List.sum_cons, List.length_cons]
    have e : m * ((l.length + 1 : Nat) : Int) = m * (l.length : Int) + m := by
      rw [Int.natCast_add, Int.mul_add]; simp
    omega
section
variable [Unknowns]
theorem prices_spec (cs q : List Int) (v w : Value) (h : Hp) (hv : Ints h v cs) (hw : View h w q) (hl : cs.length ≤ 12) (hc : ∀ x ∈ cs, 1 ≤ x ∧ x ≤ 1000) (hp : Pl 0 cs.length q) : CallP E 63 [v, w] h (fun r h' => Built h h' 3 r (pricesOf cs q) ∧ Grows h h') := by
  obtain ⟨av, cap, rfl, hcell⟩ := id hv
  refine enter63 (by simp) ?_
  conv => whnf
  refine ⟨((cs.length + 1 : Nat) : Int), wie (by omega) (by omega), ?_⟩
  conv => whnf
  refine ⟨⟨by omega, by omega, by omega, by omega⟩, ?_⟩
  conv => whnf
  have e0 : times [int 0] ((cs.length + 1 : Nat) : Int).toNat = rowF (cs.length + 1) (fun k => if k < 0 then paid cs q k else 0) := by
    rw [times_zero, Int.toNat_natCast]; exact rowF_congr (fun k _ => by simp)
  rw [e0]
  refine loop_inv (α := Nat × Hp) (fun a => [(16, int a.1), (15, int (cs.length + 1 : Nat)), (0, .slice av cs.length cap), (1, w), (5, slc h.next 0 (cs.length + 1) (cs.length + 1))]) (fun a => a.2) (fun a => a.1 ≤ cs.length + 1 ∧ a.2.at h.next = some (.row 3 true (rowF (cs.length + 1) (fun k => if k < a.1 then paid cs q k else 0))) ∧ Grows h a.2) (fun a => cs.length + 1 - a.1) (0, _) ⟨by simp, Hp.at_lay_self _ _, Grows.lay _ _⟩ ⟨rfl, rfl, rfl, rfl, rfl, trivial⟩ (Hp.Le.refl _) ?_
  rintro ⟨i, h1⟩ φ ⟨hi, hrow, hg⟩
  dsimp only at hi hrow hg ⊢
  conv => whnf
  refine cmpB (fun hb => ?_) (fun hb => ?_)
  rotate_left
  · have : i = cs.length + 1 := by omega
    subst this
    conv => whnf
    refine ⟨.inr ⟨h.next, ?_, Nat.le_refl _, true, ?_⟩, hg⟩
    · show slc _ _ _ _ = slc _ _ _ _
      simp [pricesOf]
    · rw [hrow]
      rw [rowF_congr (g := paid cs q) (fun k hk => by rw [if_pos hk]), rowF_ints]
      rfl
  have hi' : i ≤ cs.length := by omega
  conv => whnf
  refine CallP.mono (answer_spec cs.length hl i hi' q w h1 (hw.ext hg) hp) ?_
  rintro va h2 ⟨hva, hg2⟩
  have hao := ans_ok cs.length 0 cs.length q i hp (by omega) (by omega) hi'
  have hrow2 := hg2.at_ _ _ hrow
  have hlt2 := Hp.lt_of_at hrow2
  have hlen := hao.len
  have hvi := hva.ints
  obtain ⟨aa, ac, rfl, hacell⟩ := hvi
  conv => whnf
  refine loop_inv (α := Nat × Hp × Value) (fun a => [(25, int a.1), (24, int (ans cs.length 0 q i).length), (23, .slice aa (ans cs.length 0 q i).length ac), (16, int i), (15, int (cs.length + 1 : Nat)), (6, int i), (0, .slice av cs.length cap), (1, w), (5, slc h.next 0 (cs.length + 1) (cs.length + 1)), (7, a.2.2)]) (fun a => a.2.1) (fun a => a.1 ≤ (ans cs.length 0 q i).length ∧ Built h2 a.2.1 3 a.2.2 (((ans cs.length 0 q i).take a.1).map (cost cs)) ∧ Grows h2 a.2.1) (fun a => (ans cs.length 0 q i).length - a.1) (0, h2, .slice none 0 0) ⟨by simp, .inl ⟨rfl, by simp⟩, .refl _⟩ ⟨rfl, rfl, rfl, rfl, rfl, rfl, rfl, rfl, rfl, rfl, trivial⟩ (Hp.Le.refl _) ?_
  rintro ⟨j, h3, wp⟩ φ2 ⟨hj, hwp, hg3⟩
  dsimp only at hj hwp hg3 ⊢
  conv => whnf
  have hg03 := hg.trans (hg2.trans hg3)
  refine cmpB (fun hb2 => ?_) (fun hb2 => ?_)
  · have hj' : j < (ans cs.length 0 q i).length := by omega
    obtain ⟨r, o, sp, e, hsp, hcl⟩ := hacell j hj'
    subst e
    have hgb := hao.bd _ (List.getElem_mem hj')
    generalize hgd : (ans cs.length 0 q i)[j] = g at *
    have hgl : g.toNat < cs.length := by omega
    obtain ⟨r2, o2, sp2, e2, hsp2, hcl2⟩ := hcell g.toNat hgl
    subst e2
    conv => whnf
    refine ⟨hsp, ⟨by omega, by omega⟩, ?_⟩
    conv => whnf
    refine ⟨_, hg3.cell hcl, ?_⟩
    conv => whnf
    refine ⟨hsp2, ⟨by omega, by omega⟩, ?_⟩
    conv => whnf
    refine ⟨_, hg03.cell hcl2, ?_⟩
    conv => whnf
    refine AppP.ints (hwp.ext (Grows.lay _ _)) (hg3.then_lay _) Elems.lay1 (by simp; omega) ?_
    intro w4 h4 hw4 hg4 _
    conv => whnf
    refine ⟨_, wid (by omega), ?_⟩
    conv => whnf
    refine Rnd.mk (j + 1, h4, w4) ⟨by show j + 1 ≤ _; omega, ?_, hg4⟩ (by show _ - (j + 1) < _ - j; omega) ⟨rfl, rfl, rfl, rfl, rfl, rfl, rfl, rfl, rfl, rfl, trivial⟩ (Hp.Le.refl _) rfl
    show Built h2 h4 3 w4 (((ans cs.length 0 q i).take (j + 1)).map (cost cs))
    rw [List.take_succ_eq_append_getElem hj', List.map_append, hgd]
    show Built h2 h4 3 w4 (_ ++ [cost cs g])
    rw [cost_at hgl rfl]
    exact hw4
  · have : j = (ans cs.length 0 q i).length := by omega
    subst this
    rw [List.take_length] at hwp
    have hrow3 := hg3.at_ _ _ hrow2
    have bd := sum_bd' 1000 (by omega) _ (costs_bd hc (ans cs.length 0 q i))
    have hwi := hwp.ints
    conv => whnf
    refine CallP.mono (sum_spec wp _ h3 hwi (by simp; omega) (fun x hx => by have := costs_bd hc _ x hx; omega)) ?_
    rintro vs h4 ⟨rfl, rfl⟩
    conv => whnf
    refine ⟨rfl, ⟨by omega, by omega⟩, ?_⟩
    conv => whnf
    refine ⟨rfl, _, storeAt_row hrow3 (by rw [rowF_length]; show i + 0 < _; omega) rfl, ?_⟩
    conv => whnf
    refine ⟨_, wid (by omega), ?_⟩
    conv => whnf
    refine Rnd.mk (i + 1, _) ⟨by show i + 1 ≤ _; omega, ?_, ?_⟩ (by show _ - (i + 1) < _ - i; omega) ⟨rfl, rfl, rfl, rfl, rfl, trivial⟩ (Hp.Le.refl _) rfl
    · rw [Hp.at_set_self _ (Hp.lt_of_at hrow3)]
      show some (Obj.row 3 true ((rowF _ _).set (i + 0) (int _))) = _
      rw [rowF_set]
      refine congrArg some (congrArg _ (rowF_congr fun k hk => ?_))
      by_cases hki : k = i
      · subst hki; simp [paid]
      · have : (k < i + 1) = (k < i) := by simp; omega
        simp [hki, this]
    · exact hg03.then_set _ (Nat.le_refl _)
theorem Prices_spec (cs q : List Int) (v w : Value) (h : Hp) (hv : Ints h v cs) (hw : View h w q) (hl : cs.length ≤ 12) (hc : ∀ x ∈ cs, 1 ≤ x ∧ x ≤ 1000) (hp : Pl 0 cs.length q) : CallP E 25 [v, w] h (fun r h' => ∃ x, r = .tuple ⟨[x, int 0]⟩ ∧ Built h h' 3 x (pricesOf cs q) ∧ Grows h h') := by
  refine enter25 (by simp) ?_
  conv => whnf
  refine CallP.mono (checkplan_spec cs q v w h hv hw hl hc hp) ?_
  rintro v1 h1 ⟨rfl, hg1⟩
  conv => whnf
  refine cmpF (by omega) ?_
  conv => whnf
  refine CallP.mono (prices_spec cs q v w h1 (hv.ext hg1) (hw.ext hg1) hl hc hp) ?_
  rintro v2 h2 ⟨hb, hg2⟩
  have hb' := hb
  rcases hb' with ⟨rfl, e⟩ | ⟨r, rfl, _, _⟩
  · simp [pricesOf] at e
  conv => whnf
  exact ⟨_, rfl, hb.back hg1.next, hg1.trans hg2⟩
theorem Answer_spec (cs q : List Int) (v w : Value) (i : Nat) (hi : i ≤ cs.length) (h : Hp) (hv : Ints h v cs) (hw : View h w q) (hl : cs.length ≤ 12) (hc : ∀ x ∈ cs, 1 ≤ x ∧ x ≤ 1000) (hp : Pl 0 cs.length q) : CallP E 26 [v, w, int i] h (fun r h' => ∃ x, r = .tuple ⟨[x, int 0]⟩ ∧ Built h h' 3 x (ans cs.length 0 q i) ∧ Grows h h') := by
  obtain ⟨av, cap, rfl, hcell⟩ := id hv
  refine enter26 (by simp) ?_
  conv => whnf
  refine CallP.mono (checkplan_spec cs q _ w h hv hw hl hc hp) ?_
  rintro v1 h1 ⟨rfl, hg1⟩
  conv => whnf
  refine cmpF (by omega) ?_
  conv => whnf
  refine cmpF (by omega) ?_
  conv => whnf
  refine cmpF (by omega) ?_
  conv => whnf
  refine CallP.mono (answer_spec cs.length hl i hi q w h1 (hw.ext hg1) hp) ?_
  rintro v2 h2 ⟨hb, hg2⟩
  have hb' := hb
  rcases hb' with ⟨rfl, e⟩ | ⟨r, rfl, _, _⟩ <;> ((conv => whnf); exact ⟨_, rfl, hb.back hg1.next, hg1.trans hg2⟩)
end
end Go.Proofs.Yticmdpcahpimhaa
