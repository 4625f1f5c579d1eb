/- Contracts of the functions that SKnuthM comes to. -/
import Derived.Test.YticmdpcahpimhaaSOpen
import Derived.Test.YticmdpcahpimhaaSFew
import Derived.Test.YticmdpcahpimhaaSAwake
set_option maxRecDepth 100000
set_option maxHeartbeats 1000000
set_option linter.unusedVariables false
set_option linter.unusedSectionVars false
set_option linter.unusedSimpArgs false
namespace Go.Proofs.Yticmdpcahpimhaa
open Go.Rx Go.RowKit
attribute [local irreducible] E idxN cellAt cellsAt storeAt callable helems hmoved lookIn findKey keyOk hentries Hp.at Hp.set Hp.lay arBits hupdated setAt CallP YieldP BoolOf IsWrap Rnd LoopP AppP CutP Int.tmod Int.tdiv Int.fdiv
theorem mul_bd {p u a b : Int} (h1 : 0 ≤ p ∧ p ≤ a) (h2 : 0 ≤ u ∧ u ≤ b) : 0 ≤ p * u ∧ p * u ≤ a * b :=
  ⟨Int.mul_nonneg h1.1 h2.1, Int.mul_le_mul h1.2 h2.2 h2.1 (by omega)⟩
/-- The products of two lists. -/
def dots (p u : List Int) : List Int := (List.range p.length).map fun i => p.getD i 0 * u.getD i 0
theorem getD_at {l : List Int} {k : Nat} (h : k < l.length) : l.getD k 0 = l[k] := by
  rw [List.getD_eq_getElem?_getD, List.getElem?_eq_getElem h]; rfl
theorem paid_bd {cs q : List Int} (hl : cs.length ≤ 12) (hc : ∀ x ∈ cs, 1 ≤ x ∧ x ≤ 1000) (hp : Pl 0 cs.length q) {i : Nat} (hi : i ≤ cs.length) : 0 ≤ paid cs q i ∧ paid cs q i ≤ 12000 := by
  have hao := ans_ok cs.length 0 cs.length q i hp (by omega) (by omega) hi
  have bd := sum_bd' 1000 (by omega) _ (costs_bd hc (ans cs.length 0 q i))
  have := hao.len
  unfold paid
  rw [List.length_map] at bd
  omega
theorem prices_bd {cs q : List Int} (hl : cs.length ≤ 12) (hc : ∀ x ∈ cs, 1 ≤ x ∧ x ≤ 1000) (hp : Pl 0 cs.length q) : ∀ x ∈ pricesOf cs q, 0 ≤ x ∧ x ≤ 12000 := by
  intro x hx
  obtain ⟨i, hi, rfl⟩ := List.mem_map.1 hx
  rw [List.mem_range] at hi
  exact paid_bd hl hc hp (by omega)
theorem getD_bd {l : List Int} {a : Int} (ha : 0 ≤ a) (h : ∀ x ∈ l, 0 ≤ x ∧ x ≤ a) (k : Nat) : 0 ≤ l.getD k 0 ∧ l.getD k 0 ≤ a := by
  by_cases hk : k < l.length
  · rw [getD_at hk]; exact h _ (List.getElem_mem hk)
  · rw [List.getD_eq_getElem?_getD, List.getElem?_eq_none (by omega)]; simp; exact ha
theorem dots_bd {p u : List Int} (hp : ∀ x ∈ p, 0 ≤ x ∧ x ≤ 12000) (hu : ∀ x ∈ u, 0 ≤ x ∧ x ≤ 1000) : ∀ x ∈ dots p u, 0 ≤ x ∧ x ≤ 12000000 := by
  intro x hx
  obtain ⟨i, _, rfl⟩ := List.mem_map.1 hx
  have := mul_bd (getD_bd (by omega) hp i) (getD_bd (by omega) hu i)
  omega
section
variable [Unknowns]
theorem sum_big (v : Value) (l : List Int) (h : Hp) (hv : Ints h v l) (hl : l.length ≤ 1000) (hin : ∀ x ∈ l, 0 ≤ x ∧ x ≤ 1000000000) : CallP E 64 [v] h (fun r h' => r = int l.sum ∧ h' = h) := by
  obtain ⟨a, cap, rfl, hc⟩ := id hv
  refine enter64 (by simp) ?_
  conv => whnf
  refine loop_inv (α := Nat) (fun k => [(8, int k), (7, int l.length), (6, .slice a l.length cap), (3, int (l.take k).sum)]) (fun _ => h) (fun k => k ≤ l.length) (fun k => l.length - k) 0 (by omega) ⟨rfl, rfl, rfl, rfl, trivial⟩ (Hp.Le.refl _) ?_
  intro k φ hk
  conv => whnf
  refine cmpB (fun hb => ?_) (fun hb => ?_)
  · have hk' : k < l.length := by omega
    obtain ⟨r, o, sp, rfl, hsp, hcell⟩ := hc k hk'
    have b1 := sum_bd' 1000000000 (by omega) (l.take k) (fun x hx => hin x (List.mem_of_mem_take hx))
    have b2 := hin l[k] (List.getElem_mem hk')
    have e1 := sum_take_succ hk'
    have e2 : (l.take k).length = k := by rw [List.length_take]; omega
    conv => whnf
    refine ⟨hsp, ⟨by omega, by omega⟩, ?_⟩
    conv => whnf
    refine ⟨_, hcell, ?_⟩
    conv => whnf
    refine ⟨(l.take (k + 1)).sum, wie e1.symm (by rw [e1]; rw [e2] at b1; omega), ?_⟩
    conv => whnf
    refine ⟨_, wid (by omega), ?_⟩
    conv => whnf
    exact Rnd.mk (k + 1) (by omega) (by omega) ⟨rfl, rfl, rfl, rfl, trivial⟩ (Hp.Le.refl _) rfl
  · have : k = l.length := by omega
    subst this
    conv => whnf
    refine ⟨?_, rfl⟩
    show int (l.take l.length).sum = _
    rw [List.take_length]
theorem ints_same (v w : Value) (l : List Int) (h : Hp) (hv : Ints h v l) (hw : Ints h w l) (hl : l.length ≤ 1000000) : CallP E 31 [v, w] h (fun r h' => r = .bool true ∧ h' = h) := by
  obtain ⟨a, cap, rfl, hc⟩ := id hv
  obtain ⟨b, cap', rfl, hd⟩ := id hw
  refine enter31 (by simp) ?_
  conv => whnf
  refine cmpF (by omega) ?_
  conv => whnf
  refine loop_inv (α := Nat) (fun k => [(5, int k), (0, .slice a l.length cap), (1, .slice b l.length cap')]) (fun _ => h) (fun k => k ≤ l.length) (fun k => l.length - k) 0 (by omega) ⟨rfl, rfl, rfl, trivial⟩ (Hp.Le.refl _) ?_
  intro k φ hk
  conv => whnf
  refine cmpB (fun hb => ?_) (fun hb => ?_)
  · have hk' : k < l.length := by omega
    obtain ⟨r, o, sp, rfl, hsp, hcell⟩ := hc k hk'
    obtain ⟨r', o', sp', rfl, hsp', hcell'⟩ := hd k hk'
    conv => whnf
    refine ⟨hsp, ⟨by omega, by omega⟩, ?_⟩
    conv => whnf
    refine ⟨_, hcell, ?_⟩
    conv => whnf
    refine ⟨hsp', ⟨by omega, by omega⟩, ?_⟩
    conv => whnf
    refine ⟨_, hcell', ?_⟩
    conv => whnf
    refine cmpF (by omega) ?_
    conv => whnf
    refine ⟨_, wid (by omega), ?_⟩
    conv => whnf
    exact Rnd.mk (k + 1) (by omega) (by omega) ⟨rfl, rfl, rfl, trivial⟩ (Hp.Le.refl _) rfl
  · conv => whnf
    exact ⟨rfl, rfl⟩
theorem refweighed_spec (v w : Value) (u p : List Int) (h : Hp) (hv : Ints h v u) (hw : Ints h w p) (hl : p.length ≤ u.length) (hl2 : u.length ≤ 1000) (hp : ∀ x ∈ p, 0 ≤ x ∧ x ≤ 12000) (hu : ∀ x ∈ u, 0 ≤ x ∧ x ≤ 1000) : CallP E 32 [v, w] h (fun r h' => r = int (dots p u).sum ∧ h' = h) := by
  obtain ⟨a, cap, rfl, hc⟩ := id hv
  obtain ⟨b, cap', rfl, hd⟩ := id hw
  have hdl : (dots p u).length = p.length := by simp [dots]
  refine enter32 (by simp) ?_
  conv => whnf
  refine loop_inv (α := Nat) (fun k => [(6, int k), (5, int ((dots p u).take k).sum), (0, .slice a u.length cap), (1, .slice b p.length cap')]) (fun _ => h) (fun k => k ≤ p.length) (fun k => p.length - k) 0 (by omega) ⟨rfl, rfl, rfl, rfl, trivial⟩ (Hp.Le.refl _) ?_
  intro k φ hk
  conv => whnf
  refine cmpB (fun hb => ?_) (fun hb => ?_)
  · have hk' : k < p.length := by omega
    have hk2 : k < u.length := by omega
    obtain ⟨r, o, sp, rfl, hsp, hcell⟩ := hc k hk2
    obtain ⟨r', o', sp', rfl, hsp', hcell'⟩ := hd k hk'
    have hk3 : k < (dots p u).length := by omega
    have b1 := sum_bd' 12000000 (by omega) ((dots p u).take k) (fun x hx => dots_bd hp hu x (List.mem_of_mem_take hx))
    have b2 := dots_bd hp hu _ (List.getElem_mem hk3)
    have e1 := sum_take_succ hk3
    have e2 : ((dots p u).take k).length = k := by rw [List.length_take]; omega
    have e3 : (dots p u)[k] = u[k] * p[k] := by
      simp only [dots, List.getElem_map, List.getElem_range, getD_at hk', getD_at hk2]
      exact Int.mul_comm _ _
    conv => whnf
    refine ⟨hsp, ⟨by omega, by omega⟩, ?_⟩
    conv => whnf
    refine ⟨_, hcell, ?_⟩
    conv => whnf
    refine ⟨hsp', ⟨by omega, by omega⟩, ?_⟩
    conv => whnf
    refine ⟨_, hcell', ?_⟩
    conv => whnf
    refine ⟨(dots p u)[k], wie e3.symm (by omega), ?_⟩
    conv => whnf
    refine ⟨((dots p u).take (k + 1)).sum, wie e1.symm (by rw [e1]; rw [e2] at b1; omega), ?_⟩
    conv => whnf
    refine ⟨_, wid (by omega), ?_⟩
    conv => whnf
    exact Rnd.mk (k + 1) (by omega) (by omega) ⟨rfl, rfl, rfl, rfl, trivial⟩ (Hp.Le.refl _) rfl
  · have : k = p.length := by omega
    subst this
    conv => whnf
    refine ⟨?_, rfl⟩
    show int ((dots p u).take p.length).sum = _
    rw [List.take_of_length_le (by omega)]
theorem refprices_spec (cs q : List Int) (v x : Value) (vs : List Value) (h0 h : Hp) (hv : Ints h v cs) (hb : BuiltC h0 h 22 1 x (cs.length + 1) vs) (hr : RowsB h0 h vs (ansAll 0 cs.length q)) (hl : cs.length ≤ 12) (hc : ∀ x ∈ cs, 1 ≤ x ∧ x ≤ 1000) (hp : Pl 0 cs.length q) : CallP E 30 [v, x] h (fun r h' => Built h h' 3 r (pricesOf cs q) ∧ Grows h h') := by
  obtain ⟨a, cap, rfl, hcc⟩ := id hv
  have hbk := hb.known
  obtain ⟨ax, rfl, hax⟩ := hbk
  have hpl : (pricesOf cs q).length = cs.length + 1 := by simp [pricesOf]
  refine enter30 (by simp) ?_
  conv => whnf
  refine loop_inv (α := Nat × Hp × Value) (fun s => [(6, int s.1), (5, s.2.2), (0, .slice a cs.length cap), (1, .slice ax (cs.length + 1) (cs.length + 1))]) (fun s => s.2.1) (fun s => s.1 ≤ cs.length + 1 ∧ Grows h s.2.1 ∧ Built h s.2.1 3 s.2.2 ((pricesOf cs q).take s.1)) (fun s => cs.length + 1 - s.1) (0, h, .slice none 0 0) ⟨by simp, .refl _, .inl ⟨rfl, by simp⟩⟩ ⟨rfl, rfl, rfl, rfl, trivial⟩ (Hp.Le.refl _) ?_
  rintro ⟨i, h1, vo⟩ φ ⟨hi, hg, hbo⟩
  dsimp only at hi hg hbo ⊢
  conv => whnf
  refine cmpB (fun hb1 => ?_) (fun hb1 => ?_)
  rotate_left
  · have : i = cs.length + 1 := by omega
    subst this
    rw [List.take_of_length_le (by omega)] at hbo
    have hbo' := hbo
    rcases hbo' with ⟨rfl, e⟩ | ⟨r, rfl, _, _⟩
    · rw [e] at hpl; simp at hpl
    conv => whnf
    exact ⟨hbo, hg⟩
  have hi' : i ≤ cs.length := by omega
  have hx := hax i (by omega)
  obtain ⟨r1, e1, x1, hr1⟩ := hx
  subst e1
  have hx := hr.2 i (by rw [ansAll_length]; omega)
  obtain ⟨w, ew, bw⟩ := hx
  have hw1 : (ansAll 0 cs.length q)[i]'(by rw [ansAll_length]; omega) = ans cs.length 0 q i := by
    simp only [ansAll, List.getElem_map, List.getElem_range, Nat.zero_add]
    exact ans_fuel _ _ 0 cs.length q i hp (by omega) (by omega)
  rw [hw1] at bw
  have hao := ans_ok cs.length 0 cs.length q i hp (by omega) (by omega) hi'
  have hpd : (pricesOf cs q)[i]'(by omega) = paid cs q i := by simp [pricesOf]
  have hpaid : paid cs q i = ((ans cs.length 0 q i).map (cost cs)).sum := rfl
  have hpb := paid_bd hl hc hp hi'
  have hex : ∃ an, ans cs.length 0 q i = an := ⟨_, rfl⟩
  obtain ⟨an, han⟩ := hex
  rw [han] at bw hao hpaid
  have halen := hao.len
  have hcl1 := hg.cell (cellAt_row hr1 ew)
  have hwi := (bw.ext hg).ints
  obtain ⟨aw, cw, rfl, hwc⟩ := hwi
  conv => whnf
  refine loop_inv (α := Nat) (fun k => [(8, int k), (7, int ((an.take k).map (cost cs)).sum), (6, int i), (5, vo), (0, .slice a cs.length cap), (1, .slice (some ⟨r1, 0, none⟩) (cs.length + 1) (cs.length + 1))]) (fun _ => h1) (fun k => k ≤ an.length) (fun k => an.length - k) 0 (by simp) ⟨rfl, rfl, rfl, rfl, rfl, rfl, trivial⟩ (Hp.Le.refl _) ?_
  intro k φ2 hk
  conv => whnf
  refine ⟨rfl, ⟨by omega, by omega⟩, ?_⟩
  conv => whnf
  refine ⟨_, hcl1, ?_⟩
  conv => whnf
  refine cmpB (fun hb2 => ?_) (fun hb2 => ?_)
  · have hk' : k < an.length := by omega
    obtain ⟨r2, o2, sp2, e2, hsp2, hcl2⟩ := hwc k hk'
    subst e2
    have hgb := hao.bd _ (List.getElem_mem hk')
    have hgl : an[k].toNat < cs.length := by omega
    obtain ⟨r3, o3, sp3, e3, hsp3, hcl3⟩ := hcc an[k].toNat hgl
    subst e3
    have bd := sum_bd' 1000 (by omega) _ (costs_bd hc (an.take k))
    have b1 := hc _ (List.getElem_mem hgl)
    have b2 : (((an.take k).map (cost cs)).length : Int) ≤ 12 := by simp; omega
    have e1 : ((an.take (k + 1)).map (cost cs)).sum = ((an.take k).map (cost cs)).sum + cs[an[k].toNat] := by
      rw [List.take_succ_eq_append_getElem hk', List.map_append, List.sum_append, ← cost_at hgl rfl]
      simp
    conv => whnf
    refine ⟨rfl, ⟨by omega, by omega⟩, ?_⟩
    conv => whnf
    refine ⟨_, hcl1, ?_⟩
    conv => whnf
    refine ⟨hsp2, ⟨by omega, by omega⟩, ?_⟩
    conv => whnf
    refine ⟨_, hcl2, ?_⟩
    conv => whnf
    refine ⟨hsp3, ⟨by omega, by omega⟩, ?_⟩
    conv => whnf
    refine ⟨_, hg.cell hcl3, ?_⟩
    conv => whnf
    refine ⟨((an.take (k + 1)).map (cost cs)).sum, wie e1.symm (by rw [e1]; omega), ?_⟩
    conv => whnf
    refine ⟨_, wid (by omega), ?_⟩
    conv => whnf
    exact Rnd.mk (k + 1) (by omega) (by omega) ⟨rfl, rfl, rfl, rfl, rfl, rfl, trivial⟩ (Hp.Le.refl _) rfl
  · have : k = an.length := by omega
    subst this
    rw [List.take_length, ← hpaid]
    conv => whnf
    refine AppP.ints (hbo.ext (Grows.lay _ _)) (hg.then_lay _) Elems.lay1 (by simp; omega) ?_
    intro v4 h4 hb4 hg4 _
    conv => whnf
    refine ⟨_, wid (by omega), ?_⟩
    conv => whnf
    refine Rnd.mk (i + 1, h4, v4) ⟨by show i + 1 ≤ _; omega, hg4, ?_⟩ (by show _ - (i + 1) < _ - i; omega) ⟨rfl, rfl, rfl, rfl, trivial⟩ (Hp.Le.refl _) rfl
    show Built h h4 3 v4 ((pricesOf cs q).take (i + 1))
    rw [List.take_succ_eq_append_getElem (by omega), hpd]
    exact hb4
end
end Go.Proofs.Yticmdpcahpimhaa
