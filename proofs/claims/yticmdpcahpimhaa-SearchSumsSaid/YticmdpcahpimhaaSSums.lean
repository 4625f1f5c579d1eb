/- Contracts of the functions that Sums comes to. -/
import Derived.Test.YticmdpcahpimhaaSPrices
import Derived.Test.YticmdpcahpimhaaSCosts
import Derived.Test.YticmdpcahpimhaaSAwake
set_option maxRecDepth 100000
set_option maxHeartbeats 1000000
set_option linter.unusedVariables false
set_option linter.unusedSectionVars false
set_option linter.unusedSimpArgs false
namespace Go.Proofs.Yticmdpcahpimhaa
open Go.Rx Go.RowKit
theorem bool_neq (x y : Operand) (a b : Bool) : aBin E .neq 4 x y (.bool a) (.bool b) = some (.bool (a != b)) := by
  cases a <;> cases b <;> kernel_rfl
attribute [local irreducible] E idxN cellAt cellsAt storeAt callable helems hmoved lookIn findKey keyOk hentries Hp.at Hp.set Hp.lay arBits hupdated setAt CallP YieldP BoolOf IsWrap Rnd LoopP AppP CutP Int.tmod Int.tdiv Int.fdiv
section
variable [Unknowns]
theorem paid_at (cs q : List Int) {i : Nat} (hi : i ≤ cs.length) {hk : i < (pricesOf cs q).length} : (pricesOf cs q)[i] = paid cs q i := by simp [pricesOf]
attribute [local irreducible] ResP
theorem sums_spec (v0 : Value) (l : List Int) (hl : l.length ≤ maxLen) (hl' : ∀ n ∈ l, -9223372036854775808 ≤ n ∧ n < 9223372036854775808) (v1 : Value) (p : List Int) (hp : p.length ≤ maxLen) (hp' : ∀ n ∈ p, -9223372036854775808 ≤ n ∧ n < 9223372036854775808) :
    ∀ h vs, AllIs h vs [.s v0 l, .s v1 p] → CallP E 15 vs h (fun r _ => r = .bool true) := by
  have hmax : maxLen < 9223372036854775808 := by decide
  intro h vs hvs
  match vs, hvs with
  | [a0, a1], hvs =>
  obtain ⟨k0, k1, -⟩ := hvs
  refine enter15 (by simp) ?_
  conv => whnf
  refine CallP.mono (costs_spec a0 l h k0.ints (by omega)) ?_
  rintro vc h1 ⟨cs, hbc, hcl, hc, hg1⟩
  have hn : cs.length ≤ 12 := by omega
  have hvc := hbc.ints
  obtain ⟨ac, cc, rfl, hccell⟩ := id hvc
  conv => whnf
  refine CallP.mono (plan_spec a1 p (by omega) cs.length 0 cs.length (by omega) (by omega) hn h1 (k1.ints.ext hg1)) ?_
  rintro vq h2 ⟨q, hbq, hpl, hg2⟩
  conv => whnf
  refine CallP.mono (Prices_spec cs q _ vq h2 (hvc.ext hg2) hbq.view hn hc hpl) ?_
  rintro vx h3 ⟨x, rfl, hbp, hg3⟩
  have hplen : (pricesOf cs q).length = cs.length + 1 := by simp [pricesOf]
  have hvp := hbp.ints
  obtain ⟨ap, cp, rfl, hpcell⟩ := id hvp
  rw [hplen]
  conv => whnf
  refine cmpF (by omega) ?_
  conv => whnf
  refine ⟨((cs.length + 1 : Nat) : Int), wie (by omega) (by omega), ?_⟩
  conv => whnf
  refine cmpF (by omega) ?_
  conv => whnf
  refine loop_inv (α := Nat × Hp) (fun a => [(9, int a.1), (5, .slice ac cs.length cc), (6, vq), (7, .slice ap (cs.length + 1) cp)]) (fun a => a.2) (fun a => a.1 ≤ cs.length + 1 ∧ Grows h3 a.2) (fun a => cs.length + 1 - a.1) (0, h3) ⟨by simp, .refl _⟩ ⟨rfl, rfl, rfl, rfl, trivial⟩ (Hp.Le.refl _) ?_
  rintro ⟨i, h4⟩ φ ⟨hi, hg4⟩
  dsimp only at hi hg4 ⊢
  conv => whnf
  refine cmpB (fun hb => ?_) (fun hb => ?_)
  rotate_left
  · conv => whnf
    exact memo27 rfl
  have hi' : i ≤ cs.length := by omega
  have hg24 := hg3.trans hg4
  have hg14 := hg2.trans hg24
  conv => whnf
  refine CallP.mono (Answer_spec cs q _ vq i hi' h4 (hvc.ext hg14) (hbq.view.ext hg24) hn hc hpl) ?_
  rintro vy h5 ⟨y, rfl, hba, hg5⟩
  have hao := ans_ok cs.length 0 cs.length q i hpl (by omega) (by omega) hi'
  have halen := hao.len
  generalize had : ans cs.length 0 q i = an at *
  have hva := hba.ints
  obtain ⟨aa, ca, rfl, hacell⟩ := id hva
  conv => whnf
  refine cmpF (by omega) ?_
  conv => whnf
  refine (show ∀ b, BoolOf b ((an.length : Int) = 0) → _ from fun b hbo => ?_)
  conv => whnf
  refine (show ∀ b, BoolOf b ((cs.length : Int) = 0) → _ from fun b2 hbo2 => ?_)
  conv => whnf
  have hbb : (b != b2) = false := by
    by_cases h0 : cs.length = 0
    · rw [hbo.of_t (by omega), hbo2.of_t (by omega)]; rfl
    · have : an ≠ [] := hao.full (by omega)
      have : an.length ≠ 0 := fun e => this (List.eq_nil_of_length_eq_zero e)
      rw [hbo.of_f (by omega), hbo2.of_f (by omega)]; rfl
  refine resP_val (v := .bool false) (h := h5) ?_ ?_
  · show hval _ (aBin E .neq 4 _ _ (.bool b) (.bool b2)) = _
    rw [bool_neq, hbb]
    rfl
  conv => whnf
  refine ⟨⟨by omega, by omega, by omega, by omega⟩, ?_⟩
  conv => whnf
  have e0 : times [.bool false] ((cs.length : Nat) : Int).toNat = rowV cs.length (fun j => .bool (decide ((j : Int) ∈ an.take 0))) := by
    rw [times_one, Int.toNat_natCast]; exact rowV_congr (fun k _ => by simp)
  rw [e0]
  refine loop_inv (α := Nat × Hp) (fun a => [(14, int a.1), (12, int ((an.take a.1).map (cost cs)).sum), (13, slc h5.next 0 cs.length cs.length), (10, .slice aa an.length ca), (9, int i), (5, .slice ac cs.length cc), (6, vq), (7, .slice ap (cs.length + 1) cp)]) (fun a => a.2) (fun a => a.1 ≤ an.length ∧ a.2.at h5.next = some (.row 4 true (rowV cs.length (fun j => .bool (decide ((j : Int) ∈ an.take a.1))))) ∧ Grows h5 a.2) (fun a => an.length - a.1) (0, _) ⟨by simp, Hp.at_lay_self _ _, Grows.lay _ _⟩ ⟨rfl, by simp; rfl, rfl, rfl, rfl, rfl, rfl, rfl, trivial⟩ (Hp.Le.refl _) ?_
  rintro ⟨k, h6⟩ φ2 ⟨hk, hrow, hg6⟩
  dsimp only at hk hrow hg6 ⊢
  have hg46 := hg5.trans hg6
  have hg36 := hg4.trans hg46
  have hg16 := hg2.trans (hg3.trans hg36)
  have bd := sum_bd' 1000 (by omega) _ (costs_bd hc (an.take k))
  conv => whnf
  refine cmpB (fun hb2 => ?_) (fun hb2 => ?_)
  · have hk' : k < an.length := by omega
    obtain ⟨r, o, sp, e, hsp, hcl⟩ := hacell k hk'
    subst e
    have hgb := hao.bd _ (List.getElem_mem hk')
    have hnd : an[k] ∉ an.take k := by
      have h1 := hao.nodup
      rw [← List.take_append_drop k an, List.nodup_append] at h1
      intro hmem
      have h2 : an[k] ∈ an.drop k := by rw [List.drop_eq_getElem_cons hk']; exact List.mem_cons_self
      exact h1.2.2 _ hmem _ h2 rfl
    have htk : an.take (k + 1) = an.take k ++ [an[k]] := List.take_succ_eq_append_getElem hk'
    have hcl6 := hg6.cell hcl
    generalize hgd : an[k] = g at *
    obtain ⟨gn, rfl⟩ : ∃ gn : Nat, g = gn := ⟨g.toNat, by omega⟩
    have hgl : gn < cs.length := by omega
    obtain ⟨r2, o2, sp2, e2, hsp2, hcl2⟩ := hccell gn hgl
    subst e2
    conv => whnf
    refine ⟨hsp, ⟨by omega, by omega⟩, ?_⟩
    conv => whnf
    refine ⟨_, hcl6, ?_⟩
    conv => whnf
    refine cmpF (by omega) ?_
    conv => whnf
    refine ⟨hsp, ⟨by omega, by omega⟩, ?_⟩
    conv => whnf
    refine ⟨_, hcl6, ?_⟩
    conv => whnf
    refine cmpF (by omega) ?_
    conv => whnf
    refine ⟨hsp, ⟨by omega, by omega⟩, ?_⟩
    conv => whnf
    refine ⟨_, hcl6, ?_⟩
    conv => whnf
    refine ⟨rfl, ⟨by omega, by omega⟩, ?_⟩
    conv => whnf
    refine ⟨.bool false, ?_, ?_⟩
    · have := cellAt_row hrow (rowV_get (f := fun j => .bool (decide ((j : Int) ∈ an.take k))) hgl)
      rw [decide_eq_false hnd] at this
      exact this
    conv => whnf
    refine ⟨hsp, ⟨by omega, by omega⟩, ?_⟩
    conv => whnf
    refine ⟨_, hcl6, ?_⟩
    conv => whnf
    refine ⟨rfl, ⟨by omega, by omega⟩, ?_⟩
    conv => whnf
    refine ⟨rfl, _, storeAt_row hrow (by rw [rowV_length]; show gn + 0 < _; omega) rfl, ?_⟩
    have hg56 : Grows h5 (h6.set h5.next (.row 4 true ((rowV cs.length (fun j => .bool (decide ((j : Int) ∈ an.take k)))).set (gn + 0) (.bool true)))) := hg6.then_set _ (Nat.le_refl _)
    have hcl7 := hg56.cell hcl
    have hcl27 := (hg14.trans (hg5.trans hg56)).cell hcl2
    conv => whnf
    refine ⟨hsp, ⟨by omega, by omega⟩, ?_⟩
    conv => whnf
    refine ⟨_, hcl7, ?_⟩
    conv => whnf
    refine ⟨hsp2, ⟨by omega, by omega⟩, ?_⟩
    conv => whnf
    refine ⟨_, hcl27, ?_⟩
    conv => whnf
    have e1 : ((an.take (k + 1)).map (cost cs)).sum = ((an.take k).map (cost cs)).sum + cs[gn] := by
      rw [htk, List.map_append, List.sum_append]
      rw [← cost_at (g := (gn : Int)) hgl (Int.toNat_natCast gn)]
      simp
    have b1 := hc _ (List.getElem_mem hgl)
    have b2 : (((an.take k).map (cost cs)).length : Int) ≤ 12 := by simp; omega
    refine ⟨((an.take (k + 1)).map (cost cs)).sum, wie e1.symm (by rw [e1]; omega), ?_⟩
    conv => whnf
    refine ⟨_, wid (by omega), ?_⟩
    conv => whnf
    refine Rnd.mk (k + 1, _) ⟨by show k + 1 ≤ _; omega, ?_, hg56⟩ (by show _ - (k + 1) < _ - k; omega) ⟨rfl, rfl, rfl, rfl, rfl, rfl, rfl, rfl, trivial⟩ (Hp.Le.refl _) rfl
    rw [Hp.at_set_self _ (Hp.lt_of_at hrow), rowV_set]
    refine congrArg some (congrArg _ (rowV_congr fun j hj => ?_))
    by_cases e : j = gn + 0
    · rw [if_pos e]
      show Value.bool true = Value.bool (decide ((j : Int) ∈ an.take (k + 1)))
      have : (j : Int) = gn := by omega
      rw [htk, this]
      simp
    · rw [if_neg e]
      show Value.bool (decide ((j : Int) ∈ an.take k)) = Value.bool (decide ((j : Int) ∈ an.take (k + 1)))
      have : ¬ (j : Int) = (gn : Int) := by omega
      rw [htk]
      simp [this]
  · have : k = an.length := by omega
    subst this
    rw [List.take_length] at hrow bd ⊢
    obtain ⟨r3, o3, sp3, e3, hsp3, hcl3⟩ := hpcell i (by omega)
    subst e3
    rw [paid_at cs q hi'] at hcl3
    have hpa : paid cs q i = (an.map (cost cs)).sum := by rw [← had]; rfl
    rw [hpa] at hcl3
    have useat : ∀ j : Nat, j < cs.length → (j : Int) ∈ an → cellAt h6 h5.next (j + 0) = some (.bool true) := by
      intro j hj hm
      have := cellAt_row hrow (rowV_get (f := fun j => .bool (decide ((j : Int) ∈ an))) hj)
      rw [decide_eq_true hm] at this
      exact this
    conv => whnf
    refine ⟨hsp3, ⟨by omega, by omega⟩, ?_⟩
    conv => whnf
    refine ⟨_, hg36.cell hcl3, ?_⟩
    conv => whnf
    refine cmpF (by omega) ?_
    conv => whnf
    by_cases hin : i < cs.length
    · refine cmpT (by omega) ?_
      conv => whnf
      refine ⟨rfl, ⟨by omega, by omega⟩, ?_⟩
      conv => whnf
      refine ⟨.bool true, useat i hin (hao.here hin), ?_⟩
      conv => whnf
      by_cases hi0 : 0 < i
      · refine cmpT (by omega) ?_
        conv => whnf
        refine ⟨((i - 1 : Nat) : Int), wie (by omega) (by omega), ?_⟩
        conv => whnf
        refine ⟨rfl, ⟨by omega, by omega⟩, ?_⟩
        conv => whnf
        refine ⟨.bool true, useat (i - 1) (by omega) (hao.prev hi0), ?_⟩
        conv => whnf
        refine ⟨_, wid (by omega), ?_⟩
        conv => whnf
        exact Rnd.mk (i + 1, h6) ⟨by show i + 1 ≤ _; omega, hg36⟩ (by show _ - (i + 1) < _ - i; omega) ⟨rfl, rfl, rfl, rfl, trivial⟩ (Hp.Le.refl _) rfl
      · refine cmpF (by omega) ?_
        conv => whnf
        refine ⟨_, wid (by omega), ?_⟩
        conv => whnf
        exact Rnd.mk (i + 1, h6) ⟨by show i + 1 ≤ _; omega, hg36⟩ (by show _ - (i + 1) < _ - i; omega) ⟨rfl, rfl, rfl, rfl, trivial⟩ (Hp.Le.refl _) rfl
    · refine cmpF (by omega) ?_
      conv => whnf
      by_cases hi0 : 0 < i
      · refine cmpT (by omega) ?_
        conv => whnf
        refine ⟨((i - 1 : Nat) : Int), wie (by omega) (by omega), ?_⟩
        conv => whnf
        refine ⟨rfl, ⟨by omega, by omega⟩, ?_⟩
        conv => whnf
        refine ⟨.bool true, useat (i - 1) (by omega) (hao.prev hi0), ?_⟩
        conv => whnf
        refine ⟨_, wid (by omega), ?_⟩
        conv => whnf
        exact Rnd.mk (i + 1, h6) ⟨by show i + 1 ≤ _; omega, hg36⟩ (by show _ - (i + 1) < _ - i; omega) ⟨rfl, rfl, rfl, rfl, trivial⟩ (Hp.Le.refl _) rfl
      · refine cmpF (by omega) ?_
        conv => whnf
        refine ⟨_, wid (by omega), ?_⟩
        conv => whnf
        exact Rnd.mk (i + 1, h6) ⟨by show i + 1 ≤ _; omega, hg36⟩ (by show _ - (i + 1) < _ - i; omega) ⟨rfl, rfl, rfl, rfl, trivial⟩ (Hp.Le.refl _) rfl
end
end Go.Proofs.Yticmdpcahpimhaa
