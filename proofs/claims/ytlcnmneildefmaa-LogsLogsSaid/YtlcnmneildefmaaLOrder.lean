/- Contracts of the functions that LLogs comes to. -/
import Derived.Test.YtlcnmneildefmaaLDiv
import Derived.Test.YtlcnmneildefmaaLOrd
set_option maxRecDepth 100000
set_option maxHeartbeats 1000000
set_option linter.unusedVariables false
set_option linter.unusedSectionVars false
set_option linter.unusedSimpArgs false
namespace Go.Proofs.Ytlcnmneildefmaa
open Go.Rx Go.RowKit
theorem pr_of_mk {q : Nat} (hq : Go.Num.IsPr q) : ∀ {l : List (Nat × Nat)}, (∀ x ∈ l, Go.Num.IsPr x.1) → q ∣ Go.Num.mk l → ∃ x ∈ l, x.1 = q
  | [], _, hd => by
    have := Nat.le_of_dvd (by omega) (show q ∣ 1 from hd)
    have := hq.1
    omega
  | (p, e) :: l, hl, hd => by
    by_cases h : p = q
    · exact ⟨(p, e), by simp, h⟩
    · have hc : Nat.Coprime q (p ^ e) := by
        refine Nat.Coprime.pow_right e ?_
        rcases hq.2 _ (Nat.gcd_dvd_left q p) with e1 | e1
        · exact e1
        · rcases (hl (p, e) (by simp)).2 _ (Nat.gcd_dvd_right q p) with e2 | e2
          · exact e2
          · exact absurd (e2.symm.trans e1) h
      obtain ⟨x, hx, hxe⟩ := pr_of_mk hq (fun x hx => hl x (by simp [hx])) (Nat.Coprime.dvd_of_dvd_mul_left hc hd)
      exact ⟨x, by simp [hx], hxe⟩
/-- What is known of an exponent whose primes have all been tried. -/
theorem tried_least {n a o : Nat} (hn : 1 ≤ n) (ho : 1 ≤ o) (hd : o ∣ Un n) (h1 : a ^ o % n = 1 % n) (ht : ∀ x ∈ FL (Un n), x.1 ∣ o → a ^ (o / x.1) % n ≠ 1 % n) : ∀ j, 0 < j → j < o → a ^ j % n ≠ 1 % n := by
  refine Go.Num.order_of_primes ho h1 fun q hq hqo => ?_
  have hu := Un_bd hn
  have hmk := FL_mk hu.1
  obtain ⟨x, hx, rfl⟩ := pr_of_mk hq (l := FL (Un n)) (fun x hx => isPr_of (FL_ok hu.1 x hx).1) (by rw [hmk]; exact Nat.dvd_trans hqo hd)
  exact ht x hx hqo
attribute [local irreducible] E idxN cellAt cellsAt storeAt callable helems hmoved lookIn findKey keyOk hentries Hp.at Hp.set Hp.lay arBits hupdated setAt CallP YieldP BoolOf IsWrap Rnd LoopP AppP CutP Int.tmod Int.tdiv Int.fdiv
/-- Memory while an order is sought: c1 the exponent, c2 the power, c3 the base, c5 the closure, c6 the range's mark. -/
structure OF (h hh : Hp) (n a c1 c3 : Nat) (o : Nat) : Prop where
  h1 : hh.at c1 = some (.row 3 true [int o])
  h2 : hh.at (c1 + 1) = some (.row 43 true [.func (.func 67) ⟨[.agg ⟨[int n, int a]⟩]⟩ ⟨[]⟩])
  h3 : hh.at c3 = some (.row 65 true [int n, int a])
  h5 : hh.at (c1 + 2) = some (.row 77 true [.func (.func 80) ⟨[]⟩ ⟨[ptr c1 0, ptr (c1 + 1) 0, ptr c3 0]⟩])
  hd : hh.at (c1 + 4) = some .noDefers
  hg : Grows h hh
theorem OF.ext {h hh h2 : Hp} {n a c1 c3 o : Nat} (k : OF h hh n a c1 c3 o) (g : Grows hh h2) : OF h h2 n a c1 c3 o := ⟨g.at_ _ _ k.h1, g.at_ _ _ k.h2, g.at_ _ _ k.h3, g.at_ _ _ k.h5, g.at_ _ _ k.hd, k.hg.trans g⟩
theorem OF.keep {h hh h2 : Hp} {n a c1 c3 o l : Nat} (k : OF h hh n a c1 c3 o) (g : Keeps l hh h2) (h3 : c3 < c1) (h0 : h.next ≤ c3) (hl : c1 + 5 ≤ l) : OF h h2 n a c1 c3 o :=
  ⟨g.at_ _ _ (by omega) k.h1, g.at_ _ _ (by omega) k.h2, g.at_ _ _ (by omega) k.h3, g.at_ _ _ (by omega) k.h5, g.at_ _ _ (by omega) k.hd, g.grows k.hg (by omega)⟩
section
variable [Unknowns]
attribute [local irreducible] rangeQ finP bodyQ endQ
theorem order_spec (n a : Nat) (hn : 1 ≤ n ∧ n ≤ 1000000) (ha : a < 9223372036854775808) (hc : Nat.gcd a n = 1) (h : Hp) : CallP E 65 [.agg ⟨[int n, int a]⟩] h (fun r h' => (∃ o : Nat, r = int o ∧ 1 ≤ o ∧ o ≤ n ∧ a ^ o % n = 1 % n ∧ ∀ j, 0 < j → j < o → a ^ j % n ≠ 1 % n) ∧ Grows h h') := by
  have hu := Un_bd hn.1
  have hp : (h.lay (.row 65 true [int n, int a])).at h.next = some (.row 65 true [int n, int a]) := Hp.at_lay_self _ _
  refine enter65 (by simp) ?_
  conv => whnf
  refine ⟨int n, cellAt_row hp rfl, ?_⟩
  conv => whnf
  refine CallP.mono (units_spec n hn _) ?_
  rintro r h1 ⟨rfl, hg1⟩
  have hp1 := hg1.at_ _ _ hp
  conv => whnf
  refine ⟨rfl, _, storeAt_lay (by simp) rfl, ?_⟩
  conv => whnf
  refine ⟨[int n, int a], cellsAt_row (Hp.at_lay_old _ hp1) (by simp), ?_⟩
  conv => whnf
  refine ⟨rfl, _, storeAt_lay (by simp) rfl, ?_⟩
  conv => whnf
  refine ⟨rfl, _, storeAt_lay (by simp) rfl, ?_⟩
  conv => whnf
  refine ⟨int (Un n), cellAt_row (Hp.at_lay_old _ (Hp.at_lay_old _ (Hp.at_lay_self _ _))) rfl, ?_⟩
  conv => whnf
  refine CallP.mono (factors_spec (Un n) _) ?_
  rintro r h' ⟨rfl, rfl⟩
  conv => whnf
  refine range_go ((FL (Un n)).map fv) (fun k hh => ∃ o : Nat, 1 ≤ o ∧ o ∣ Un n ∧ a ^ o % n = 1 % n ∧ (∀ x ∈ (FL (Un n)).take k, x.1 ∣ o → a ^ (o / x.1) % n ≠ 1 % n) ∧ OF h hh n a h1.next h.next o) (fun _ => False) can79 ?_ rfl ?_ ?_ ?_ ?_ ?_
  · intro k hk
    rw [List.getElem_map]; rfl
  · intro I S h0 hit
    refine facs_iter (Un n) (by omega) _ _ I S _ ?_ h0 hit
    exact cellAt_row (Hp.at_lay_old _ (Hp.at_lay_old _ (Hp.at_lay_self _ _))) rfl
  · refine ⟨Un n, hu.1, Nat.dvd_refl _, un_one hn.1 hc, fun x hx => by simp at hx, ?_, ?_, ?_, ?_, ?_, ?_⟩
    · exact Hp.at_lay_old _ (Hp.at_lay_old _ (Hp.at_lay_old _ (Hp.at_lay_old _ (Hp.at_lay_old _ (Hp.at_lay_self _ _)))))
    · exact at_next (by simp only [Hp.next_lay]) (Hp.at_lay_old _ (Hp.at_lay_old _ (Hp.at_lay_old _ (Hp.at_lay_old _ (Hp.at_lay_self _ _)))))
    · exact Hp.at_lay_old _ (Hp.at_lay_old _ (Hp.at_lay_old _ (Hp.at_lay_old _ (Hp.at_lay_old _ (Hp.at_lay_old _ hp1)))))
    · refine Eq.trans (?_ : _ = some (.row 77 true [.func (.func 80) ⟨[]⟩ ⟨[ptr h1.next 0, ptr (h1.lay (.row 3 true [int (Un n)])).next 0, ptr h.next 0]⟩])) (by simp only [Hp.next_lay])
      exact at_next (by simp only [Hp.next_lay]) (Hp.at_lay_old _ (Hp.at_lay_old _ (Hp.at_lay_old _ (Hp.at_lay_self _ _))))
    · exact at_next (by simp only [Hp.next_lay]) (Hp.at_lay_old _ (Hp.at_lay_self _ _))
    · exact (((((((Grows.lay _ _).trans hg1).then_lay _).then_lay _).then_lay _).then_lay _).then_lay _).then_lay _
  · intro k xs hk h3 hl hI
    obtain ⟨o, ho1, hod, hon, htr, hO⟩ := hI
    rw [List.getElem?_map] at hk
    have hkl : k < (FL (Un n)).length := by
      rcases Nat.lt_or_ge k (FL (Un n)).length with h1 | h1
      · exact h1
      · rw [List.getElem?_eq_none h1] at hk; cases hk
    rw [List.getElem?_eq_getElem hkl] at hk
    have hx := FL_ok hu.1 _ (List.getElem_mem hkl)
    have htk := List.take_succ_eq_append_getElem hkl
    have hexx : ∃ x, (FL (Un n))[k] = x := ⟨_, rfl⟩
    obtain ⟨⟨p, t⟩, ex⟩ := hexx
    rw [ex] at hk hx htk
    obtain rfl : fv (p, t) = xs := by injection hk
    have hp2 := hx.1.1
    have hpm := Nat.le_of_dvd hu.1 hx.2.1
    dsimp only at hp2 hpm
    have hlt := Hp.lt_of_at hl
    have hc3 : h.next < h1.next := Hp.lt_of_at hp1
    have hol := Nat.le_of_dvd hu.1 hod
    conv => whnf
    refine ⟨rfl, _, storeAt_all rfl rfl rfl, ?_⟩
    conv => whnf
    refine bodyQ_go (Hp.at_lay_old _ hl) ?_
    intro BO hb eBO hbl hbk
    have hS := (hO.ext (Grows.lay h3 (.row 63 true [int p, int t]))).keep hbk hc3 (Nat.le_refl _) (by simp only [Hp.next_lay]; omega)
    have hR := hbk.at_ _ _ (by simp only [Hp.next_lay] at hlt ⊢; omega) (Hp.at_lay_self h3 (.row 63 true [int p, int t]))
    conv => whnf
    refine ⟨_, cellAt_row (at_next (by simp only [Hp.next_lay]) hS.h5) rfl, ?_⟩
    conv => whnf
    refine ⟨int p, cellAt_row hR rfl, ?_⟩
    conv => whnf
    refine ⟨can80, ?_⟩
    refine CallP.mono (divide_spec p n a o h1.next (h1.next + 1) h.next ⟨hp2, by omega⟩ hn ha ⟨ho1, by omega⟩ hon hb hS.h1 hS.h2 hS.h3 (by omega) (by omega)) ?_
    rintro r h7 ⟨o', q1, q2, q3, q4, q5, q6, q7⟩
    conv => whnf
    refine endQ_next eBO (q7 _ _ (by simp only [Hp.next_lay]; omega) hbl) ?_
    intro h9 h9l h9k
    refine .inl ⟨rfl, h9l, o', q1, Nat.dvd_trans q2 hod, q3, ?_, ?_⟩
    · intro x hx hxd
      rw [htk, List.mem_append] at hx
      rcases hx with hx | hx
      · have hxo := Nat.dvd_trans hxd q2
        have hxp := (FL_ok hu.1 x (List.mem_of_mem_take hx)).1.1
        exact Go.Num.quot_keep (by omega) q2 hxd (htr x hx hxo)
      · rw [List.mem_singleton] at hx
        subst hx
        exact q4 hxd
    · have hS7 : OF h h7 n a h1.next h.next o' := ⟨q5, q7 _ _ (by omega) hS.h2, q7 _ _ (by omega) hS.h3, q7 _ _ (by omega) hS.h5, q7 _ _ (by omega) hS.hd, ⟨Nat.le_trans hS.hg.next q6, fun r o e => q7 r o (by have := Hp.lt_of_at e; omega) (hS.hg.at_ r o e)⟩⟩
      exact hS7.keep h9k hc3 (Nat.le_refl _) (by simp only [Hp.next_lay]; omega)
  · intro h2 h3 hI hk3
    obtain ⟨o, ho1, hod, hon, htr, hO⟩ := hI
    have hc3 : h.next < h1.next := Hp.lt_of_at hp1
    rw [List.length_map, List.take_length] at htr
    have hS2 := hO.keep hk3 hc3 (Nat.le_refl _) (by simp only [Hp.next_lay]; omega)
    have hol := Nat.le_of_dvd hu.1 hod
    conv => whnf
    refine ⟨int o, cellAt_row hS2.h1 rfl, ?_⟩
    conv => whnf
    refine finP_mark (at_next (by simp only [Hp.next_lay]) hS2.hd) ?_
    exact finP_one rfl rfl ⟨⟨o, rfl, ho1, by omega, hon, tried_least hn.1 ho1 hod hon htr⟩, hS2.hg.then_set _ (by simp only [Hp.next_lay]; omega)⟩
  · intro h2 hf
    exact hf.elim
end
end Go.Proofs.Ytlcnmneildefmaa
