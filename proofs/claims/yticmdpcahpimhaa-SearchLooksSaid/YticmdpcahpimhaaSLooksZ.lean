/- Contracts of the functions that SLooksZ comes to. -/
import Derived.Test.YticmdpcahpimhaaSLkM
import Derived.Test.YticmdpcahpimhaaSMk4M
import Derived.Test.YticmdpcahpimhaaSGen2
import Derived.Test.YticmdpcahpimhaaSAwake
import Derived.Test.YticmdpcahpimhaaWx11
set_option maxRecDepth 100000
set_option maxHeartbeats 1000000
set_option linter.unusedVariables false
set_option linter.unusedSectionVars false
set_option linter.unusedSimpArgs false
namespace Go.Proofs.Yticmdpcahpimhaa
open Go.Rx Go.RowKit Go.Comp
attribute [local irreducible] E idxN cellAt cellsAt storeAt callable helems hmoved lookIn findKey keyOk hentries Hp.at Hp.set Hp.lay arBits hupdated setAt CallP YieldP BoolOf IsWrap Rnd LoopP AppP CutP Int.tmod Int.tdiv Int.fdiv
section
variable [Unknowns]
attribute [local irreducible] ResP sameAt natI tv Z bestM mS
theorem looks_law (n0 : Int) (hn0 : -9223372036854775808 ≤ n0 ∧ n0 < 9223372036854775808) (v0 : Value) (l : List Int) (hl : l.length ≤ maxLen) (hl' : ∀ n ∈ l, -9223372036854775808 ≤ n ∧ n < 9223372036854775808) :
    ∀ h vs, AllIs h vs [.i n0, .s v0 l] → CallP E 8 vs h (fun r _ => r = .bool true) := by
  have hmax : maxLen < 9223372036854775808 := by decide
  intro h vs hvs
  match vs, hvs with
  | [a0, a1], hvs =>
  obtain ⟨rfl, k0, -⟩ := hvs
  refine enter8 (by simp) ?_
  conv => whnf
  refine SeqP.go ?_
  conv => whnf
  refine SeqP.cut (α := Nat × List (Int × Int) × Value) (fun s => [(5, s.2.2), (0, int s.1)]) (fun s H => 1 ≤ s.1 ∧ s.1 ≤ 10 ∧ TreeP s.1 s.2.1 ∧ s.2.1.length ≤ 10 ∧ PairsV H s.2.2 s.2.1) ?_ ?_
  · conv => whnf
    refine CallP.mono (lawtree_spec n0 l a1 h k0.ints (by omega)) ?_
    rintro r h1 ⟨⟨n, P, w, rfl, hn1, hn2, hT, hPl, hw⟩, hg1⟩
    conv => whnf
    exact ⟨(n, P, w), ⟨rfl, rfl, trivial⟩, ⟨hn1, hn2, hT, hPl, hw⟩, rfl⟩
  rintro ⟨n, P, w⟩ φ1 h1 ⟨hn1, hn2, hT, hPl, hw⟩
  dsimp only at hn1 hn2 hT hPl hw ⊢
  have hS : 2 ^ n - 1 < 2 ^ n := by have := Nat.two_pow_pos n; omega
  have hpn : 2 ^ n ≤ 2 ^ 10 := Nat.pow_le_pow_right (by omega) hn2
  have hc1 : 1 ≤ cnt n (2 ^ n - 1) := cnt_pos (v := 0) (by rw [all_bit, decide_eq_true (by omega)]) n hn1
  have hlb := bestM_len P n
  have hbb := bestM_bd P n
  have htop := bestM_top P hn1
  have hok := bestM_ok P hn1 hn2
  have hexx : ∃ x, (B (adj P) n (2 ^ n - 1)).1 = x := ⟨_, rfl⟩
  obtain ⟨lk, elk⟩ := hexx
  rw [elk] at htop
  conv => whnf
  refine SeqP.cut (α := Unit) (fun _ => [(6, int lk), (7, int 0), (5, w), (0, int n)]) (fun _ H => Grows h1 H) ?_ ?_
  · conv => whnf
    refine CallP.mono (Looks_spec n P (by omega) hT w h1 hw) ?_
    rintro r h2 ⟨rfl, hg2⟩
    rw [elk]
    conv => whnf
    exact ⟨(), ⟨rfl, rfl, rfl, rfl, trivial⟩, hg2, rfl⟩
  rintro _ φ2 h2 hg2
  conv => whnf
  refine SeqP.cut (α := Value × Hp) (fun s => [(8, s.1), (9, int 0), (6, int lk), (7, int 0), (5, w), (0, int n)]) (fun s H => s.2 = H ∧ Ints s.2 s.1 (bestM P n) ∧ Grows h1 s.2) ?_ ?_
  · conv => whnf
    refine CallP.mono (Marks_spec n P (by omega) hT w h2 (hw.ext hg2)) ?_
    rintro r h3 ⟨⟨v, rfl, hb⟩, hg3⟩
    conv => whnf
    exact ⟨(v, h3), ⟨rfl, rfl, rfl, rfl, rfl, rfl, trivial⟩, ⟨rfl, hb.ints, hg2.trans hg3⟩, rfl⟩
  rintro ⟨v, h3⟩ φ3 _ ⟨rfl, hv, hg3⟩
  dsimp only at hv hg3 ⊢
  conv => whnf
  refine SeqP.cut (α := Hp) (fun _ => [(10, int (mS n (midC P n) n).2), (11, int (mS n (midC P n) n).1), (12, int 0), (8, v), (9, int 0), (6, int lk), (7, int 0), (5, w), (0, int n)]) (fun s H => s = H ∧ Grows h3 s) ?_ ?_
  · conv => whnf
    refine CallP.mono (Middle_spec n P (by omega) hT w h3 (hw.ext hg3)) ?_
    rintro r h4 ⟨rfl, hg4⟩
    conv => whnf
    exact ⟨h4, ⟨rfl, rfl, rfl, rfl, rfl, rfl, rfl, rfl, rfl, trivial⟩, ⟨rfl, hg4⟩, rfl⟩
  rintro h4 φ4 _ ⟨rfl, hg4⟩
  have hexm : ∃ z, mS n (midC P n) n = z := ⟨_, rfl⟩
  obtain ⟨z, ez⟩ := hexm
  rw [ez]
  conv => whnf
  refine SeqP.cut (α := Hp) (fun _ => [(13, int lk), (10, int z.2), (11, int z.1), (12, int 0), (8, v), (9, int 0), (6, int lk), (7, int 0), (5, w), (0, int n)]) (fun s H => s = H ∧ Grows h4 s) ?_ ?_
  · conv => whnf
    refine ⟨by omega, ((2 ^ n : Nat) : Int), shl_one (by omega), ?_⟩
    conv => whnf
    have hp0 := Nat.two_pow_pos n
    refine ⟨((2 ^ n - 1 : Nat) : Int), wie (by omega) (by omega), ?_⟩
    conv => whnf
    have hK0 : KM2 (adj P) n (h4.lay (.map [] 0)) h4.next := ⟨fun _ => none, 0, MapAt.new _, fun s v e => by cases e⟩
    refine CallP.mono (reflooks_spec hn2 (UpTo.edges hT.up) (by omega) w h4.next (n + 1) (2 ^ n - 1) (h4.lay (.map [] 0)) hc1 (by have := cnt_le n (2 ^ n - 1); omega) hS (hw.ext ((hg3.trans hg4).then_lay _)) hK0) ?_
    rintro r h5 ⟨rfl, hK5, hG5⟩
    rw [elk]
    conv => whnf
    refine ⟨h5, ⟨rfl, rfl, rfl, rfl, rfl, rfl, rfl, rfl, rfl, rfl, trivial⟩, ⟨rfl, ⟨?_, fun r o e => ?_⟩⟩, rfl⟩
    · have := hG5.next
      rw [Hp.next_lay] at this
      omega
    · have hlt := Hp.lt_of_at e
      exact hG5.at_ _ _ (by omega) (Hp.at_lay_old _ e)
  rintro h5 φ5 _ ⟨rfl, hg5⟩
  conv => whnf
  refine SeqP.cut (α := Hp) (fun _ => [(14, int z.2), (15, int z.1), (13, int lk), (10, int z.2), (11, int z.1), (12, int 0), (8, v), (9, int 0), (6, int lk), (7, int 0), (5, w), (0, int n)]) (fun s H => s = H ∧ Grows h5 s) ?_ ?_
  · conv => whnf
    refine CallP.mono (refmiddle_spec n hn2 P (UpTo.edges hT.up) (by omega) w h5 (hw.ext ((hg3.trans hg4).trans hg5))) ?_
    rintro r h6 ⟨rfl, hg6⟩
    rw [ez]
    conv => whnf
    exact ⟨h6, ⟨rfl, rfl, rfl, rfl, rfl, rfl, rfl, rfl, rfl, rfl, rfl, rfl, trivial⟩, ⟨rfl, hg6⟩, rfl⟩
  rintro h6 φ6 _ ⟨rfl, hg6⟩
  have hg36 := (hg4.trans hg5).trans hg6
  conv => whnf
  repeat (refine SeqP.go ?_; conv => whnf)
  refine cmpT rfl ?_
  conv => whnf
  refine cmpT rfl ?_
  conv => whnf
  refine cmpT rfl ?_
  conv => whnf
  refine CallP.mono (refmarks_spec n hn2 P (UpTo.edges hT.up) (by omega) (bestM P n) w v h6 (hw.ext (hg3.trans hg36)) (hv.ext hg36) (by omega)) ?_
  rintro r h7 ⟨⟨b', rfl, hb'⟩, hg7⟩
  have e : b' = true := hb'.of_t hok
  subst e
  conv => whnf
  refine CallP.mono (refworst_spec (bestM P n) lk v h7 (hv.ext (hg36.trans hg7)) (by omega) (fun x hx => ⟨(hbb x hx).1, htop.1 x hx⟩) htop.2) ?_
  rintro r h8 ⟨rfl, rfl⟩
  conv => whnf
  refine cmpT rfl ?_
  conv => whnf
  refine cmpT rfl ?_
  conv => whnf
  refine cmpT rfl ?_
  conv => whnf
  refine cmpT rfl ?_
  conv => whnf
  refine memo27 ?_
  conv => whnf
  rfl
end
end Go.Proofs.Yticmdpcahpimhaa
