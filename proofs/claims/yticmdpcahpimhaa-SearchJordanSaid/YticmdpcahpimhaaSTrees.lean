/- Contracts of the functions that SJorZ comes to. -/
import Derived.Test.YticmdpcahpimhaaSTree2
import Derived.Test.YticmdpcahpimhaaSAwake
set_option maxRecDepth 100000
set_option maxHeartbeats 1000000
set_option linter.unusedVariables false
set_option linter.unusedSectionVars false
set_option linter.unusedSimpArgs false
namespace Go.Proofs.Yticmdpcahpimhaa
open Go.Rx Go.RowKit Go.Comp
attribute [local irreducible] E idxN cellAt cellsAt storeAt callable helems hmoved lookIn findKey keyOk hentries Hp.at Hp.set Hp.lay arBits hupdated setAt CallP YieldP BoolOf IsWrap Rnd LoopP AppP CutP Int.tmod Int.tdiv Int.fdiv
/-- What a checked tree comes to. -/
def CheckedT (n : Int) (P : List (Int × Int)) (r : Value) : Prop := ∃ (cs : List Value) (e : Int), r = .tuple ⟨[.agg ⟨cs⟩, int e]⟩ ∧ cs.length = 11 ∧ cs.all oneCell = true ∧ TChk n P e ∧ (TreeP n P → ∃ near, cs = tv n.toNat near ∧ TreeOk n.toNat P near)
section
variable [Unknowns]
attribute [local irreducible] ResP sameAt natI tv finP Z
theorem fin_check {φ : Rx.Frame} {H : Hp} {c4 : Nat} {x : Bool} {e : Int} {cs : List Value} {Q : Value → Hp → Prop} (hφ : φ 4 = ptr c4 0) (h5 : φ 5 = int e) (hat : H.at c4 = some (.row 102 x cs)) (hl : cs.length = 11) (q : Q (.tuple ⟨[.agg ⟨cs⟩, int e]⟩) H) : finP E [.cell 4 102, .tmp 5] ⟨φ, H, []⟩ Q := by
  obtain ⟨i, hi, hag, hsz⟩ := ty102
  refine leave_cell2 hφ h5 rfl hi hag ?_ q
  rw [hsz, cellsAt_row hat (by omega), List.drop_zero, List.take_of_length_le (by omega)]
theorem over_all {cs ds : List Value} (h : cs.length = 11) (hd : ds.length = 11) : over cs 0 ds = ds := by
  match cs, h, ds, hd with
  | [_, _, _, _, _, _, _, _, _, _, _], _, [_, _, _, _, _, _, _, _, _, _, _], _ => rfl
theorem Z_len : Z.length = 11 := by unfold Z; rfl
theorem Z_one : Z.all oneCell = true := by unfold Z; rfl
theorem checked_spec (n : Int) (P : List (Int × Int)) (hl : P.length ≤ 1000) (ev : Value) (h : Hp) (hv : PairsV h ev P) : CallP E 68 [int n, ev] h (fun r h' => CheckedT n P r ∧ Grows h h') := by
  have h4 : (h.lay (.row 102 true Z)).at h.next = some (.row 102 true Z) := Hp.at_lay_self _ _
  have hbad : ¬ (1 ≤ n ∧ n ≤ 10) → CheckedT n P (.tuple ⟨[.agg ⟨Z⟩, int 1]⟩) := fun hn => ⟨Z, 1, rfl, Z_len, Z_one, ⟨fun _ => rfl, fun h => absurd h hn, fun h => absurd h.n1 hn⟩, fun h => absurd h.n1 hn⟩
  refine enter68 (by simp) ?_
  conv => whnf
  refine SeqP.go ?_
  conv => whnf
  refine SeqP.cut (α := Unit) (fun _ => [(0, int n), (1, ev), (4, ptr h.next 0)]) (fun _ h' => h' = h.lay (.row 102 true Z) ∧ 1 ≤ n ∧ n ≤ 10) ?_ ?_
  · have hZ : Z = [int 0, int 0, int 0, int 0, int 0, int 0, int 0, int 0, int 0, int 0, int 0] := by unfold Z; rfl
    have fin1 : ∀ φ : Rx.Frame, φ 4 = ptr h.next 0 → φ 5 = int 1 → ¬ (1 ≤ n ∧ n ≤ 10) → finP E [.cell 4 102, .tmp 5] ⟨φ, h.lay (.row 102 true Z), []⟩ (fun r h' => CheckedT n P r ∧ Grows h h') := fun φ h1 h2 hn => fin_check h1 h2 h4 Z_len ⟨hbad hn, Grows.lay _ _⟩
    rw [hZ] at fin1
    conv => whnf
    repeat (refine SeqP.go ?_; conv => whnf)
    refine cmpB (fun c1 => ?_) (fun c1 => ?_)
    · conv => whnf
      repeat (refine SeqP.go ?_; conv => whnf)
      refine ⟨rfl, _, storeAt_all rfl rfl rfl, ?_⟩
      conv => whnf
      repeat (refine SeqP.go ?_; conv => whnf)
      exact fin1 _ rfl rfl (by omega)
    conv => whnf
    refine cmpB (fun c2 => ?_) (fun c2 => ?_)
    · conv => whnf
      repeat (refine SeqP.go ?_; conv => whnf)
      refine ⟨rfl, _, storeAt_all rfl rfl rfl, ?_⟩
      conv => whnf
      repeat (refine SeqP.go ?_; conv => whnf)
      exact fin1 _ rfl rfl (by omega)
    conv => whnf
    exact ⟨(), ⟨rfl, rfl, rfl, trivial⟩, ⟨by rw [hZ], by omega, by omega⟩, rfl⟩
  rintro _ φ h1 ⟨rfl, hn⟩
  obtain ⟨m, rfl⟩ : ∃ m : Nat, n = m := ⟨n.toNat, by omega⟩
  conv => whnf
  repeat (refine SeqP.go ?_; conv => whnf)
  refine CallP.mono (read_spec m (by omega) P hl ev _ (hv.ext (Grows.lay _ _))) ?_
  rintro r h2 ⟨⟨cs, b, rfl, hcl, hco, hbt, hbk⟩, hg2⟩
  have h42 := hg2.at_ _ _ h4
  have g2 : Grows h h2 := (Grows.lay _ _).trans hg2
  have ov : over Z 0 cs = cs := over_all Z_len hcl
  have ov0 : over [int 0, int 0, int 0, int 0, int 0, int 0, int 0, int 0, int 0, int 0, int 0] 0 cs = cs := over_all rfl hcl
  have h62 : (h2.lay (.row 102 true cs)).at h2.next = some (.row 102 true cs) := Hp.at_lay_self _ _
  have h43 := Hp.at_lay_old (.row 102 true cs) h42
  conv => whnf
  refine ⟨hcl, _, storeAt_all hcl hco ov0, ?_⟩
  cases b with
  | false =>
    have hnt : ¬ TreeP m P := fun ht => by have := hbt.2 ht; cases this
    have hst : storeAt (h2.lay (.row 102 true cs)) h.next 0 Z = some ((h2.lay (.row 102 true cs)).set h.next (.row 102 true Z)) := storeAt_full h43 rfl Z_one (over_all Z_len Z_len)
    have hZ : Z = [int 0, int 0, int 0, int 0, int 0, int 0, int 0, int 0, int 0, int 0, int 0] := by unfold Z; rfl
    have hst2 : storeAt (h2.lay (.row 102 true cs)) h.next 0 [int 0, int 0, int 0, int 0, int 0, int 0, int 0, int 0, int 0, int 0, int 0] = some ((h2.lay (.row 102 true cs)).set h.next (.row 102 true Z)) := by rw [← hZ]; exact hst
    conv => whnf
    repeat (refine SeqP.go ?_; conv => whnf)
    refine ⟨rfl, _, hst2, ?_⟩
    conv => whnf
    repeat (refine SeqP.go ?_; conv => whnf)
    exact fin_check rfl rfl (Hp.at_set_self _ (Hp.lt_of_at h43)) Z_len ⟨⟨Z, 81, rfl, Z_len, Z_one, TChk.bad hn hnt, fun h => absurd h hnt⟩, (g2.then_lay _).then_set _ (Nat.le_refl _)⟩
  | true =>
    have ht : TreeP m P := hbt.1 rfl
    conv => whnf
    repeat (refine SeqP.go ?_; conv => whnf)
    refine ⟨cs, by rw [cellsAt_row h62 (by omega), List.drop_zero, List.take_of_length_le (by omega)], ?_⟩
    conv => whnf
    refine ⟨hcl, _, storeAt_full h43 (by rw [hcl]; exact Z_len.symm) hco ov, ?_⟩
    conv => whnf
    repeat (refine SeqP.go ?_; conv => whnf)
    exact fin_check rfl rfl (Hp.at_set_self _ (Hp.lt_of_at h43)) hcl ⟨⟨cs, 0, rfl, hcl, hco, ⟨fun h => absurd hn h, fun _ h => absurd ht h, fun _ => rfl⟩, fun _ => hbk rfl⟩, (g2.then_lay _).then_set _ (Nat.le_refl _)⟩
theorem checktree_spec (n : Int) (P : List (Int × Int)) (hl : P.length ≤ 1000) (ev : Value) (h : Hp) (hv : PairsV h ev P) : CallP E 40 [int n, ev] h (fun r h' => (∃ e, r = int e ∧ TChk n P e) ∧ Grows h h') := by
  refine enter40 (by simp) ?_
  conv => whnf
  repeat (refine SeqP.go ?_; conv => whnf)
  refine CallP.mono (checked_spec n P hl ev h hv) ?_
  rintro r h1 ⟨⟨cs, e, rfl, hcl, hco, hch, -⟩, hg1⟩
  conv => whnf
  refine ⟨hcl, _, storeAt_all hcl hco (over_all rfl hcl), ?_⟩
  conv => whnf
  repeat (refine SeqP.go ?_; conv => whnf)
  exact finP_one rfl rfl ⟨⟨e, rfl, hch⟩, hg1.then_lay _⟩
end
section
variable [Unknowns]
attribute [local irreducible] ResP sameAt natI tv Z
theorem looks_bad (n : Int) (P : List (Int × Int)) (hl : P.length ≤ 1000) (ev : Value) (h : Hp) (hv : PairsV h ev P) (e : Int) (he : TChk n P e) (h0 : e ≠ 0) : CallP E 41 [int n, ev] h (fun r h' => r = .tuple ⟨[int 0, int e]⟩ ∧ Grows h h') := by
  refine enter41 (by simp) ?_
  conv => whnf
  repeat (refine SeqP.go ?_; conv => whnf)
  refine CallP.mono (checked_spec n P hl ev h hv) ?_
  rintro r h1 ⟨⟨cs, e', rfl, hcl, hco, hch, -⟩, hg1⟩
  have := hch.uniq he
  subst this
  conv => whnf
  refine ⟨hcl, _, storeAt_all hcl hco (over_all rfl hcl), ?_⟩
  conv => whnf
  repeat (refine SeqP.go ?_; conv => whnf)
  refine cmpT h0 ?_
  conv => whnf
  repeat (refine SeqP.go ?_; conv => whnf)
  exact ⟨rfl, hg1.then_lay _⟩
theorem marks_bad (n : Int) (P : List (Int × Int)) (hl : P.length ≤ 1000) (ev : Value) (h : Hp) (hv : PairsV h ev P) (e : Int) (he : TChk n P e) (h0 : e ≠ 0) : CallP E 42 [int n, ev] h (fun r h' => r = .tuple ⟨[.slice none 0 0, int e]⟩ ∧ Grows h h') := by
  refine enter42 (by simp) ?_
  conv => whnf
  repeat (refine SeqP.go ?_; conv => whnf)
  refine CallP.mono (checked_spec n P hl ev h hv) ?_
  rintro r h1 ⟨⟨cs, e', rfl, hcl, hco, hch, -⟩, hg1⟩
  have := hch.uniq he
  subst this
  conv => whnf
  refine ⟨hcl, _, storeAt_all hcl hco (over_all rfl hcl), ?_⟩
  conv => whnf
  repeat (refine SeqP.go ?_; conv => whnf)
  refine cmpT h0 ?_
  conv => whnf
  repeat (refine SeqP.go ?_; conv => whnf)
  exact ⟨rfl, hg1.then_lay _⟩
theorem aremarks_bad (n : Int) (P : List (Int × Int)) (hl : P.length ≤ 1000) (ev w : Value) (h : Hp) (hv : PairsV h ev P) (e : Int) (he : TChk n P e) (h0 : e ≠ 0) : CallP E 43 [int n, ev, w] h (fun r h' => r = .tuple ⟨[.bool false, int e]⟩ ∧ Grows h h') := by
  refine enter43 (by simp) ?_
  conv => whnf
  repeat (refine SeqP.go ?_; conv => whnf)
  refine CallP.mono (checked_spec n P hl ev h hv) ?_
  rintro r h1 ⟨⟨cs, e', rfl, hcl, hco, hch, -⟩, hg1⟩
  have := hch.uniq he
  subst this
  conv => whnf
  refine ⟨hcl, _, storeAt_all hcl hco (over_all rfl hcl), ?_⟩
  conv => whnf
  repeat (refine SeqP.go ?_; conv => whnf)
  refine cmpT h0 ?_
  conv => whnf
  repeat (refine SeqP.go ?_; conv => whnf)
  exact ⟨rfl, hg1.then_lay _⟩
theorem middle_bad (n : Int) (P : List (Int × Int)) (hl : P.length ≤ 1000) (ev : Value) (h : Hp) (hv : PairsV h ev P) (e : Int) (he : TChk n P e) (h0 : e ≠ 0) : CallP E 44 [int n, ev] h (fun r h' => r = .tuple ⟨[int 0, int 0, int e]⟩ ∧ Grows h h') := by
  refine enter44 (by simp) ?_
  conv => whnf
  repeat (refine SeqP.go ?_; conv => whnf)
  refine CallP.mono (checked_spec n P hl ev h hv) ?_
  rintro r h1 ⟨⟨cs, e', rfl, hcl, hco, hch, -⟩, hg1⟩
  have := hch.uniq he
  subst this
  conv => whnf
  refine ⟨hcl, _, storeAt_all hcl hco (over_all rfl hcl), ?_⟩
  conv => whnf
  repeat (refine SeqP.go ?_; conv => whnf)
  refine cmpT h0 ?_
  conv => whnf
  repeat (refine SeqP.go ?_; conv => whnf)
  exact ⟨rfl, hg1.then_lay _⟩
theorem trees_law (n : Int) (hn : InR n) (v : Value) (P : List (Int × Int)) (h : Hp) (hv : LentV h v P.length (flat P)) (hl : P.length ≤ 9223372036854775807) : CallP E 7 [int n, v] h (fun r _ => r = .bool true) := by
  refine enter7 (by simp) ?_
  conv => whnf
  repeat (refine SeqP.go ?_; conv => whnf)
  refine CallP.mono (own_spec v P h hv (by omega)) ?_
  rintro x h1 ⟨hb, hg1⟩
  have hp1 := hb.pairs
  have hlen : (P.take 11).length ≤ 1000 := by rw [List.length_take]; omega
  conv => whnf
  repeat (refine SeqP.go ?_; conv => whnf)
  refine CallP.mono (reftree_spec n _ hlen x h1 hp1) ?_
  rintro r h2 ⟨⟨e, rfl, he⟩, hg2⟩
  have hp2 := hp1.ext hg2
  conv => whnf
  repeat (refine SeqP.go ?_; conv => whnf)
  refine CallP.mono (checktree_spec n _ hlen x h2 hp2) ?_
  rintro r h3 ⟨⟨e', rfl, he'⟩, hg3⟩
  have := he'.uniq he
  subst this
  have hp3 := hp2.ext hg3
  conv => whnf
  refine cmpF (fun hne => hne rfl) ?_
  conv => whnf
  repeat (refine SeqP.go ?_; conv => whnf)
  refine cmpB (fun c1 => ?_) (fun c1 => ?_)
  · conv => whnf
    repeat (refine SeqP.go ?_; conv => whnf)
    refine memo27 ?_
    conv => whnf
    repeat (refine SeqP.go ?_; conv => whnf)
    rfl
  conv => whnf
  repeat (refine SeqP.go ?_; conv => whnf)
  refine CallP.mono (looks_bad n _ hlen x h3 hp3 e' he' c1) ?_
  rintro r h4 ⟨rfl, hg4⟩
  have hp4 := hp3.ext hg4
  conv => whnf
  repeat (refine SeqP.go ?_; conv => whnf)
  refine CallP.mono (marks_bad n _ hlen x h4 hp4 e' he' c1) ?_
  rintro r h5 ⟨rfl, hg5⟩
  have hp5 := hp4.ext hg5
  conv => whnf
  repeat (refine SeqP.go ?_; conv => whnf)
  refine CallP.mono (aremarks_bad n _ hlen x _ h5 hp5 e' he' c1) ?_
  rintro r h6 ⟨rfl, hg6⟩
  have hp6 := hp5.ext hg6
  conv => whnf
  repeat (refine SeqP.go ?_; conv => whnf)
  refine CallP.mono (middle_bad n _ hlen x h6 hp6 e' he' c1) ?_
  rintro r h7 ⟨rfl, hg7⟩
  conv => whnf
  repeat (refine SeqP.go ?_; conv => whnf)
  refine cmpT rfl ?_
  conv => whnf
  refine cmpT rfl ?_
  conv => whnf
  refine cmpT rfl ?_
  conv => whnf
  refine cmpT rfl ?_
  conv => whnf
  refine ⟨0, wie (by omega) (by omega), ?_⟩
  conv => whnf
  refine ⟨0, wie (by omega) (by omega), ?_⟩
  conv => whnf
  refine ⟨0, wie (by omega) (by omega), ?_⟩
  conv => whnf
  refine cmpT rfl ?_
  conv => whnf
  refine memo27 ?_
  conv => whnf
  repeat (refine SeqP.go ?_; conv => whnf)
  rfl
theorem under54 : Try.prog.underlying 54 = some (.slice 81) := Try.underlying54
theorem trees_spec (n : Int) (hn : -9223372036854775808 ≤ n ∧ n < 9223372036854775808) (t : Tr) (ht : TyT Try.prog 54 [t]) : ∀ h vs, AllT h vs [.num n, t] → CallP E 7 vs h (fun r _ => r = .bool true) := by
  intro h vs hvs
  obtain ⟨P, rfl, hm, -⟩ := ty_pairs Try.underlying54 Try.underlying81 Try.underlying3 (by kernel_rfl) (by kernel_rfl) ht
  match vs, hvs with
  | [_, v], hvs =>
  obtain ⟨h1, h2, -⟩ := hvs
  cases h1
  exact trees_law n hn v P h h2.lentV (by have : maxLen = 4294967296 ∨ True := .inr trivial; unfold maxLen at hm; omega)
end
end Go.Proofs.Yticmdpcahpimhaa
