/- Contracts of the functions that SJorZ comes to. -/
import Derived.Test.YticmdpcahpimhaaSParts2
import Derived.Test.YticmdpcahpimhaaWx23
set_option maxRecDepth 100000
set_option maxHeartbeats 1000000
set_option linter.unusedVariables false
set_option linter.unusedSectionVars false
set_option linter.unusedSimpArgs false
namespace Go.Proofs.Yticmdpcahpimhaa
open Go.Rx Go.RowKit Go.Comp
/-- What edges of a tree are like, up to some of them. -/
def EdgeOk (n : Int) (P : List (Int × Int)) (k : Nat) (hk : k < P.length) : Prop := 0 ≤ (P[k]).1 ∧ (P[k]).1 < (P[k]).2 ∧ (P[k]).2 < n ∧ ∀ h0 : 0 < k, PLess (P[k - 1]'(by omega)) P[k]
def UpTo (n : Int) (P : List (Int × Int)) (m : Nat) : Prop := ∀ k, (hk : k < P.length) → k < m → EdgeOk n P k hk
structure TreeP (n : Int) (P : List (Int × Int)) : Prop where
  n1 : 1 ≤ n ∧ n ≤ 10
  up : UpTo n P P.length
  len : (P.length : Int) = n - 1
  one : ∃ p, IsParts (adj P) (2 ^ n.toNat - 1) [p]
theorem UpTo.edges {n : Nat} {P : List (Int × Int)} (h : UpTo n P P.length) : EdgesOk n P := by
  intro x hx
  obtain ⟨k, hk, rfl⟩ := List.getElem_of_mem hx
  have := h k hk hk
  exact ⟨this.1, this.2.1, this.2.2.1⟩
theorem UpTo.succ {n : Int} {P : List (Int × Int)} {m : Nat} (hm : m < P.length) (h : UpTo n P m) (e : EdgeOk n P m hm) : UpTo n P (m + 1) := by
  intro k hk h1
  by_cases hkm : k = m
  · subst hkm; exact e
  · exact h k hk (by omega)
/-- What a check answers. -/
def TChk (n : Int) (P : List (Int × Int)) (e : Int) : Prop := (¬ (1 ≤ n ∧ n ≤ 10) → e = 1) ∧ ((1 ≤ n ∧ n ≤ 10) → ¬ TreeP n P → e = 81) ∧ (TreeP n P → e = 0)
theorem TChk.uniq {n : Int} {P : List (Int × Int)} {e f : Int} (h : TChk n P e) (k : TChk n P f) : e = f := by
  by_cases h1 : 1 ≤ n ∧ n ≤ 10
  · by_cases h2 : TreeP n P
    · rw [h.2.2 h2, k.2.2 h2]
    · rw [h.2.1 h1 h2, k.2.1 h1 h2]
  · rw [h.1 h1, k.1 h1]
theorem TChk.bad {n : Int} {P : List (Int × Int)} (h1 : 1 ≤ n ∧ n ≤ 10) (h2 : ¬ TreeP n P) : TChk n P 81 := ⟨fun h => absurd h1 h, fun _ _ => rfl, fun h => absurd h h2⟩
theorem isParts_len {A : Comp.Rel} {s : Nat} {l : List Nat} (h : IsParts A s l) : l.length = 1 ↔ ∃ p, IsParts A s [p] := by
  constructor
  · intro hl
    match l, hl with
    | [p], _ => exact ⟨p, h⟩
  · rintro ⟨p, hp⟩
    rw [h.uniq hp]; rfl
attribute [local irreducible] E idxN cellAt cellsAt storeAt callable helems hmoved lookIn findKey keyOk hentries Hp.at Hp.set Hp.lay arBits hupdated setAt CallP YieldP BoolOf IsWrap Rnd LoopP AppP CutP Int.tmod Int.tdiv Int.fdiv
section
variable [Unknowns]
attribute [local irreducible] ResP sameAt natI tv
theorem own_spec (v : Value) (P : List (Int × Int)) (h : Hp) (hv : LentV h v P.length (flat P)) (hl : P.length < 9223372036854775808) : CallP E 38 [v] h (fun r h' => BuiltC h h' 81 2 r (P.take 11).length ((flat (P.take 11)).map int) ∧ Grows h h') := by
  obtain ⟨a, c, rfl, -⟩ := id hv.pairs
  refine enter38 (by simp) ?_
  conv => whnf
  repeat (refine SeqP.go ?_; conv => whnf)
  refine resP_val (v := int ((min P.length 11 : Nat) : Int)) (h := h) ?_ ?_
  · conv => lhs; whnf
    refine congrArg (fun n => HRes.val (Value.int .i64 n) h) ?_
    split <;> omega
  conv => whnf
  refine CutP.lentV (k := min P.length 11) hv (flat_length P) (by omega) rfl ?_
  intro x hx
  conv => whnf
  refine AppP.cells (h0 := h) BuiltC.nil (.refl _) hx (by omega) (by omega) ?_
  intro v2 h2 hb hg _
  have e1 : (flat P).take (min P.length 11 * 2) = flat (P.take 11) := by
    rw [← flat_take, show P.take (min P.length 11) = P.take 11 by
      by_cases h : P.length ≤ 11
      · rw [Nat.min_eq_left h, List.take_of_length_le (Nat.le_refl _), List.take_of_length_le h]
      · rw [Nat.min_eq_right (by omega)]]
  rw [List.nil_append, e1, Nat.zero_add, show min P.length 11 = (P.take 11).length by rw [List.length_take]; omega] at hb
  have hbk := hb.slice
  obtain ⟨a2, rfl, -⟩ := hbk
  conv => whnf
  repeat (refine SeqP.go ?_; conv => whnf)
  exact ⟨hb, hg⟩
theorem reftree_spec (n : Int) (P : List (Int × Int)) (hl : P.length ≤ 1000) (ev : Value) (h : Hp) (hv : PairsV h ev P) : CallP E 39 [int n, ev] h (fun r h' => (∃ e, r = int e ∧ TChk n P e) ∧ Grows h h') := by
  obtain ⟨av, cap, rfl, hc⟩ := id hv
  refine enter39 (by simp) ?_
  conv => whnf
  refine SeqP.go ?_
  conv => whnf
  refine SeqP.cut (α := Unit) (fun _ => [(0, int n), (1, .slice av P.length cap)]) (fun _ h' => h' = h ∧ 1 ≤ n ∧ n ≤ 10) ?_ ?_
  · conv => whnf
    repeat (refine SeqP.go ?_; conv => whnf)
    refine cmpB (fun c1 => ?_) (fun c1 => ?_)
    · conv => whnf
      repeat (refine SeqP.go ?_; conv => whnf)
      exact ⟨⟨1, rfl, fun _ => rfl, fun h => by omega, fun h => by have := h.n1; omega⟩, Grows.refl _⟩
    conv => whnf
    refine cmpB (fun c2 => ?_) (fun c2 => ?_)
    · conv => whnf
      repeat (refine SeqP.go ?_; conv => whnf)
      exact ⟨⟨1, rfl, fun _ => rfl, fun h => by omega, fun h => by have := h.n1; omega⟩, Grows.refl _⟩
    conv => whnf
    exact ⟨(), ⟨rfl, rfl, trivial⟩, ⟨rfl, by omega, by omega⟩, rfl⟩
  rintro _ φ h1 ⟨rfl, hn⟩
  obtain ⟨m, rfl⟩ : ∃ m : Nat, n = m := ⟨n.toNat, by omega⟩
  conv => whnf
  refine SeqP.cut (α := Unit) (fun _ => [(0, int m), (1, .slice av P.length cap)]) (fun _ h' => h' = h1 ∧ UpTo m P P.length) ?_ ?_
  · conv => whnf
    repeat (refine SeqP.go ?_; conv => whnf)
    refine loop_inv (α := Nat) (fun k => [(5, int k), (0, int m), (1, .slice av P.length cap)]) (fun _ => h1) (fun k => k ≤ P.length ∧ UpTo m P k) (fun k => P.length - k) 0 ⟨Nat.zero_le _, fun k hk h0 => absurd h0 (Nat.not_lt_zero _)⟩ ⟨rfl, rfl, rfl, trivial⟩ (Hp.Le.refl _) ?_
    rintro k φ ⟨hk, hup⟩
    dsimp only at hk hup ⊢
    conv => whnf
    repeat (refine SeqP.go ?_; conv => whnf)
    refine cmpB (fun hb => ?_) (fun hb => ?_)
    rotate_left
    · conv => whnf
      repeat (refine SeqP.go ?_; conv => whnf)
      have hkl : k = P.length := by omega
      exact ⟨(), ⟨rfl, rfl, trivial⟩, ⟨rfl, by rw [← hkl]; exact hup⟩, rfl⟩
    have hk' : k < P.length := by omega
    obtain ⟨r, o, rfl, hc0, hc1⟩ := hc k hk'
    have hc0' : cellAt h1 r (0 + (k * 2 + o)) = some (int (P[k]).1) := by rw [Nat.zero_add]; exact hc0
    have hc1' : cellAt h1 r (1 + (k * 2 + o)) = some (int (P[k]).2) := by rw [Nat.add_comm]; exact hc1
    have bad : ¬ EdgeOk m P k hk' → TChk m P 81 := fun hno => TChk.bad hn fun ht => hno (ht.up k hk' hk')
    conv => whnf
    repeat (refine SeqP.go ?_; conv => whnf)
    refine ⟨rfl, ⟨by omega, by omega⟩, ?_⟩
    conv => whnf
    refine ⟨⟨by omega, by omega⟩, ?_⟩
    conv => whnf
    refine ⟨_, hc0', ?_⟩
    conv => whnf
    refine ⟨rfl, ⟨by omega, by omega⟩, ?_⟩
    conv => whnf
    refine ⟨⟨by omega, by omega⟩, ?_⟩
    conv => whnf
    refine ⟨_, hc1', ?_⟩
    conv => whnf
    repeat (refine SeqP.go ?_; conv => whnf)
    refine cmpB (fun c1 => ?_) (fun c1 => ?_)
    · conv => whnf
      repeat (refine SeqP.go ?_; conv => whnf)
      exact ⟨⟨81, rfl, bad fun hE => by have := hE.1; omega⟩, Grows.refl _⟩
    conv => whnf
    refine cmpB (fun c2 => ?_) (fun c2 => ?_)
    · conv => whnf
      repeat (refine SeqP.go ?_; conv => whnf)
      exact ⟨⟨81, rfl, bad fun hE => by have := hE.2.1; omega⟩, Grows.refl _⟩
    conv => whnf
    refine cmpB (fun c3 => ?_) (fun c3 => ?_)
    · conv => whnf
      repeat (refine SeqP.go ?_; conv => whnf)
      exact ⟨⟨81, rfl, bad fun hE => by have := hE.2.2.1; omega⟩, Grows.refl _⟩
    conv => whnf
    refine cmpB (fun c4 => ?_) (fun c4 => ?_)
    rotate_left
    · conv => whnf
      repeat (refine SeqP.go ?_; conv => whnf)
      refine ⟨((k + 1 : Nat) : Int), wie (by omega) (by omega), ?_⟩
      conv => whnf
      exact Rnd.mk (k + 1) ⟨by omega, hup.succ hk' ⟨by omega, by omega, by omega, fun h0 => by omega⟩⟩ (by show P.length - (k + 1) < P.length - k; omega) ⟨rfl, rfl, rfl, trivial⟩ (Hp.Le.refl _) rfl
    have hk1 : k - 1 < P.length := by omega
    obtain ⟨r', o', e', hd0, hd1⟩ := hc (k - 1) hk1
    obtain ⟨rfl, rfl⟩ : r' = r ∧ o' = o := by cases e'; exact ⟨rfl, rfl⟩
    have ek : (((k - 1 : Nat) : Int)) = (k : Int) - 1 := by omega
    have hd0' : cellAt h1 r' (0 + ((k - 1) * 2 + o')) = some (int (P[k - 1]).1) := by rw [Nat.zero_add]; exact hd0
    have hd1' : cellAt h1 r' (1 + ((k - 1) * 2 + o')) = some (int (P[k - 1]).2) := by rw [Nat.add_comm]; exact hd1
    have go : PLess P[k - 1] P[k] → UpTo m P (k + 1) := fun hp => hup.succ hk' ⟨by omega, by omega, by omega, fun h0 => hp⟩
    have nogo : ¬ PLess P[k - 1] P[k] → TChk m P 81 := fun hp => bad fun hE => hp (hE.2.2.2 (by omega))
    conv => whnf
    refine ⟨((k - 1 : Nat) : Int), wie (by omega) (by omega), ?_⟩
    conv => whnf
    refine ⟨rfl, ⟨by omega, by omega⟩, ?_⟩
    conv => whnf
    refine ⟨⟨by omega, by omega⟩, ?_⟩
    conv => whnf
    refine ⟨_, hd0', ?_⟩
    conv => whnf
    refine cmpB (fun c5 => ?_) (fun c5 => ?_)
    · conv => whnf
      repeat (refine SeqP.go ?_; conv => whnf)
      exact ⟨⟨81, rfl, nogo fun hp => by unfold PLess at hp; omega⟩, Grows.refl _⟩
    conv => whnf
    refine ⟨((k - 1 : Nat) : Int), wie (by omega) (by omega), ?_⟩
    conv => whnf
    refine ⟨rfl, ⟨by omega, by omega⟩, ?_⟩
    conv => whnf
    refine ⟨⟨by omega, by omega⟩, ?_⟩
    conv => whnf
    refine ⟨_, hd0', ?_⟩
    conv => whnf
    refine cmpB (fun c6 => ?_) (fun c6 => ?_)
    rotate_left
    · conv => whnf
      repeat (refine SeqP.go ?_; conv => whnf)
      refine ⟨((k + 1 : Nat) : Int), wie (by omega) (by omega), ?_⟩
      conv => whnf
      exact Rnd.mk (k + 1) ⟨by omega, go (by unfold PLess; omega)⟩ (by show P.length - (k + 1) < P.length - k; omega) ⟨rfl, rfl, rfl, trivial⟩ (Hp.Le.refl _) rfl
    conv => whnf
    refine ⟨((k - 1 : Nat) : Int), wie (by omega) (by omega), ?_⟩
    conv => whnf
    refine ⟨rfl, ⟨by omega, by omega⟩, ?_⟩
    conv => whnf
    refine ⟨⟨by omega, by omega⟩, ?_⟩
    conv => whnf
    refine ⟨_, hd1', ?_⟩
    conv => whnf
    refine cmpB (fun c7 => ?_) (fun c7 => ?_)
    · conv => whnf
      repeat (refine SeqP.go ?_; conv => whnf)
      exact ⟨⟨81, rfl, nogo fun hp => by unfold PLess at hp; omega⟩, Grows.refl _⟩
    conv => whnf
    repeat (refine SeqP.go ?_; conv => whnf)
    refine ⟨((k + 1 : Nat) : Int), wie (by omega) (by omega), ?_⟩
    conv => whnf
    exact Rnd.mk (k + 1) ⟨by omega, go (by unfold PLess; omega)⟩ (by show P.length - (k + 1) < P.length - k; omega) ⟨rfl, rfl, rfl, trivial⟩ (Hp.Le.refl _) rfl
  rintro _ φ h2 ⟨rfl, hup⟩
  conv => whnf
  repeat (refine SeqP.go ?_; conv => whnf)
  refine ⟨((m : Int) - 1), wid (by omega), ?_⟩
  conv => whnf
  refine cmpB (fun c1 => ?_) (fun c1 => ?_)
  · conv => whnf
    repeat (refine SeqP.go ?_; conv => whnf)
    exact ⟨⟨81, rfl, TChk.bad hn fun ht => by have := ht.len; omega⟩, Grows.refl _⟩
  have hpw : 2 ^ m < 2 ^ 11 := Nat.pow_lt_pow_right (by omega) (by omega)
  have hpw1 : 1 ≤ 2 ^ m := Nat.one_le_two_pow
  conv => whnf
  refine ⟨by omega, ((2 ^ m : Nat) : Int), shl_one (by omega), ?_⟩
  conv => whnf
  refine ⟨((2 ^ m - 1 : Nat) : Int), wie (by omega) (by omega), ?_⟩
  conv => whnf
  refine CallP.mono (refparts_spec m (by omega) P hup.edges hl (2 ^ m - 1) (by omega) _ h2 hv) ?_
  rintro rr h3 ⟨l, hlp, hb, hg⟩
  have hlen := isParts_len hlp
  have hb' := hb.view.known
  obtain ⟨a3, c3, rfl⟩ := hb'
  have hnl : (natI l).length = l.length := by unfold natI; rw [List.length_map]
  conv => whnf
  refine cmpB (fun c2 => ?_) (fun c2 => ?_)
  · conv => whnf
    repeat (refine SeqP.go ?_; conv => whnf)
    refine ⟨⟨81, rfl, TChk.bad hn fun ht => ?_⟩, hg⟩
    have := hlen.2 ht.one
    omega
  · conv => whnf
    repeat (refine SeqP.go ?_; conv => whnf)
    have hone := hlen.1 (by omega)
    have ht : TreeP m P := ⟨hn, hup, by omega, hone⟩
    exact ⟨⟨0, rfl, fun h => absurd hn h, fun _ h => absurd ht h, fun _ => rfl⟩, hg⟩
end
end Go.Proofs.Yticmdpcahpimhaa
