/- Contracts of the functions that LLogs comes to. -/
import Derived.Test.YtlcnmneildefmaaCodeLLogs
import Derived.Test.YtlcnmneildefmaaWx13
import Derived.Test.YtlcnmneildefmaaLAwake
set_option maxRecDepth 100000
set_option maxHeartbeats 1000000
set_option linter.unusedVariables false
set_option linter.unusedSectionVars false
set_option linter.unusedSimpArgs false
namespace Go.Rx
theorem BoolOf.yes {p : Prop} (h : p) : BoolOf true p := ⟨fun _ => h, fun _ => rfl⟩
theorem BoolOf.no {p : Prop} (h : ¬ p) : BoolOf false p := ⟨fun e => (by cases e), fun hp => absurd hp h⟩
theorem BoolOf.congr {b : Bool} {p q : Prop} (h : BoolOf b p) (e : p ↔ q) : BoolOf b q := Iff.trans h e
theorem tmod_nat (a b : Nat) : (a : Int).tmod (b : Int) = ((a % b : Nat) : Int) := by
  rw [Int.tmod_eq_emod_of_nonneg (by omega)]; rfl
end Go.Rx
namespace Go.Proofs.Ytlcnmneildefmaa
open Go.Rx Go.RowKit
attribute [local irreducible] E idxN cellAt cellsAt storeAt callable helems hmoved lookIn findKey keyOk hentries Hp.at Hp.set Hp.lay arBits hupdated setAt CallP YieldP BoolOf IsWrap Rnd LoopP AppP CutP Int.tmod Int.tdiv Int.fdiv
def IsMod (n : Int) : Prop := 1 ≤ n ∧ n ≤ 1000000
def IsUnit (n a : Int) : Prop := 0 ≤ a ∧ a < n ∧ Nat.gcd n.toNat a.toNat = 1
/-- What Check answers. -/
def Chk (n a e : Int) : Prop := (¬ IsMod n → e = 1) ∧ (IsMod n → ¬ IsUnit n a → e = 70) ∧ (IsMod n → IsUnit n a → e = 0)
theorem Chk.uniq {n a e f : Int} (h : Chk n a e) (k : Chk n a f) : e = f := by
  by_cases hM : IsMod n
  · by_cases hU : IsUnit n a
    · rw [h.2.2 hM hU, k.2.2 hM hU]
    · rw [h.2.1 hM hU, k.2.1 hM hU]
  · rw [h.1 hM, k.1 hM]
section
variable [Unknowns]
theorem refgcd_spec (a b : Nat) (ha : a < 9223372036854775808) (hb : b < 9223372036854775808) (h : Hp) : CallP E 49 [int a, int b] h (fun r h' => r = int (Nat.gcd a b) ∧ h' = h) := by
  refine enter49 (by simp) ?_
  conv => whnf
  refine loop_inv (α := Nat × Nat) (fun s => [(0, int s.1), (1, int s.2)]) (fun _ => h) (fun s => Nat.gcd s.1 s.2 = Nat.gcd a b) (fun s => s.2) (a, b) rfl ⟨rfl, rfl, trivial⟩ (Hp.Le.refl _) ?_
  rintro ⟨x, y⟩ φ hg
  dsimp only at hg ⊢
  conv => whnf
  refine cmpB (fun hb => ?_) (fun hb => ?_)
  · conv => whnf
    refine ⟨by omega, ?_⟩
    have e := tmod_nat x y
    have hy : y ≠ 0 := by omega
    conv => whnf
    refine Rnd.mk (y, x % y) ?_ ?_ ⟨rfl, ?_, trivial⟩ (Hp.Le.refl _) rfl
    · show Nat.gcd y (x % y) = _
      rw [← hg, Nat.gcd_comm x y, Nat.gcd_rec y x, Nat.gcd_comm]
    · exact Nat.mod_lt _ (by omega)
    · show int ((x : Int).tmod y) = int ((x % y : Nat) : Int)
      rw [e]
  · have : y = 0 := by omega
    subst this
    conv => whnf
    refine ⟨?_, rfl⟩
    show int (x : Int) = int _
    rw [← hg]
    simp
theorem divisor_spec (v : Value) (l : List Nat) (h : Hp) (hv : Ints h v (l.map fun n : Nat => (n : Int))) (hl : l.length < 1000000) : CallP E 57 [v] h (fun r h' => r = int ((l.foldl Nat.gcd 0 : Nat) : Int) ∧ h' = h) := by
  obtain ⟨av, cap, rfl, hc⟩ := id hv
  have hll : (l.map fun n : Nat => (n : Int)).length = l.length := by simp
  rw [hll]
  refine enter57 (by simp) ?_
  conv => whnf
  refine loop_inv (α := Nat) (fun k => [(8, int k), (7, int l.length), (6, .slice av l.length cap), (3, int (((l.take k).foldl Nat.gcd 0 : Nat) : Int))]) (fun _ => h) (fun k => k ≤ l.length) (fun k => l.length - k) 0 (by omega) ⟨rfl, rfl, rfl, rfl, trivial⟩ (Hp.Le.refl _) ?_
  intro k φ hk
  conv => whnf
  refine cmpB (fun hb => ?_) (fun hb => ?_)
  rotate_left
  · have : k = l.length := by omega
    subst this
    rw [List.take_length]
    conv => whnf
    exact ⟨rfl, rfl⟩
  have hk' : k < l.length := by omega
  obtain ⟨r, o, sp, e, hsp, hcell⟩ := hc k (by rw [hll]; exact hk')
  subst e
  rw [List.getElem_map] at hcell
  conv => whnf
  refine ⟨hsp, ⟨by omega, by omega⟩, ?_⟩
  conv => whnf
  refine ⟨_, hcell, ?_⟩
  conv => whnf
  refine loop_inv (α := Nat × Nat) (fun s => [(3, int s.1), (5, int s.2), (8, int k), (7, int l.length), (6, .slice (some ⟨r, o, sp⟩) l.length cap)]) (fun _ => h) (fun s => Nat.gcd s.1 s.2 = Nat.gcd ((l.take k).foldl Nat.gcd 0) l[k]) (fun s => s.2) ((l.take k).foldl Nat.gcd 0, l[k]) rfl ⟨rfl, rfl, rfl, rfl, rfl, trivial⟩ (Hp.Le.refl _) ?_
  rintro ⟨x, y⟩ φ2 hg
  dsimp only at hg ⊢
  conv => whnf
  refine cmpB (fun hb2 => ?_) (fun hb2 => ?_)
  · conv => whnf
    refine ⟨by omega, ?_⟩
    have e := tmod_nat x y
    have hy : y ≠ 0 := by omega
    conv => whnf
    refine Rnd.mk (y, x % y) ?_ ?_ ⟨rfl, ?_, rfl, rfl, rfl, trivial⟩ (Hp.Le.refl _) rfl
    · show Nat.gcd y (x % y) = _
      rw [← hg, Nat.gcd_comm x y, Nat.gcd_rec y x, Nat.gcd_comm]
    · exact Nat.mod_lt _ (by omega)
    · show int ((x : Int).tmod y) = int ((x % y : Nat) : Int)
      rw [e]
  · have : y = 0 := by omega
    subst this
    conv => whnf
    refine ⟨_, wid (by omega), ?_⟩
    conv => whnf
    refine Rnd.mk (k + 1) (by omega) (by omega) ⟨rfl, rfl, rfl, ?_, trivial⟩ (Hp.Le.refl _) rfl
    show int (x : Int) = int (((l.take (k + 1)).foldl Nat.gcd 0 : Nat) : Int)
    rw [List.take_succ_eq_append_getElem hk', List.foldl_append]
    show int (x : Int) = int ((Nat.gcd ((l.take k).foldl Nat.gcd 0) l[k] : Nat) : Int)
    rw [← hg]
    simp
theorem ismod18 (n : Int) (h : Hp) : CallP E 18 [int n] h (fun r h' => (∃ b, r = .bool b ∧ BoolOf b (IsMod n)) ∧ h' = h) := by
  refine enter18 (by simp) ?_
  conv => whnf
  refine cmpB (fun hb => ?_) (fun hb => ?_)
  · conv => whnf
    refine cmpB (fun hb2 => ?_) (fun hb2 => ?_)
    · conv => whnf
      exact ⟨⟨true, rfl, BoolOf.yes ⟨hb, hb2⟩⟩, rfl⟩
    · conv => whnf
      exact ⟨⟨false, rfl, BoolOf.no (fun h => hb2 h.2)⟩, rfl⟩
  · conv => whnf
    exact ⟨⟨false, rfl, BoolOf.no (fun h => hb h.1)⟩, rfl⟩
theorem mod_no18 {n : Int} (hM : ¬ IsMod n) (h : Hp) : CallP E 18 [int n] h (fun r h' => r = .bool false ∧ h' = h) :=
  (ismod18 n h).mono fun r h' ⟨⟨b, e, hb⟩, e2⟩ => ⟨by rw [e, hb.of_f hM], e2⟩
theorem mod_yes18 {n : Int} (hM : IsMod n) (h : Hp) : CallP E 18 [int n] h (fun r h' => r = .bool true ∧ h' = h) :=
  (ismod18 n h).mono fun r h' ⟨⟨b, e, hb⟩, e2⟩ => ⟨by rw [e, hb.of_t hM], e2⟩
theorem ismod53 (n : Int) (h : Hp) : CallP E 53 [int n] h (fun r h' => (∃ b, r = .bool b ∧ BoolOf b (IsMod n)) ∧ h' = h) := by
  refine enter53 (by simp) ?_
  conv => whnf
  refine cmpB (fun hb => ?_) (fun hb => ?_)
  · conv => whnf
    refine cmpB (fun hb2 => ?_) (fun hb2 => ?_)
    · conv => whnf
      exact ⟨⟨true, rfl, BoolOf.yes ⟨hb, hb2⟩⟩, rfl⟩
    · conv => whnf
      exact ⟨⟨false, rfl, BoolOf.no (fun h => hb2 h.2)⟩, rfl⟩
  · conv => whnf
    exact ⟨⟨false, rfl, BoolOf.no (fun h => hb h.1)⟩, rfl⟩
theorem mod_no53 {n : Int} (hM : ¬ IsMod n) (h : Hp) : CallP E 53 [int n] h (fun r h' => r = .bool false ∧ h' = h) :=
  (ismod53 n h).mono fun r h' ⟨⟨b, e, hb⟩, e2⟩ => ⟨by rw [e, hb.of_f hM], e2⟩
theorem mod_yes53 {n : Int} (hM : IsMod n) (h : Hp) : CallP E 53 [int n] h (fun r h' => r = .bool true ∧ h' = h) :=
  (ismod53 n h).mono fun r h' ⟨⟨b, e, hb⟩, e2⟩ => ⟨by rw [e, hb.of_t hM], e2⟩
theorem isunit_spec (n a : Int) (hn : IsMod n) (h : Hp) : CallP E 54 [int n, int a] h (fun r h' => (∃ b, r = .bool b ∧ BoolOf b (IsUnit n a)) ∧ Grows h h') := by
  have hn1 := hn.1
  have hn2 := hn.2
  refine enter54 (by simp) ?_
  conv => whnf
  refine cmpB (fun hb => ?_) (fun hb => ?_)
  rotate_left
  · conv => whnf
    exact ⟨⟨false, rfl, BoolOf.no (fun h => hb h.1)⟩, .refl _⟩
  conv => whnf
  refine cmpB (fun hb2 => ?_) (fun hb2 => ?_)
  rotate_left
  · conv => whnf
    exact ⟨⟨false, rfl, BoolOf.no (fun h => hb2 h.2.1)⟩, .refl _⟩
  have hi : Ints (h.lay (.row 3 true [int a, int n])) (slc h.next 0 2 2) ([a.toNat, n.toNat].map fun n : Nat => (n : Int)) := by
    have e : [a.toNat, n.toNat].map (fun n : Nat => (n : Int)) = [a, n] := by simp; omega
    rw [e]
    exact ints_of_row (l := [a, n]) (Hp.at_lay_self _ _) (fun k hk => by
      have : k = 0 ∨ k = 1 := by simp at hk; omega
      rcases this with rfl | rfl <;> rfl)
  conv => whnf
  refine CallP.mono (divisor_spec _ [a.toNat, n.toNat] _ hi (by simp)) ?_
  rintro r h' ⟨rfl, rfl⟩
  have e : ([a.toNat, n.toNat].foldl Nat.gcd 0) = Nat.gcd n.toNat a.toNat := by
    show Nat.gcd (Nat.gcd 0 a.toNat) n.toNat = _
    rw [Nat.gcd_zero_left, Nat.gcd_comm]
  rw [e]
  conv => whnf
  refine cmpB (fun hb3 => ?_) (fun hb3 => ?_)
  · conv => whnf
    exact ⟨⟨true, rfl, BoolOf.yes ⟨hb, hb2, by omega⟩⟩, Grows.lay _ _⟩
  · conv => whnf
    exact ⟨⟨false, rfl, BoolOf.no (fun h => hb3 (by rw [h.2.2]; rfl))⟩, Grows.lay _ _⟩
theorem check_spec (n a : Int) (h : Hp) : CallP E 17 [int n, int a] h (fun r h' => (∃ e, r = int e ∧ Chk n a e) ∧ Grows h h') := by
  refine enter17 (by simp) ?_
  conv => whnf
  refine CallP.mono (ismod53 n h) ?_
  rintro r h1 ⟨⟨b, rfl, hb⟩, rfl⟩
  cases b with
  | false =>
    conv => whnf
    exact ⟨⟨1, rfl, fun _ => rfl, fun h => absurd h hb.f, fun h => absurd h hb.f⟩, .refl _⟩
  | true =>
    conv => whnf
    refine CallP.mono (isunit_spec n a hb.t h1) ?_
    rintro r h2 ⟨⟨b2, rfl, hb2⟩, hg⟩
    cases b2 with
    | false =>
      conv => whnf
      exact ⟨⟨70, rfl, fun h => absurd hb.t h, fun _ _ => rfl, fun _ h => absurd h hb2.f⟩, hg⟩
    | true =>
      conv => whnf
      exact ⟨⟨0, rfl, fun h => absurd hb.t h, fun _ h => absurd hb2.t h, fun _ _ => rfl⟩, hg⟩
theorem refcheck_spec (n a : Int) (h : Hp) : CallP E 16 [int n, int a] h (fun r h' => (∃ e, r = int e ∧ Chk n a e) ∧ h' = h) := by
  refine enter16 (by simp) ?_
  conv => whnf
  refine CallP.mono (ismod18 n h) ?_
  rintro r h1 ⟨⟨b, rfl, hb⟩, rfl⟩
  cases b with
  | false =>
    conv => whnf
    exact ⟨⟨1, rfl, fun _ => rfl, fun h => absurd h hb.f, fun h => absurd h hb.f⟩, rfl⟩
  | true =>
  have hM := hb.t
  have hn1 := hM.1
  have hn2 := hM.2
  have bad : ∀ h : Hp, ¬ IsUnit n a → (∃ e, int 70 = int e ∧ Chk n a e) ∧ h = h := fun h hu => ⟨⟨70, rfl, fun h => absurd hM h, fun _ _ => rfl, fun _ h => absurd h hu⟩, rfl⟩
  conv => whnf
  refine cmpB (fun hb1 => ?_) (fun hb1 => ?_)
  · conv => whnf
    exact bad _ (fun h => by have := h.1; omega)
  conv => whnf
  refine cmpB (fun hb2 => ?_) (fun hb2 => ?_)
  · conv => whnf
    exact bad _ (fun h => by have := h.2.1; omega)
  have en : int n = int ((n.toNat : Nat) : Int) := by rw [Int.toNat_of_nonneg (by omega)]
  have ea : int a = int ((a.toNat : Nat) : Int) := by rw [Int.toNat_of_nonneg (by omega)]
  have hgcd := refgcd_spec n.toNat a.toNat (by omega) (by omega) h1
  rw [← en, ← ea] at hgcd
  conv => whnf
  refine CallP.mono hgcd ?_
  rintro r h2 ⟨rfl, rfl⟩
  conv => whnf
  refine cmpB (fun hb3 => ?_) (fun hb3 => ?_)
  · conv => whnf
    exact bad _ (fun h => hb3 (by rw [h.2.2]; rfl))
  · conv => whnf
    exact ⟨⟨0, rfl, fun h => absurd hM h, fun _ h => absurd ⟨by omega, by omega, by omega⟩ h, fun _ _ => rfl⟩, rfl⟩
theorem err19 {n : Int} (hM : ¬ IsMod n) (h : Hp) : CallP E 19 [int n] h (fun r h' => r = .tuple ⟨[int 0, int 1]⟩ ∧ h' = h) := by
  refine enter19 (by simp) ?_
  conv => whnf
  refine CallP.mono (mod_no53 hM h) ?_
  rintro r h1 ⟨rfl, rfl⟩
  conv => whnf
  exact ⟨rfl, rfl⟩
theorem err20 {n : Int} (hM : ¬ IsMod n) (h : Hp) : CallP E 20 [int n] h (fun r h' => r = .tuple ⟨[int 0, int 1]⟩ ∧ h' = h) := by
  refine enter20 (by simp) ?_
  conv => whnf
  refine CallP.mono (mod_no53 hM h) ?_
  rintro r h1 ⟨rfl, rfl⟩
  conv => whnf
  exact ⟨rfl, rfl⟩
theorem err21 {n : Int} (hM : ¬ IsMod n) (h : Hp) : CallP E 21 [int n] h (fun r h' => r = .tuple ⟨[int 0, int 1]⟩ ∧ h' = h) := by
  refine enter21 (by simp) ?_
  conv => whnf
  refine CallP.mono (mod_no53 hM h) ?_
  rintro r h1 ⟨rfl, rfl⟩
  conv => whnf
  exact ⟨rfl, rfl⟩
theorem err22 {n : Int} (hM : ¬ IsMod n) (h : Hp) : CallP E 22 [int n] h (fun r h' => r = .tuple ⟨[int 0, int 1]⟩ ∧ h' = h) := by
  refine enter22 (by simp) ?_
  conv => whnf
  refine CallP.mono (mod_no53 hM h) ?_
  rintro r h1 ⟨rfl, rfl⟩
  conv => whnf
  exact ⟨rfl, rfl⟩
theorem err23 {n : Int} (hM : ¬ IsMod n) (h : Hp) : CallP E 23 [int n] h (fun r h' => r = .tuple ⟨[.slice none 0 0, int 1]⟩ ∧ h' = h) := by
  refine enter23 (by simp) ?_
  conv => whnf
  refine CallP.mono (mod_no53 hM h) ?_
  rintro r h1 ⟨rfl, rfl⟩
  conv => whnf
  exact ⟨rfl, rfl⟩
theorem err24 {n : Int} (hM : ¬ IsMod n) (h : Hp) : CallP E 24 [int n] h (fun r h' => r = .tuple ⟨[.slice none 0 0, int 1]⟩ ∧ h' = h) := by
  refine enter24 (by simp) ?_
  conv => whnf
  refine CallP.mono (mod_no53 hM h) ?_
  rintro r h1 ⟨rfl, rfl⟩
  conv => whnf
  exact ⟨rfl, rfl⟩
theorem err25 {n m : Int} (hM : ¬ IsMod n) (h : Hp) : CallP E 25 [int n, int m] h (fun r h' => r = .tuple ⟨[int 0, int 1]⟩ ∧ h' = h) := by
  refine enter25 (by simp) ?_
  conv => whnf
  refine CallP.mono (mod_no53 hM h) ?_
  rintro r h1 ⟨rfl, rfl⟩
  conv => whnf
  exact ⟨rfl, rfl⟩
theorem err26 {n : Int} (hM : ¬ IsMod n) (h : Hp) : CallP E 26 [int n] h (fun r h' => r = .tuple ⟨[.slice none 0 0, int 1]⟩ ∧ h' = h) := by
  refine enter26 (by simp) ?_
  conv => whnf
  refine CallP.mono (mod_no53 hM h) ?_
  rintro r h1 ⟨rfl, rfl⟩
  conv => whnf
  exact ⟨rfl, rfl⟩
theorem err27 {n : Int} (hM : ¬ IsMod n) (h : Hp) : CallP E 27 [int n] h (fun r h' => r = .tuple ⟨[int 0, .bool false, int 1]⟩ ∧ h' = h) := by
  refine enter27 (by simp) ?_
  conv => whnf
  refine CallP.mono (mod_no53 hM h) ?_
  rintro r h1 ⟨rfl, rfl⟩
  conv => whnf
  exact ⟨rfl, rfl⟩
theorem err29 {n a w : Int} (hw : Chk n a w) (h0 : w ≠ 0) (h : Hp) : CallP E 29 [int n, int a] h (fun r h' => r = .tuple ⟨[int 0, int w]⟩ ∧ Grows h h') := by
  refine enter29 (by simp) ?_
  conv => whnf
  refine CallP.mono (check_spec n a h) ?_
  rintro r h1 ⟨⟨e, rfl, he⟩, hg⟩
  have hew := he.uniq hw
  subst hew
  conv => whnf
  refine cmpT h0 ?_
  conv => whnf
  exact ⟨rfl, hg⟩
theorem err30 {n a m w : Int} (hw : Chk n a w) (h0 : w ≠ 0) (h : Hp) : CallP E 30 [int n, int a, int m] h (fun r h' => r = .tuple ⟨[int 0, .bool false, int w]⟩ ∧ Grows h h') := by
  refine enter30 (by simp) ?_
  conv => whnf
  refine CallP.mono (check_spec n a h) ?_
  rintro r h1 ⟨⟨e, rfl, he⟩, hg⟩
  have hew := he.uniq hw
  subst hew
  conv => whnf
  refine cmpT h0 ?_
  conv => whnf
  exact ⟨rfl, hg⟩
theorem err31 {n a m w : Int} (hw : Chk n a w) (h0 : w ≠ 0) (h : Hp) : CallP E 31 [int n, int a, int m] h (fun r h' => r = .tuple ⟨[int 0, int w]⟩ ∧ Grows h h') := by
  refine enter31 (by simp) ?_
  conv => whnf
  refine CallP.mono (check_spec n a h) ?_
  rintro r h1 ⟨⟨e, rfl, he⟩, hg⟩
  have hew := he.uniq hw
  subst hew
  conv => whnf
  refine cmpT h0 ?_
  conv => whnf
  exact ⟨rfl, hg⟩
theorem err32 {n a w : Int} (hw : Chk n a w) (h0 : w ≠ 0) (h : Hp) : CallP E 32 [int n, int a] h (fun r h' => r = .tuple ⟨[int 0, int w]⟩ ∧ Grows h h') := by
  refine enter32 (by simp) ?_
  conv => whnf
  refine CallP.mono (check_spec n a h) ?_
  rintro r h1 ⟨⟨e, rfl, he⟩, hg⟩
  have hew := he.uniq hw
  subst hew
  conv => whnf
  refine cmpT h0 ?_
  conv => whnf
  exact ⟨rfl, hg⟩
theorem err33 {n a m w : Int} (hw : Chk n a w) (h0 : w ≠ 0) (h : Hp) : CallP E 33 [int n, int a, int m] h (fun r h' => r = .tuple ⟨[int 0, int w]⟩ ∧ Grows h h') := by
  refine enter33 (by simp) ?_
  conv => whnf
  refine CallP.mono (check_spec n a h) ?_
  rintro r h1 ⟨⟨e, rfl, he⟩, hg⟩
  have hew := he.uniq hw
  subst hew
  conv => whnf
  refine cmpT h0 ?_
  conv => whnf
  exact ⟨rfl, hg⟩
theorem err34 {n a m w : Int} (hw : Chk n a w) (h0 : w ≠ 0) (h : Hp) : CallP E 34 [int n, int a, int m] h (fun r h' => r = .tuple ⟨[int 0, .bool false, int w]⟩ ∧ Grows h h') := by
  refine enter34 (by simp) ?_
  conv => whnf
  refine CallP.mono (err33 hw h0 h) ?_
  rintro r h1 ⟨rfl, hg⟩
  conv => whnf
  refine cmpT h0 ?_
  conv => whnf
  exact ⟨rfl, hg⟩
/-- The second one is none. -/
theorem log_err {n g a w : Int} (hg0 : Chk n g 0) (hw : Chk n a w) (h0 : w ≠ 0) (h : Hp) : CallP E 30 [int n, int g, int a] h (fun r h' => r = .tuple ⟨[int 0, .bool false, int w]⟩ ∧ Grows h h') := by
  refine enter30 (by simp) ?_
  conv => whnf
  refine CallP.mono (check_spec n g h) ?_
  rintro r h1 ⟨⟨e, rfl, he⟩, hg⟩
  have hew := he.uniq hg0
  subst hew
  conv => whnf
  refine cmpF (by omega) ?_
  conv => whnf
  refine CallP.mono (check_spec n a h1) ?_
  rintro r h2 ⟨⟨e, rfl, he⟩, hg2⟩
  have hew := he.uniq hw
  subst hew
  conv => whnf
  refine cmpT h0 ?_
  conv => whnf
  exact ⟨rfl, hg.trans hg2⟩
theorem unit_spec (n k : Int) (hn : IsMod n) (h : Hp) : CallP E 35 [int n, int k] h (fun r h' => (∃ u, r = int u ∧ IsUnit n u) ∧ h' = h) := by
  have hn1 := hn.1
  have hn2 := hn.2
  have hexn : ∃ m : Nat, n = m := ⟨n.toNat, by omega⟩
  obtain ⟨m, rfl⟩ := hexn
  refine enter35 (by simp) ?_
  conv => whnf
  have hex := u64_of k
  obtain ⟨u, u0, u1, hu⟩ := hex
  refine ⟨u, hu, ?_⟩
  conv => whnf
  refine ⟨(m : Int), u64_id (by omega), ?_⟩
  conv => whnf
  refine ⟨by omega, ?_⟩
  have b1 := tmod_bd u0 (show (0 : Int) < (m : Int) by omega)
  conv => whnf
  refine ⟨_, wid (by omega), ?_⟩
  conv => whnf
  have hexa : ∃ x : Nat, u.tmod (m : Int) = x := ⟨(u.tmod (m : Int)).toNat, by omega⟩
  obtain ⟨x, hx⟩ := hexa
  refine loop_inv (α := Nat) (fun x => [(0, int m), (1, int x)]) (fun _ => h) (fun x => x < m) (fun x => m - x) x (by omega) ⟨rfl, by show int _ = int _; rw [hx], trivial⟩ (Hp.Le.refl _) ?_
  intro y φ hy
  conv => whnf
  refine CallP.mono (refgcd_spec m y (by omega) (by omega) h) ?_
  rintro r h1 ⟨rfl, rfl⟩
  conv => whnf
  refine cmpB (fun hb => ?_) (fun hb => ?_)
  · have hne : y + 1 ≠ m := by
      intro e
      subst e
      apply hb
      have : Nat.gcd (y + 1) y = 1 := by
        rw [Nat.gcd_comm, Nat.gcd_rec y (y + 1)]
        by_cases h1 : y = 0
        · subst h1; simp
        · by_cases h2 : y = 1
          · subst h2; simp
          · rw [Nat.add_mod_left, Nat.mod_eq_of_lt (by omega)]; simp
      rw [this]; rfl
    have hexm : ((y + 1 : Nat) : Int).tmod (m : Int) = ((y + 1 : Nat) : Int) := by rw [tmod_nat, Nat.mod_eq_of_lt (by omega)]
    conv => whnf
    refine ⟨((y + 1 : Nat) : Int), wie (by omega) (by omega), ?_⟩
    conv => whnf
    refine ⟨by omega, ?_⟩
    conv => whnf
    refine Rnd.mk (y + 1) (by show y + 1 < m; omega) (by show m - (y + 1) < m - y; omega) ⟨rfl, ?_, trivial⟩ (Hp.Le.refl _) rfl
    show int (((y + 1 : Nat) : Int).tmod (m : Int)) = int ((y + 1 : Nat) : Int)
    rw [hexm]
  · conv => whnf
    refine ⟨⟨_, rfl, by omega, by omega, ?_⟩, rfl⟩
    rw [Int.toNat_natCast, Int.toNat_natCast]
    omega
end
section
variable [Unknowns]
attribute [local irreducible] SeqP
theorem checks_spec (n : Int) (hn : -9223372036854775808 ≤ n ∧ n < 9223372036854775808) (a : Int) (ha : -9223372036854775808 ≤ a ∧ a < 9223372036854775808) (k : Int) (hk : -9223372036854775808 ≤ k ∧ k < 9223372036854775808) : ∀ h vs, AllIs h vs [.i n, .i a, .i k] → CallP E 3 vs h (fun r _ => r = .bool true) := by
  intro h vs hvs
  match vs, hvs with
  | [_, _, _], hvs =>
  obtain ⟨rfl, rfl, rfl, -⟩ := hvs
  refine enter3 (by simp) ?_
  conv => whnf
  repeat (refine SeqP.go ?_; conv => whnf)
  refine CallP.mono (refcheck_spec n a h) ?_
  rintro r h1 ⟨⟨want, rfl, hw⟩, rfl⟩
  conv => whnf
  repeat (refine SeqP.go ?_; conv => whnf)
  refine CallP.mono (check_spec n a h1) ?_
  rintro r h2 ⟨⟨e, rfl, he⟩, hg2⟩
  have hew := he.uniq hw
  subst hew
  clear he
  conv => whnf
  refine cmpF (by omega) ?_
  conv => whnf
  refine SeqP.cut (α := Unit) (fun _ => [(0, int n), (1, int a), (2, int k), (7, int e)]) (fun _ h' => True) ?_ ?_
  · conv => whnf
    repeat (refine SeqP.go ?_; conv => whnf)
    by_cases hM : IsMod n
    · refine CallP.mono (mod_yes18 hM h2) ?_
      rintro r h3 ⟨rfl, rfl⟩
      conv => whnf
      exact ⟨(), ⟨rfl, rfl, rfl, rfl, trivial⟩, trivial, rfl⟩
    have h1 : e = 1 := hw.1 hM
    subst h1
    refine CallP.mono (mod_no18 hM h2) ?_
    rintro r h3 ⟨rfl, rfl⟩
    conv => whnf
    repeat (refine SeqP.go ?_; conv => whnf)
    refine CallP.mono (err19 hM _) ?_
    rintro r h4 ⟨rfl, rfl⟩
    conv => whnf
    repeat (refine SeqP.go ?_; conv => whnf)
    refine CallP.mono (err20 hM _) ?_
    rintro r h4 ⟨rfl, rfl⟩
    conv => whnf
    repeat (refine SeqP.go ?_; conv => whnf)
    refine CallP.mono (err21 hM _) ?_
    rintro r h4 ⟨rfl, rfl⟩
    conv => whnf
    repeat (refine SeqP.go ?_; conv => whnf)
    refine CallP.mono (err22 hM _) ?_
    rintro r h4 ⟨rfl, rfl⟩
    conv => whnf
    repeat (refine SeqP.go ?_; conv => whnf)
    refine CallP.mono (err23 hM _) ?_
    rintro r h4 ⟨rfl, rfl⟩
    conv => whnf
    repeat (refine SeqP.go ?_; conv => whnf)
    refine CallP.mono (err24 hM _) ?_
    rintro r h4 ⟨rfl, rfl⟩
    conv => whnf
    repeat (refine SeqP.go ?_; conv => whnf)
    refine CallP.mono (err25 hM _) ?_
    rintro r h4 ⟨rfl, rfl⟩
    conv => whnf
    repeat (refine SeqP.go ?_; conv => whnf)
    refine CallP.mono (err26 hM _) ?_
    rintro r h4 ⟨rfl, rfl⟩
    conv => whnf
    repeat (refine SeqP.go ?_; conv => whnf)
    refine CallP.mono (err27 hM _) ?_
    rintro r h4 ⟨rfl, rfl⟩
    conv => whnf
    repeat (refine SeqP.go ?_; conv => whnf)
    refine cmpF (by omega) ?_
    conv => whnf
    refine cmpF (by omega) ?_
    conv => whnf
    refine cmpF (by omega) ?_
    conv => whnf
    refine cmpF (by omega) ?_
    conv => whnf
    refine cmpF (by omega) ?_
    conv => whnf
    refine cmpF (by omega) ?_
    conv => whnf
    refine cmpF (by omega) ?_
    conv => whnf
    refine cmpF (by omega) ?_
    conv => whnf
    refine cmpF (by omega) ?_
    conv => whnf
    refine ⟨_, wid (by omega), ?_⟩
    conv => whnf
    refine ⟨_, wid (by omega), ?_⟩
    conv => whnf
    refine ⟨_, wid (by omega), ?_⟩
    conv => whnf
    refine ⟨_, wid (by omega), ?_⟩
    conv => whnf
    refine ⟨_, wid (by omega), ?_⟩
    conv => whnf
    refine ⟨_, wid (by omega), ?_⟩
    conv => whnf
    refine ⟨_, wid (by omega), ?_⟩
    conv => whnf
    refine ⟨_, wid (by omega), ?_⟩
    conv => whnf
    refine cmpF (by omega) ?_
    conv => whnf
    exact ⟨(), ⟨rfl, rfl, rfl, rfl, trivial⟩, trivial, rfl⟩
  rintro _ φ h3 -
  conv => whnf
  repeat (refine SeqP.go ?_; conv => whnf)
  by_cases h0 : e = 0
  · subst h0
    refine cmpT rfl ?_
    conv => whnf
    repeat (refine SeqP.go ?_; conv => whnf)
    refine memo28 ?_
    conv => whnf
    rfl
  refine cmpF h0 ?_
  conv => whnf
  repeat (refine SeqP.go ?_; conv => whnf)
  refine CallP.mono (err29 hw h0 _) ?_
  rintro r h4 ⟨rfl, -⟩
  conv => whnf
  repeat (refine SeqP.go ?_; conv => whnf)
  refine CallP.mono (err30 hw h0 _) ?_
  rintro r h4 ⟨rfl, -⟩
  conv => whnf
  repeat (refine SeqP.go ?_; conv => whnf)
  refine CallP.mono (err31 hw h0 _) ?_
  rintro r h4 ⟨rfl, -⟩
  conv => whnf
  repeat (refine SeqP.go ?_; conv => whnf)
  refine CallP.mono (err32 hw h0 _) ?_
  rintro r h4 ⟨rfl, -⟩
  conv => whnf
  repeat (refine SeqP.go ?_; conv => whnf)
  refine CallP.mono (err33 hw h0 _) ?_
  rintro r h4 ⟨rfl, -⟩
  conv => whnf
  repeat (refine SeqP.go ?_; conv => whnf)
  refine CallP.mono (err34 hw h0 _) ?_
  rintro r h4 ⟨rfl, -⟩
  conv => whnf
  repeat (refine SeqP.go ?_; conv => whnf)
  refine cmpF (by omega) ?_
  conv => whnf
  refine cmpF (by omega) ?_
  conv => whnf
  refine cmpF (by omega) ?_
  conv => whnf
  refine cmpF (by omega) ?_
  conv => whnf
  refine cmpF (by omega) ?_
  conv => whnf
  refine cmpF (by omega) ?_
  conv => whnf
  refine ⟨_, wid (by omega), ?_⟩
  conv => whnf
  refine ⟨_, wid (by omega), ?_⟩
  conv => whnf
  refine ⟨_, wid (by omega), ?_⟩
  conv => whnf
  refine ⟨_, wid (by omega), ?_⟩
  conv => whnf
  refine ⟨_, wid (by omega), ?_⟩
  conv => whnf
  refine cmpF (by omega) ?_
  conv => whnf
  repeat (refine SeqP.go ?_; conv => whnf)
  by_cases hM : IsMod n
  rotate_left
  · refine CallP.mono (mod_no18 hM _) ?_
    rintro r h5 ⟨rfl, rfl⟩
    conv => whnf
    repeat (refine SeqP.go ?_; conv => whnf)
    refine memo28 ?_
    conv => whnf
    rfl
  refine CallP.mono (mod_yes18 hM _) ?_
  rintro r h5 ⟨rfl, rfl⟩
  conv => whnf
  repeat (refine SeqP.go ?_; conv => whnf)
  refine CallP.mono (unit_spec n k hM _) ?_
  rintro r h6 ⟨⟨u, rfl, hu⟩, rfl⟩
  have hu0 : Chk n u 0 := ⟨fun h => absurd hM h, fun _ h => absurd hu h, fun _ _ => rfl⟩
  have e70 : e = 70 := by
    by_cases hU : IsUnit n a
    · exact absurd (hw.2.2 hM hU) h0
    · exact hw.2.1 hM hU
  subst e70
  conv => whnf
  repeat (refine SeqP.go ?_; conv => whnf)
  refine CallP.mono (log_err hu0 hw (by omega) _) ?_
  rintro r h7 ⟨rfl, -⟩
  conv => whnf
  repeat (refine SeqP.go ?_; conv => whnf)
  refine cmpT rfl ?_
  conv => whnf
  refine cmpT rfl ?_
  conv => whnf
  refine memo28 ?_
  conv => whnf
  rfl
end
end Go.Proofs.Ytlcnmneildefmaa
