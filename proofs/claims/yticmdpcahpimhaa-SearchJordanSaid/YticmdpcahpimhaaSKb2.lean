/- Contracts of the functions that SJorZ comes to. -/
import Derived.Test.YticmdpcahpimhaaSKb1
import Derived.Test.YticmdpcahpimhaaWx21
set_option maxRecDepth 100000
set_option maxHeartbeats 1000000
set_option linter.unusedVariables false
set_option linter.unusedSectionVars false
set_option linter.unusedSimpArgs false
namespace Go.Proofs.Yticmdpcahpimhaa
open Go.Rx Go.RowKit Go.Comp
theorem ty106 : ∃ i, E.ty 106 = some i ∧ i.desc = .map 3 85 := by
  have hs : (tiOf Try.prog 106).isSome = true := by kernel_rfl
  refine ⟨(tiOf Try.prog 106).get hs, ty_get (by kernel_rfl) (Option.some_get hs).symm, ?_⟩
  kernel_rfl
theorem ty3 : ∃ i, E.ty 3 = some i ∧ isI64 i.desc = true := by
  have hs : (tiOf Try.prog 3).isSome = true := by kernel_rfl
  refine ⟨(tiOf Try.prog 3).get hs, ty_get (by kernel_rfl) (Option.some_get hs).symm, ?_⟩
  kernel_rfl
theorem ty85z : ∃ i, E.ty 85 = some i ∧ i.agg = true ∧ i.size = 2 ∧ i.zero = some (pairV (0, 0)) := by
  have hs : (tiOf Try.prog 85).isSome = true := by kernel_rfl
  refine ⟨(tiOf Try.prog 85).get hs, ty_get (by kernel_rfl) (Option.some_get hs).symm, ?_, ?_, ?_⟩
  · kernel_rfl
  · kernel_rfl
  · kernel_rfl
theorem keyS : KeyTy E 3 (fun n : Int => int n) := by
  obtain ⟨i, hi, hd⟩ := ty3
  exact keyInt hi hd
abbrev encI : Int → Value := fun n : Int => int n
/-- What the known choices are. -/
def KOk (A : Comp.Rel) (n : Nat) (f : Int → Option Value) : Prop := ∀ s v, f s = some v → ∃ S : Nat, s = (S : Int) ∧ S < 2 ^ n ∧ v = pairV (B A n S)
def KM (A : Comp.Rel) (n : Nat) (h : Hp) (km : Nat) : Prop := ∃ f c, MapAt h km encI f c ∧ KOk A n f
/-- All but what is known stays. -/
structure GM (km : Nat) (h h' : Hp) : Prop where
  next : h.next ≤ h'.next
  at_ : ∀ r o, r ≠ km → h.at r = some o → h'.at r = some o
theorem GM.refl (km : Nat) (h : Hp) : GM km h h := ⟨Nat.le_refl _, fun _ _ _ e => e⟩
theorem GM.trans {km : Nat} {a b c : Hp} (x : GM km a b) (y : GM km b c) : GM km a c := ⟨Nat.le_trans x.next y.next, fun r o hr e => y.at_ r o hr (x.at_ r o hr e)⟩
theorem GM.of {km : Nat} {h h' : Hp} (g : Grows h h') : GM km h h' := ⟨g.next, fun r o _ e => g.at_ r o e⟩
theorem GM.then_set {km : Nat} {h h' : Hp} (x : GM km h h') {r : Nat} (o : Rx.Obj) (hr : h.next ≤ r) : GM km h (h'.set r o) := ⟨x.next, fun k o' hk e => by
  have l := Hp.lt_of_at e
  rw [Hp.at_set_ne o (by omega)]
  exact x.at_ k o' hk e⟩
theorem GM.of_keeps {km : Nat} {h h' : Hp} (g : Keeps km h h') : GM km h h' := ⟨by rw [g.next]; omega, fun r o hr e => g.at_ r o hr e⟩
theorem KM.ext {A : Comp.Rel} {n : Nat} {h h' : Hp} {km : Nat} (g : Grows h h') (k : KM A n h km) : KM A n h' km := by
  obtain ⟨f, c, h1, h2⟩ := k
  exact ⟨f, c, h1.ext g, h2⟩
theorem KM.set {A : Comp.Rel} {n : Nat} {h : Hp} {km r : Nat} (k : KM A n h km) (o : Rx.Obj) (hr : r ≠ km) : KM A n (h.set r o) km := by
  obtain ⟨f, c, h1, h2⟩ := k
  exact ⟨f, c, h1.of_at fun o' e => by rw [Hp.at_set_ne _ (fun x => hr x.symm)]; exact e, h2⟩
attribute [local irreducible] E idxN cellAt cellsAt storeAt callable helems hmoved lookIn findKey keyOk hentries Hp.at Hp.set Hp.lay arBits hupdated setAt CallP YieldP BoolOf IsWrap Rnd LoopP AppP CutP Int.tmod Int.tdiv Int.fdiv
section
variable [Unknowns]
attribute [local irreducible] ResP sameAt natI tv
theorem without_spec {n : Nat} {P : List (Int × Int)} {near : Nat → Nat} (hT : TreeOk n P near) (S v : Nat) (hS : S < 2 ^ n) (hv : v < 10) (h : Hp) : CallP E 86 [.agg ⟨tv n near⟩, int S, int v] h (fun r h' => ∃ l : List Nat, IsParts (adj P) (less S (2 ^ v)) l ∧ Built h h' 3 r (natI l) ∧ Grows h h') := by
  have hn := hT.n1
  have hpn : 2 ^ n ≤ 2 ^ 10 := Nat.pow_le_pow_right (by omega) hn
  have hpv : 2 ^ v ≤ 2 ^ 10 := Nat.pow_le_pow_right (by omega) (by omega)
  have ea := bits_andNot (a := S) (b := 2 ^ v) (by omega) (by omega)
  have hl := less_lt (b := 2 ^ v) hS
  have hg0 : Grows h (h.lay (.row 102 true (tv n near))) := Grows.lay _ _
  refine enter86 (by simp) ?_
  conv => whnf
  repeat (refine SeqP.go ?_; conv => whnf)
  refine ⟨tv n near, by rw [cellsAt_row (Hp.at_lay_self _ _) (by rw [tv_length]; omega), List.drop_zero, List.take_of_length_le (by rw [tv_length]; omega)], ?_⟩
  conv => whnf
  refine ⟨by omega, ((2 ^ v : Nat) : Int), shl_one (by omega), ?_⟩
  conv => whnf
  have key : ∀ w, w = int (less S (2 ^ v) : Nat) → CallP E 90 [.agg ⟨tv n near⟩, w] (h.lay (.row 102 true (tv n near))) (fun r h' => ∃ l : List Nat, IsParts (adj P) (less S (2 ^ v)) l ∧ Built (h.lay (.row 102 true (tv n near))) h' 3 r (natI l) ∧ Grows (h.lay (.row 102 true (tv n near))) h') := by
    intro w e
    subst e
    exact parts_spec hT _ hl _
  refine CallP.mono (key _ (congrArg int ea)) ?_
  rintro r h1 ⟨l, hl1, hb, hg⟩
  have hbi := hb.ints
  obtain ⟨a, c, rfl, -⟩ := hbi
  conv => whnf
  repeat (refine SeqP.go ?_; conv => whnf)
  exact ⟨l, hl1, hb.back (by simp only [Hp.next_lay]; omega), hg0.trans hg⟩
end
end Go.Proofs.Yticmdpcahpimhaa
