/- Contracts of the functions that PKE comes to. -/
import Derived.Test.YtpiplaicnbapbaaCodePKE
import Derived.Test.YtpiplaicnbapbaaWx12
import Derived.Test.YtpiplaicnbapbaaWx13
import Derived.Test.YtpiplaicnbapbaaWx14
import Derived.Test.YtpiplaicnbapbaaWx16
import Derived.Test.YtpiplaicnbapbaaWx18
import Derived.Test.YtpiplaicnbapbaaWx22
import Derived.Test.YtpiplaicnbapbaaWx23
import Derived.Test.YtpiplaicnbapbaaWx24
import Derived.Test.YtpiplaicnbapbaaTAwake
set_option maxRecDepth 100000
set_option maxHeartbeats 2000000
set_option linter.unusedVariables false
set_option linter.unusedSectionVars false
set_option linter.unusedSimpArgs false
namespace Go.Proofs.Ytpiplaicnbapbaa
open Go.Rx Go.RowKit
attribute [local irreducible] E idxN cellAt cellsAt storeAt callable helems hmoved lookIn findKey keyOk hentries Hp.at Hp.set Hp.lay arBits hupdated setAt CallP YieldP BoolOf IsWrap Rnd LoopP AppP CutP Int.tmod Int.tdiv Int.fdiv
section
variable [Unknowns]
theorem within_spec (low high : Int) (v : Value) (l : List Int) (h : Hp) (hv : Ints h v l) (hl : l.length ≤ 1000000) : CallP E 60 [int low, int high, v] h (fun r h' => r = .bool (decide (∀ x ∈ l, low ≤ x ∧ x ≤ high)) ∧ h' = h) := by
  obtain ⟨a, cap, rfl, hc⟩ := hv
  refine enter60 (by simp) ?_
  ((conv => whnf); repeat (refine SeqP.go ?_; conv => whnf))
  refine loop_inv (α := Nat) (fun k => [(11, int k), (10, int l.length), (9, .slice a l.length cap), (0, int low), (1, int high)]) (fun _ => h) (fun k => k ≤ l.length ∧ ∀ j, (hj : j < k) → (hj2 : j < l.length) → low ≤ l[j] ∧ l[j] ≤ high) (fun k => l.length - k) 0 ⟨by omega, fun j hj => by omega⟩ ⟨rfl, rfl, rfl, rfl, rfl, trivial⟩ (Hp.Le.refl _) ?_
  rintro k φ ⟨hk, hin⟩
  ((conv => whnf); repeat (refine SeqP.go ?_; conv => whnf))
  rintro (_|_) hb
  · have hb := hb.f
    ((conv => whnf); repeat (refine SeqP.go ?_; conv => whnf))
    refine ⟨?_, rfl⟩
    have : (∀ x ∈ l, low ≤ x ∧ x ≤ high) := by
      intro x hx
      obtain ⟨j, hj, rfl⟩ := List.getElem_of_mem hx
      exact hin j (by omega) hj
    rw [decide_eq_true this]; rfl
  · have hb := hb.t
    have hk' : k < l.length := by omega
    obtain ⟨r, o, sp, rfl, hsp, hcell⟩ := hc k hk'
    have no : ¬ (low ≤ l[k] ∧ l[k] ≤ high) → ¬ (∀ x ∈ l, low ≤ x ∧ x ≤ high) := fun h1 h2 => h1 (h2 _ (List.getElem_mem hk'))
    ((conv => whnf); repeat (refine SeqP.go ?_; conv => whnf))
    repeat (first | (refine cmpT (by omega) ?_; ((conv => whnf); repeat (refine SeqP.go ?_; conv => whnf))) | (refine cmpF (by omega) ?_; ((conv => whnf); repeat (refine SeqP.go ?_; conv => whnf))) | (refine ⟨_, wid (by omega), ?_⟩; ((conv => whnf); repeat (refine SeqP.go ?_; conv => whnf))) | (refine ⟨⟨by omega, by omega⟩, ?_⟩; ((conv => whnf); repeat (refine SeqP.go ?_; conv => whnf))) | (refine ⟨by omega, ?_⟩; ((conv => whnf); repeat (refine SeqP.go ?_; conv => whnf))) | (refine ⟨_, by assumption, ?_⟩; ((conv => whnf); repeat (refine SeqP.go ?_; conv => whnf))) | (refine ⟨by assumption, ?_⟩; ((conv => whnf); repeat (refine SeqP.go ?_; conv => whnf))))
    rintro (_|_) hb1
    · have hb1 := hb1.f
      ((conv => whnf); repeat (refine SeqP.go ?_; conv => whnf))
      rintro (_|_) hb2
      · have hb2 := hb2.f
        ((conv => whnf); repeat (refine SeqP.go ?_; conv => whnf))
        repeat (first | (refine cmpT (by omega) ?_; ((conv => whnf); repeat (refine SeqP.go ?_; conv => whnf))) | (refine cmpF (by omega) ?_; ((conv => whnf); repeat (refine SeqP.go ?_; conv => whnf))) | (refine ⟨_, wid (by omega), ?_⟩; ((conv => whnf); repeat (refine SeqP.go ?_; conv => whnf))) | (refine ⟨⟨by omega, by omega⟩, ?_⟩; ((conv => whnf); repeat (refine SeqP.go ?_; conv => whnf))) | (refine ⟨by omega, ?_⟩; ((conv => whnf); repeat (refine SeqP.go ?_; conv => whnf))) | (refine ⟨_, by assumption, ?_⟩; ((conv => whnf); repeat (refine SeqP.go ?_; conv => whnf))) | (refine ⟨by assumption, ?_⟩; ((conv => whnf); repeat (refine SeqP.go ?_; conv => whnf))))
        refine Rnd.mk (k + 1) ⟨by omega, fun j hj hj2 => ?_⟩ (by omega) ⟨rfl, rfl, rfl, rfl, rfl, trivial⟩ (Hp.Le.refl _) rfl
        by_cases e : j = k
        · subst e; omega
        · exact hin j (by omega) hj2
      · have hb2 := hb2.t
        ((conv => whnf); repeat (refine SeqP.go ?_; conv => whnf))
        exact ⟨by rw [decide_eq_false (no (by omega))]; rfl, rfl⟩
    · have hb1 := hb1.t
      ((conv => whnf); repeat (refine SeqP.go ?_; conv => whnf))
      exact ⟨by rw [decide_eq_false (no (by omega))]; rfl, rfl⟩
theorem few_spec (v : Value) (l : List Int) (h : Hp) (hv : View h v l) (hl : l.length < 9223372036854775808) (most : Nat) (hm : most ≤ 100000) : CallP E 19 [v, int most] h (fun r h' => Built h h' 3 r (l.take most) ∧ Grows h h') := by
  obtain ⟨a, c, rfl⟩ := hv.known
  refine enter19 (by simp) ?_
  ((conv => whnf); repeat (refine SeqP.go ?_; conv => whnf))
  refine CutP.ints (i := 0) (j := min l.length most) hv ⟨.inl ⟨rfl, rfl⟩, .inr ?_⟩ (by omega) (by omega) ?_
  · conv => lhs; arg 1; whnf
    refine congrArg (fun n => some (Value.int .i64 n)) ?_
    split <;> omega
  intro v' hv' _ _
  ((conv => whnf); repeat (refine SeqP.go ?_; conv => whnf))
  refine AppP.ints (h0 := h) (.inl ⟨rfl, rfl⟩) (.refl _) hv'.elems (by simp; omega) ?_
  intro v2 h2 hb hg _
  have e : [] ++ ((l.drop 0).take (min l.length most - 0)) = l.take most := by
    rw [List.nil_append, List.drop_zero, Nat.sub_zero]
    by_cases hml : most ≤ l.length
    · rw [Nat.min_eq_right hml]
    · rw [Nat.min_eq_left (by omega), List.take_of_length_le (Nat.le_refl _), List.take_of_length_le (by omega)]
  rw [e] at hb
  have hb' := hb
  rcases hb' with ⟨rfl, _⟩ | ⟨r, rfl, _, _⟩ <;> ((((conv => whnf); repeat (refine SeqP.go ?_; conv => whnf))); exact ⟨hb, hg⟩)
end
end Go.Proofs.Ytpiplaicnbapbaa
namespace Go.Proofs.Ytpiplaicnbapbaa
open Go.Rx Go.RowKit
def Cnt (l : List Int) (m : Int) : Prop := (l.length : Int) = m ∧ (∀ x ∈ l, 0 ≤ x ∧ x ≤ 9) ∧ 1 ≤ l.sum ∧ l.sum ≤ 9
theorem bo_yes {p : Prop} (h : p) : BoolOf true p := ⟨fun _ => h, fun _ => rfl⟩
theorem bo_no {p : Prop} (h : ¬ p) : BoolOf false p := ⟨fun e => (by cases e), fun hp => absurd hp h⟩
theorem bo_same {a b : Bool} {p : Prop} (h : BoolOf a p) (k : BoolOf b p) : a = b := by
  have e := h.trans k.symm
  cases a <;> cases b <;> simp_all
end Go.Proofs.Ytpiplaicnbapbaa
namespace Go.Proofs.Ytpiplaicnbapbaa
open Go.Rx Go.RowKit
structure Q4 where
  a : Int
  b : Int
  c : Int
  d : Int
def flat4 : List Q4 → List Int
  | [] => []
  | q :: l => q.a :: q.b :: q.c :: q.d :: flat4 l
theorem flat4_len : ∀ l : List Q4, (flat4 l).length = l.length * 4
  | [] => rfl
  | q :: l => by show (flat4 l).length + 1 + 1 + 1 + 1 = (l.length + 1) * 4; rw [flat4_len l]; omega
theorem flat4_app : ∀ l m : List Q4, flat4 (l ++ m) = flat4 l ++ flat4 m
  | [], _ => rfl
  | q :: l, m => by show _ :: _ :: _ :: _ :: flat4 (l ++ m) = _; rw [flat4_app l m]; rfl
theorem flat4_drop : ∀ (l : List Q4) (k : Nat) (h : k < l.length), ((flat4 l).drop (k * 4)).take 4 = [l[k].a, l[k].b, l[k].c, l[k].d]
  | [], k, h => by simp at h
  | q :: l, 0, h => by simp [flat4]
  | q :: l, k + 1, h => by
    have := flat4_drop l k (by simp at h; omega)
    rw [show (k + 1) * 4 = k * 4 + 1 + 1 + 1 + 1 by omega]
    simpa [flat4] using this
structure Prot where
  n : Int
  out : List Int
  start : List Int
  rules : List Q4
def bare0 : Hp := ⟨0, fun _ => none⟩
abbrev LV (h : Hp) (v : Value) (l : List Int) : Prop := Built bare0 h 3 v l
abbrev RV (h : Hp) (v : Value) (R : List Q4) : Prop := BuiltC bare0 h 96 4 v R.length ((flat4 R).map int)
theorem LV.of {h0 h : Hp} {v : Value} {l : List Int} (k : Built h0 h 3 v l) : LV h v l := k.back (Nat.zero_le _)
theorem RV.of {h0 h : Hp} {v : Value} {R : List Q4} (k : BuiltC h0 h 96 4 v R.length ((flat4 R).map int)) : RV h v R := k.back (Nat.zero_le _)
theorem RV.cells {h : Hp} {v : Value} {R : List Q4} (k : RV h v R) : ∃ a, v = .slice a R.length R.length ∧ ∀ j, (hj : j < R.length) → ∃ r, a = some ⟨r, 0, none⟩ ∧ cellsAt h r (j * 4) 4 = some [int R[j].a, int R[j].b, int R[j].c, int R[j].d] := by
  obtain ⟨a, e, hc⟩ := k.slice
  refine ⟨a, e, fun j hj => ?_⟩
  obtain ⟨r, e2, x, hr⟩ := hc j hj
  refine ⟨r, e2, ?_⟩
  rw [cellsAt_row hr (by rw [List.length_map, flat4_len]; omega), ← List.map_drop, ← List.map_take, flat4_drop R j hj]
  rfl
theorem RV.one {h : Hp} {v : Value} {R : List Q4} (k : RV h v R) : ElemsC h 4 v R.length ((flat4 R).map int) := k.elems (ints_one _)
def pval (n : Int) (vo vs vr : Value) : Value := .agg ⟨[int n, vo, vs, vr]⟩
def PV (h : Hp) (v : Value) (p : Prot) : Prop := ∃ vo vs vr, v = pval p.n vo vs vr ∧ LV h vo p.out ∧ LV h vs p.start ∧ RV h vr p.rules
theorem PV.ext {h h' : Hp} {v : Value} {p : Prot} (g : Grows h h') (k : PV h v p) : PV h' v p := by
  obtain ⟨a, b, c, e, h1, h2, h3⟩ := k
  exact ⟨a, b, c, e, h1.ext g, h2.ext g, h3.ext g⟩
theorem ty25 : ∃ i, E.ty 25 = some i ∧ i.agg = true ∧ i.size = 4 := by
  have hs : (tiOf Try.prog 25).isSome = true := by kernel_rfl
  refine ⟨(tiOf Try.prog 25).get hs, ty_get (by kernel_rfl) (Option.some_get hs).symm, ?_, ?_⟩ <;> kernel_rfl
theorem ty26 : ∃ i, E.ty 26 = some i ∧ i.agg = true ∧ i.size = 4 := by
  have hs : (tiOf Try.prog 26).isSome = true := by kernel_rfl
  refine ⟨(tiOf Try.prog 26).get hs, ty_get (by kernel_rfl) (Option.some_get hs).symm, ?_, ?_⟩ <;> kernel_rfl
theorem four_cells {H : Hp} {r e : Nat} {x : Bool} {a b c d : Value} (hr : H.at r = some (.row e x [a, b, c, d])) : cellsAt H r 0 4 = some [a, b, c, d] := by
  rw [cellsAt_row hr (by simp)]; rfl
theorem LV.known {h : Hp} {v : Value} {l : List Int} (k : LV h v l) : ∃ a, v = .slice a l.length l.length := by
  rcases k with ⟨rfl, rfl⟩ | ⟨r, rfl, _⟩
  · exact ⟨none, rfl⟩
  · exact ⟨_, rfl⟩
theorem at_nx2 {h : Hp} {r r' : Nat} {o : Rx.Obj} (e : r = r') (k : h.at r = some o) : h.at r' = some o := e ▸ k
theorem built_set_lt {h0 h : Hp} {e : TypeId} {v : Value} {l : List Int} {r : Nat} {o : Rx.Obj} (k : Built h0 h e v l) (hr : r < h0.next) : Built h0 (h.set r o) e v l := by
  rcases k with h1 | ⟨r', rfl, h2, x, hr'⟩
  · exact .inl h1
  · exact .inr ⟨r', rfl, h2, x, by rw [Hp.at_set_ne _ (by omega)]; exact hr'⟩
theorem builtC_set_lt {h0 h : Hp} {e : TypeId} {s n : Nat} {v : Value} {cs : List Value} {r : Nat} {o : Rx.Obj} (k : BuiltC h0 h e s v n cs) (hr : r < h0.next) : BuiltC h0 (h.set r o) e s v n cs := by
  obtain ⟨hl, k⟩ := k
  refine ⟨hl, ?_⟩
  rcases k with h1 | ⟨r', e1, h2, x, hr'⟩
  · exact .inl h1
  · exact .inr ⟨r', e1, h2, x, by rw [Hp.at_set_ne _ (by omega)]; exact hr'⟩
theorem sameV_ptr3 (a b : Nat) : sameV 4 (ptr a b) (ptr a b) = true := by simp [sameV, ptr]
end Go.Proofs.Ytpiplaicnbapbaa
namespace Go.Proofs.Ytpiplaicnbapbaa
open Go.Rx Go.RowKit
def QLess (x y : Q4) : Prop := x.a < y.a ∨ x.a = y.a ∧ x.b < y.b
def QIn (n : Int) (x : Q4) : Prop := (0 ≤ x.a ∧ x.a ≤ n - 1) ∧ (0 ≤ x.b ∧ x.b ≤ n - 1) ∧ (0 ≤ x.c ∧ x.c ≤ n - 1) ∧ (0 ≤ x.d ∧ x.d ≤ n - 1)
def RuleOk (n : Int) (R : List Q4) (k : Nat) (hk : k < R.length) : Prop := QIn n R[k] ∧ R[k].a ≤ R[k].b ∧ ∀ h0 : 0 < k, QLess (R[k - 1]'(by omega)) R[k]
def ROk (n : Int) (R : List Q4) (m : Nat) : Prop := ∀ k, (hk : k < R.length) → k < m → RuleOk n R k hk
structure POk (p : Prot) : Prop where
  n1 : 1 ≤ p.n
  n5 : p.n ≤ 5
  outl : (p.out.length : Int) = p.n
  outs : ∀ x ∈ p.out, 0 ≤ x ∧ x ≤ 1
  st1 : 1 ≤ p.start.length
  st2 : p.start.length ≤ 2
  sts : ∀ x ∈ p.start, 0 ≤ x ∧ x ≤ p.n - 1
  rl : p.rules.length ≤ 15
  rs : ROk p.n p.rules p.rules.length
def PChk (p : Prot) (e : Int) : Prop := (POk p → e = 0) ∧ (¬ POk p → e = 60)
theorem PChk.bad {p : Prot} (h : ¬ POk p) : PChk p 60 := ⟨fun k => absurd k h, fun _ => rfl⟩
end Go.Proofs.Ytpiplaicnbapbaa
namespace Go.Proofs.Ytpiplaicnbapbaa
open Go.Rx Go.RowKit
def RI (h : Hp) (v : Value) (R : List Q4) : Prop := ∃ a c, v = .slice a R.length c ∧ ∀ j, (hj : j < R.length) → ∃ r o, a = some ⟨r, o, none⟩ ∧ cellsAt h r (j * 4 + o) 4 = some [int R[j].a, int R[j].b, int R[j].c, int R[j].d]
theorem RI.ext {h h' : Hp} {v : Value} {R : List Q4} (g : Grows h h') (k : RI h v R) : RI h' v R := by
  obtain ⟨a, c, e, hc⟩ := k
  exact ⟨a, c, e, fun j hj => let ⟨r, o, e1, e2⟩ := hc j hj; ⟨r, o, e1, g.cells e2⟩⟩
def PI (h : Hp) (v : Value) (p : Prot) : Prop := ∃ vo vs vr, v = pval p.n vo vs vr ∧ Ints h vo p.out ∧ Ints h vs p.start ∧ RI h vr p.rules
structure PM (H0 H : Hp) (D : Nat) (cs : List Value) : Prop where
  next : H0.next ≤ H.next
  at_ : ∀ r o, r < H0.next → r ≠ D → H0.at r = some o → H.at r = some o
  dat : H.at D = some (.row 26 true cs)
theorem PM.start {H0 : Hp} {D : Nat} {cs : List Value} (h : H0.at D = some (.row 26 true cs)) : PM H0 H0 D cs := ⟨Nat.le_refl _, fun _ _ _ _ e => e, h⟩
theorem PM.ext {H0 H H' : Hp} {D : Nat} {cs : List Value} (k : PM H0 H D cs) (g : Grows H H') : PM H0 H' D cs := ⟨Nat.le_trans k.next g.next, fun r o h1 h2 e => g.at_ _ _ (k.at_ r o h1 h2 e), g.at_ _ _ k.dat⟩
theorem PM.grows {h H0 H : Hp} {D : Nat} {cs : List Value} (k : PM H0 H D cs) (g : Grows h H0) (hD : h.next ≤ D) : Grows h H := ⟨Nat.le_trans g.next k.next, fun r o e => by
  have := Hp.lt_of_at e
  have := g.next
  exact k.at_ r o (by omega) (by omega) (g.at_ _ _ e)⟩
def tri (n : Nat) : Nat → Nat
  | 0 => 0
  | a + 1 => tri n a + (n - a)
theorem tri_le : ∀ n, n ≤ 5 → tri n n ≤ 15 := by decide
structure RUp (n a b : Nat) (R : List Q4) : Prop where
  ok : ∀ x ∈ R, QIn n x ∧ x.a ≤ x.b ∧ (x.a < a ∨ x.a = a ∧ x.b < b)
  sorted : R.Pairwise QLess
  len : R.length ≤ tri n a + (b - a)
theorem RUp.start (n : Nat) : RUp n 0 0 [] := ⟨fun x h => by simp at h, List.Pairwise.nil, Nat.zero_le _⟩
theorem RUp.skip {n a b : Nat} {R : List Q4} (h : RUp n a b R) (hab : a ≤ b) : RUp n a (b + 1) R := ⟨fun x hx => by have := h.ok x hx; exact ⟨this.1, this.2.1, by omega⟩, h.sorted, by have := h.len; omega⟩
theorem RUp.turn {n a : Nat} {R : List Q4} (h : RUp n a n R) (ha : a < n) : RUp n (a + 1) (a + 1) R := ⟨fun x hx => by
  have := h.ok x hx
  exact ⟨this.1, this.2.1, by omega⟩, h.sorted, by have := h.len; show R.length ≤ tri n a + (n - a) + _; omega⟩
theorem RUp.add {n a b : Nat} {R : List Q4} (h : RUp n a b R) (hab : a ≤ b) (hb : b < n) {c d : Int} (hc : 0 ≤ c ∧ c < n) (hd : 0 ≤ d ∧ d < n) : RUp n a (b + 1) (R ++ [⟨a, b, c, d⟩]) := by
  refine ⟨fun x hx => ?_, ?_, ?_⟩
  · rcases List.mem_append.1 hx with hx | hx
    · have := h.ok x hx; exact ⟨this.1, this.2.1, by omega⟩
    · rw [List.mem_singleton.1 hx]
      refine ⟨⟨?_, ?_, ?_, ?_⟩, ?_, ?_⟩ <;> dsimp only <;> omega
  · refine List.pairwise_append.2 ⟨h.sorted, List.pairwise_singleton _ _, fun x hx y hy => ?_⟩
    rw [List.mem_singleton.1 hy]
    have := (h.ok x hx).2.2
    unfold QLess
    dsimp only
    omega
  · have := h.len
    rw [List.length_append, List.length_singleton]
    omega
theorem RUp.done {n : Nat} {R : List Q4} (h : RUp n n n R) (hn : n ≤ 5) : R.length ≤ 15 ∧ ROk n R R.length := by
  have := h.len
  have := tri_le n hn
  refine ⟨by omega, fun k hk _ => ?_⟩
  have h1 := h.ok _ (List.getElem_mem hk)
  exact ⟨h1.1, h1.2.1, fun h0 => List.pairwise_iff_getElem.1 h.sorted (k - 1) k (by omega) hk (by omega)⟩
end Go.Proofs.Ytpiplaicnbapbaa
namespace Go.Proofs.Ytpiplaicnbapbaa
open Go.Rx Go.RowKit
theorem len_snoc {l : List Int} {k : Nat} (h : l.length = k) (x : Int) : (l ++ [x]).length = k + 1 := by rw [List.length_append, h]; rfl
theorem all_snoc {p : Int → Prop} {l : List Int} (h : ∀ x ∈ l, p x) {y : Int} (hy : p y) : ∀ x ∈ l ++ [y], p x := fun x hx => by
  rcases List.mem_append.1 hx with h1 | h1
  · exact h x h1
  · rw [List.mem_singleton.1 h1]; exact hy
end Go.Proofs.Ytpiplaicnbapbaa
namespace Go.Proofs.Ytpiplaicnbapbaa
open Go.Rx Go.RowKit
theorem sum_zero : ∀ {l : List Int}, (∀ x ∈ l, 0 ≤ x) → l.sum = 0 → ∀ x ∈ l, x = 0
  | [], _, _ => by simp
  | y :: l, h, e => by
    have h1 := h y (by simp)
    have h2 : 0 ≤ l.sum := (by
      have : ∀ l : List Int, (∀ x ∈ l, 0 ≤ x) → 0 ≤ l.sum := by
        intro l
        induction l with
        | nil => intro _; simp
        | cons z l ih => intro hz; have := ih fun x hx => hz x (by simp [hx]); have := hz z (by simp); simp; omega
      exact this l fun x hx => h x (by simp [hx]))
    simp at e
    have h3 := sum_zero (l := l) (fun x hx => h x (by simp [hx])) (by omega)
    intro x hx
    rcases List.mem_cons.1 hx with rfl | hx
    · omega
    · exact h3 x hx
theorem sum_nn : ∀ {l : List Int}, (∀ x ∈ l, 0 ≤ x) → 0 ≤ l.sum
  | [], _ => by simp
  | y :: l, h => by have h1 := h y (by simp); have h2 := sum_nn (l := l) fun x hx => h x (by simp [hx]); simp; omega
theorem sum_le_of : ∀ {l : List Int}, (∀ x ∈ l, 0 ≤ x) → ∀ x ∈ l, x ≤ l.sum
  | [], _ => by simp
  | y :: l, h => by
    intro x hx
    have h1 := h y (by simp)
    have h2 := sum_nn (l := l) fun x hx => h x (by simp [hx])
    rcases List.mem_cons.1 hx with rfl | hx
    · simp; omega
    · have := sum_le_of (l := l) (fun x hx => h x (by simp [hx])) x hx
      simp; omega
attribute [local irreducible] E idxN cellAt cellsAt storeAt callable helems hmoved lookIn findKey keyOk hentries Hp.at Hp.set Hp.lay arBits hupdated setAt CallP YieldP BoolOf IsWrap Rnd LoopP AppP CutP Int.tmod Int.tdiv Int.fdiv
section
variable [Unknowns]
attribute [local irreducible] ResP sameAt
theorem gathered_spec (v : Value) (l : List Int) (h : Hp) (hv : Ints h v l) (hl : l.length < 9223372036854775808) (many most : Nat) (hm1 : 1 ≤ many) (hm : many ≤ 5) (ho1 : 1 ≤ most) (ho : most ≤ 9) : CallP E 35 [v, int many, int most] h (fun r h' => ∃ c : List Int, Built h h' 3 r c ∧ c.length = many ∧ (∀ x ∈ c, 0 ≤ x) ∧ 1 ≤ c.sum ∧ c.sum ≤ most ∧ Grows h h') := by
  obtain ⟨av, cp, rfl, hcell⟩ := id hv
  refine enter35 (by simp) ?_
  conv => whnf
  refine SeqP.go ?_
  conv => whnf
  refine SeqP.go ?_
  conv => whnf
  refine SeqP.go ?_
  conv => whnf
  refine SeqP.cut (α := Value × List Int × Int) (fun s => [(7, s.1), (8, int s.2.2), (2, int most)]) (fun s H => Built h H 3 s.1 s.2.1 ∧ s.2.1.length = many ∧ (∀ x ∈ s.2.1, 0 ≤ x) ∧ s.2.2 + s.2.1.sum = most ∧ 0 ≤ s.2.2 ∧ Grows h H) ?_ ?_
  · conv => whnf
    repeat (refine SeqP.go ?_; conv => whnf)
    refine loop_inv (α := Nat × Value × List Int × Int × Hp) (fun s => [(9, int s.1), (7, s.2.1), (8, int s.2.2.2.1), (0, .slice av l.length cp), (1, int many), (2, int most)]) (fun s => s.2.2.2.2) (fun s => s.1 ≤ many ∧ Built h s.2.2.2.2 3 s.2.1 s.2.2.1 ∧ s.2.2.1.length = s.1 ∧ (∀ x ∈ s.2.2.1, 0 ≤ x) ∧ s.2.2.2.1 + s.2.2.1.sum = most ∧ 0 ≤ s.2.2.2.1 ∧ Grows h s.2.2.2.2) (fun s => many - s.1) (0, .slice none 0 0, [], (most : Int), h) ⟨Nat.zero_le _, .inl ⟨rfl, rfl⟩, rfl, by simp, by simp, by show (0 : Int) ≤ most; omega, .refl _⟩ ⟨rfl, rfl, rfl, rfl, rfl, rfl, trivial⟩ (Hp.Le.refl _) ?_
    rintro ⟨k, w, c, left, H⟩ φ ⟨hk, hb, hcl, hnn, hsum, hle, hg⟩
    dsimp only at hk hb hcl hnn hsum hle hg ⊢
    have hcs := sum_nn hnn
    conv => whnf
    repeat (refine SeqP.go ?_; conv => whnf)
    refine cmpB (fun hb1 => ?_) (fun hb1 => ?_)
    rotate_left
    · conv => whnf
      exact ⟨(w, c, left), ⟨rfl, rfl, rfl, trivial⟩, ⟨hb, by show c.length = many; omega, hnn, hsum, hle, hg⟩, rfl⟩
    conv => whnf
    refine SeqP.cut (α := Value × List Int × Int × Hp) (fun s => [(9, int k), (7, s.1), (8, int s.2.2.1), (0, .slice av l.length cp), (1, int many), (2, int most)]) (fun s H' => s.2.2.2 = H' ∧ Built h s.2.2.2 3 s.1 s.2.1 ∧ s.2.1.length = k + 1 ∧ (∀ x ∈ s.2.1, 0 ≤ x) ∧ s.2.2.1 + s.2.1.sum = most ∧ 0 ≤ s.2.2.1 ∧ Grows h s.2.2.2) ?_ ?_
    rotate_left
    · rintro ⟨w', c', left', H'⟩ φ1 _ ⟨rfl, h1, h2, h3, h4, h5, h6⟩
      dsimp only at h1 h2 h3 h4 h5 h6 ⊢
      conv => whnf
      refine ⟨((k + 1 : Nat) : Int), wie (by omega) (by omega), ?_⟩
      conv => whnf
      exact Rnd.mk (k + 1, w', c', left', H') ⟨by show k + 1 ≤ many; omega, h1, h2, h3, h4, h5, h6⟩ (by show many - (k + 1) < many - k; omega) ⟨rfl, rfl, rfl, rfl, rfl, rfl, trivial⟩ (Hp.Le.refl _) rfl
    conv => whnf
    refine SeqP.go ?_
    conv => whnf
    refine SeqP.cut (α := Int) (fun x => [(10, int x), (9, int k), (7, w), (8, int left), (0, .slice av l.length cp), (1, int many), (2, int most)]) (fun x H' => H = H' ∧ 0 ≤ x ∧ x ≤ left) ?_ ?_
    · conv => whnf
      repeat (refine SeqP.go ?_; conv => whnf)
      refine cmpB (fun hb2 => ?_) (fun hb2 => ?_)
      rotate_left
      · conv => whnf
        exact ⟨0, ⟨rfl, rfl, rfl, rfl, rfl, rfl, rfl, trivial⟩, ⟨rfl, by omega, hle⟩, rfl⟩
      have hc := hv.ext hg
      obtain ⟨a', cp', ew, hcc⟩ := hc
      cases ew
      have hc := hcc k (by omega)
      obtain ⟨r, o, sp, ea, hsp, hci⟩ := hc
      subst ea
      have hux := u64_of l[k]
      obtain ⟨u, u0, u1, hu⟩ := hux
      have e1 := tmod_bd u0 (show (0 : Int) < left + 1 by omega)
      conv => whnf
      refine ⟨hsp, ⟨by omega, by omega⟩, ?_⟩
      conv => whnf
      refine ⟨int l[k], by rw [offAt_eq, Nat.add_comm]; simpa using hci, ?_⟩
      conv => whnf
      refine ⟨u, hu, ?_⟩
      conv => whnf
      refine ⟨left + 1, wie rfl (by omega), ?_⟩
      conv => whnf
      refine ⟨left + 1, u64_id (by omega), ?_⟩
      conv => whnf
      refine ⟨by omega, ?_⟩
      conv => whnf
      refine ⟨u.tmod (left + 1), wid (by omega), ?_⟩
      conv => whnf
      exact ⟨u.tmod (left + 1), ⟨rfl, rfl, rfl, rfl, rfl, rfl, rfl, trivial⟩, ⟨rfl, by omega, by omega⟩, rfl⟩
    rintro x φ2 _ ⟨rfl, hx0, hx1⟩
    conv => whnf
    repeat (refine SeqP.go ?_; conv => whnf)
    refine ⟨left - x, wie rfl (by omega), ?_⟩
    conv => whnf
    refine AppP.ints (hb.ext (Grows.lay _ _)) (hg.then_lay _) Elems.lay1 (by simp; omega) ?_
    intro w2 H2 hb2 hg2 _
    conv => whnf
    refine ⟨(w2, c ++ [x], left - x, H2), ⟨rfl, rfl, rfl, rfl, rfl, rfl, trivial⟩, ⟨rfl, hb2, len_snoc hcl x, all_snoc hnn hx0, ?_, by show 0 ≤ left - x; omega, hg2⟩, rfl⟩
    show left - x + (c ++ [x]).sum = most
    rw [List.sum_append]
    simp
    omega
  rintro ⟨w, c, left⟩ φ3 H3 ⟨hb, hcl, hnn, hsum, hle, hg⟩
  dsimp only at hb hcl hnn hsum hle ⊢
  have hcs := sum_nn hnn
  rcases id hb with ⟨rfl, e⟩ | ⟨r, rfl, hr, x, hat⟩
  · rw [e] at hcl; simp at hcl; omega
  conv => whnf
  refine SeqP.cut (α := List Int × Hp) (fun s => [(7, slc r 0 c.length c.length)]) (fun s H => s.2 = H ∧ Built h s.2 3 (slc r 0 c.length c.length) s.1 ∧ s.1.length = many ∧ (∀ x ∈ s.1, 0 ≤ x) ∧ 1 ≤ s.1.sum ∧ s.1.sum ≤ most ∧ Grows h s.2) ?_ ?_
  · conv => whnf
    repeat (refine SeqP.go ?_; conv => whnf)
    refine cmpB (fun hb2 => ?_) (fun hb2 => ?_)
    rotate_left
    · conv => whnf
      exact ⟨(c, H3), ⟨rfl, trivial⟩, ⟨rfl, hb, hcl, hnn, by show 1 ≤ c.sum; omega, by show c.sum ≤ most; omega, hg⟩, rfl⟩
    conv => whnf
    refine ⟨rfl, ⟨by omega, by omega⟩, ?_⟩
    conv => whnf
    have e9 : storeAt H3 r (offAt 0 (0 : Int).toNat 1) [int 1] = some (H3.set r (.row 3 x ((c.set 0 1).map int))) := by
      have := storeAt_row hat (o := 0) (v := int 1) (by rw [List.length_map]; omega) rfl
      rw [show (c.map int).set 0 (int 1) = (c.set 0 1).map int from by rw [List.map_set]] at this
      rw [offAt_eq]
      exact this
    refine ⟨rfl, _, e9, ?_⟩
    conv => whnf
    have hz := sum_zero hnn (by omega)
    have e1 : (c.set 0 1).sum = 1 := by
      cases c with
      | nil => simp at hcl; omega
      | cons y c =>
        have hy := hz y (by simp)
        simp at hsum
        simp
        omega
    refine ⟨(c.set 0 1, H3.set r (.row 3 x ((c.set 0 1).map int))), ⟨rfl, trivial⟩, ⟨rfl, .inr ⟨r, by show slc r 0 c.length c.length = slc r 0 (c.set 0 1).length (c.set 0 1).length; rw [List.length_set], hr, x, Hp.at_set_self _ (Hp.lt_of_at hat)⟩, by show (c.set 0 1).length = many; rw [List.length_set]; exact hcl, fun y hy => ?_, by show 1 ≤ (c.set 0 1).sum; omega, by show (c.set 0 1).sum ≤ most; omega, hg.then_set _ hr⟩, rfl⟩
    rcases List.mem_or_eq_of_mem_set hy with hy | rfl
    · exact hnn y hy
    · omega
  rintro ⟨c', H'⟩ φ4 _ ⟨rfl, h1, h2, h3, h4, h5, h6⟩
  dsimp only at h1 h2 h3 h4 h5 h6 ⊢
  conv => whnf
  repeat (refine SeqP.go ?_; conv => whnf)
  exact ⟨c', h1, h2, h3, h4, h5, h6⟩
end
end Go.Proofs.Ytpiplaicnbapbaa
namespace Go.Proofs.Ytpiplaicnbapbaa
open Go.Rx Go.RowKit
abbrev gl (l : List Int) (i : Nat) : Int := l.getD i 0
theorem gl_at {l : List Int} {i : Nat} (h : i < l.length) : gl l i = l[i] := by
  unfold gl; rw [List.getD_eq_getElem?_getD, List.getElem?_eq_getElem h]; rfl
theorem gl_set {l : List Int} {v : Nat} {x : Int} (h : v < l.length) (i : Nat) : gl (l.set v x) i = if i = v then x else gl l i := by
  unfold gl
  rw [List.getD_eq_getElem?_getD, List.getElem?_set, List.getD_eq_getElem?_getD]
  by_cases e : v = i
  · subst e; rw [if_pos rfl, if_pos h, if_pos rfl]; rfl
  · rw [if_neg e, if_neg (fun x => e x.symm)]
def bump (l : List Int) (x : Int × Int) : List Int := l.set x.1.toNat (gl l x.1.toNat + x.2)
theorem bump_len (l : List Int) (x : Int × Int) : (bump l x).length = l.length := List.length_set ..
def crs (m : Nat) (start kinds : List Int) (k : Nat) : List Int := ((start.zip kinds).take k).foldl bump (List.replicate m 0)
theorem fold_len : ∀ (l : List (Int × Int)) (a : List Int), (l.foldl bump a).length = a.length
  | [], _ => rfl
  | x :: l, a => (fold_len l (bump a x)).trans (bump_len a x)
theorem crs_len (m : Nat) (start kinds : List Int) (k : Nat) : (crs m start kinds k).length = m := by unfold crs; rw [fold_len, List.length_replicate]
theorem crs_zero (m : Nat) (start kinds : List Int) : crs m start kinds 0 = List.replicate m 0 := rfl
theorem crs_succ (m : Nat) {start kinds : List Int} {k : Nat} (h1 : k < start.length) (h2 : k < kinds.length) : crs m start kinds (k + 1) = bump (crs m start kinds k) (start[k], kinds[k]) := by
  unfold crs
  rw [List.take_succ_eq_append_getElem (by rw [List.length_zip]; omega), List.foldl_append, List.getElem_zip]
  rfl
theorem bump_bd {l : List Int} {x : Int × Int} {M : Int} (h : ∀ y ∈ l, 0 ≤ y ∧ y ≤ M) (hM : 0 ≤ M) (h0 : 0 ≤ x.2 ∧ x.2 ≤ 9) : ∀ y ∈ bump l x, 0 ≤ y ∧ y ≤ M + 9 := by
  intro y hy
  rcases List.mem_or_eq_of_mem_set hy with hy | rfl
  · have := h y hy; omega
  · have : 0 ≤ gl l x.1.toNat ∧ gl l x.1.toNat ≤ M := by
      unfold gl
      rw [List.getD_eq_getElem?_getD]
      cases e : l[x.1.toNat]? with
      | none => exact ⟨Int.le_refl _, hM⟩
      | some z => exact h z (List.mem_of_getElem? e)
    omega
theorem crs_bd {m : Nat} {start kinds : List Int} (hk : ∀ x ∈ kinds, 0 ≤ x ∧ x ≤ 9) : ∀ k, k ≤ start.length → k ≤ kinds.length → ∀ y ∈ crs m start kinds k, 0 ≤ y ∧ y ≤ 9 * (k : Int)
  | 0, _, _ => by
    intro y hy
    rw [crs_zero] at hy
    rw [(List.mem_replicate.1 hy).2]
    omega
  | k + 1, h1, h2 => by
    have ih := crs_bd (m := m) (start := start) hk k (by omega) (by omega)
    rw [crs_succ m (start := start) (kinds := kinds) (by omega) (by omega)]
    intro y hy
    have hkk : 0 ≤ kinds[k] ∧ kinds[k] ≤ 9 := hk _ (List.getElem_mem (l := kinds) (n := k) (by omega))
    have := bump_bd (x := (start[k], kinds[k])) ih (by omega) hkk y hy
    omega
theorem row_store {H : Hp} {r i : Nat} {e : TypeId} {x : Bool} {l : List Int} (hat : H.at r = some (.row e x (l.map int))) (hi : i < l.length) (y : Int) : storeAt H r i [int y] = some (H.set r (.row e x ((l.set i y).map int))) := by
  have := storeAt_row hat (o := i) (v := int y) (by rw [List.length_map]; exact hi) rfl
  rwa [show (l.map int).set i (int y) = (l.set i y).map int from by rw [List.map_set]] at this
theorem row_load {H : Hp} {r i : Nat} {e : TypeId} {x : Bool} {l : List Int} (hat : H.at r = some (.row e x (l.map int))) (hi : i < l.length) : cellAt H r i = some (int (gl l i)) := by
  refine cellAt_row hat ?_
  rw [List.getElem?_map, List.getElem?_eq_getElem hi, gl_at hi]
  rfl
theorem rep_row (z : Int) (n : Nat) : times [int z] n = (List.replicate n z).map int := by
  induction n with
  | zero => rfl
  | succ n ih => show int z :: times [int z] n = _; rw [ih, List.replicate_succ]; rfl
end Go.Proofs.Ytpiplaicnbapbaa
namespace Go.Proofs.Ytpiplaicnbapbaa
open Go.Rx Go.RowKit
def cv (l : List Int) : Value := .agg ⟨l.map int⟩
end Go.Proofs.Ytpiplaicnbapbaa
namespace Go.Proofs.Ytpiplaicnbapbaa
open Go.Rx Go.RowKit
theorem PV.box {h : Hp} {v : Value} {p : Prot} (k : PV h v p) : ∃ bx : List Value, v = .agg ⟨bx⟩ ∧ bx.length = 4 ∧ bx[0]? = some (int p.n) ∧ (∃ a, bx[1]? = some (.slice a p.out.length p.out.length) ∧ LV h (.slice a p.out.length p.out.length) p.out) ∧ (∃ a, bx[2]? = some (.slice a p.start.length p.start.length) ∧ LV h (.slice a p.start.length p.start.length) p.start) ∧ (∃ a, bx[3]? = some (.slice a p.rules.length p.rules.length) ∧ RV h (.slice a p.rules.length p.rules.length) p.rules) ∧ cellsOf (.agg ⟨bx⟩) = some bx := by
  obtain ⟨vo, vs, vr, rfl, k1, k2, k3⟩ := k
  obtain ⟨ao, rfl⟩ := k1.known
  obtain ⟨az, rfl⟩ := k2.known
  obtain ⟨ar, rfl, -⟩ := k3.slice
  exact ⟨_, rfl, rfl, rfl, ⟨ao, rfl, k1⟩, ⟨az, rfl, k2⟩, ⟨ar, rfl, k3⟩, rfl⟩
theorem all_cells {H : Hp} {r e m : Nat} {x : Bool} {cs : List Value} (hr : H.at r = some (.row e x cs)) (hl : cs.length = m) : cellsAt H r 0 m = some cs := by
  rw [cellsAt_row hr (by omega), List.drop_zero, List.take_of_length_le (by omega)]
attribute [local irreducible] E idxN cellAt cellsAt storeAt callable helems hmoved lookIn findKey keyOk hentries Hp.at Hp.set Hp.lay arBits hupdated setAt CallP YieldP BoolOf IsWrap Rnd LoopP AppP CutP Int.tmod Int.tdiv Int.fdiv
section
variable [Unknowns]
attribute [local irreducible] ResP sameAt
theorem refcrowd_spec (v w : Value) (p : Prot) (kinds : List Int) (h : Hp) (hv : PV h v p) (hw : Ints h w kinds) (hp : POk p) (hkl : kinds.length = p.start.length) (hk : ∀ x ∈ kinds, 0 ≤ x ∧ x ≤ 9) : CallP E 47 [v, w] h (fun r h' => Built h h' 3 r (crs p.n.toNat p.start kinds kinds.length) ∧ Grows h h') := by
  obtain ⟨bx, rfl, hbl, b0, ⟨a1, b1, k1⟩, ⟨a2, b2, k2⟩, ⟨a3, b3, k3⟩, -⟩ := hv.box
  have hpn1 := hp.n1
  have hpn5 := hp.n5
  have hst2 := hp.st2
  have hexn : ∃ n : Nat, p.n = (n : Int) := ⟨p.n.toNat, by omega⟩
  obtain ⟨n, en⟩ := hexn
  rw [en] at b0 ⊢
  rw [Int.toNat_natCast]
  have hat : (h.lay (.row 26 true bx)).at h.next = some (.row 26 true bx) := Hp.at_lay_self _ _
  obtain ⟨ak, ck, rfl, hck⟩ := id hw
  refine enter47 (by simp) ?_
  conv => whnf
  refine SeqP.go ?_
  conv => whnf
  refine SeqP.cut (α := Hp) (fun Hb => [(5, slc Hb.next 0 n n), (2, ptr h.next 0), (1, .slice ak kinds.length ck)]) (fun Hb H => H = Hb.lay (.row 3 true ((crs n p.start kinds 0).map int)) ∧ Grows h Hb ∧ Hb.at h.next = some (.row 26 true bx)) ?_ ?_
  · conv => whnf
    refine ⟨_, cellAt_row hat b0, ?_⟩
    conv => whnf
    refine ⟨⟨by omega, by omega, by omega, by omega⟩, ?_⟩
    conv => whnf
    refine ⟨_, ⟨rfl, rfl, rfl, trivial⟩, ⟨?_, Grows.lay _ _, hat⟩, rfl⟩
    rw [crs_zero, ← rep_row]
    rfl
  rintro Hb φ1 _ ⟨rfl, gb, ab⟩
  conv => whnf
  refine SeqP.cut (α := Unit) (fun _ => [(5, slc Hb.next 0 n n)]) (fun _ H => H = Hb.lay (.row 3 true ((crs n p.start kinds kinds.length).map int))) ?_ ?_
  rotate_left
  · rintro _ φ9 _ rfl
    conv => whnf
    repeat (refine SeqP.go ?_; conv => whnf)
    refine ⟨.inr ⟨Hb.next, ?_, gb.next, true, Hp.at_lay_self _ _⟩, gb.then_lay _⟩
    show _ = slc Hb.next 0 (crs n p.start kinds kinds.length).length (crs n p.start kinds kinds.length).length
    rw [crs_len]
    rfl
  conv => whnf
  repeat (refine SeqP.go ?_; conv => whnf)
  refine loop_inv (α := Nat) (fun k => [(6, int k), (5, slc Hb.next 0 n n), (2, ptr h.next 0), (1, .slice ak kinds.length ck)]) (fun k => Hb.lay (.row 3 true ((crs n p.start kinds k).map int))) (fun k => k ≤ kinds.length) (fun k => kinds.length - k) 0 (Nat.zero_le _) ⟨rfl, rfl, rfl, rfl, trivial⟩ (Hp.Le.refl _) ?_
  intro k φ hkk
  conv => whnf
  repeat (refine SeqP.go ?_; conv => whnf)
  refine cmpB (fun hb1 => ?_) (fun hb1 => ?_)
  rotate_left
  · have : k = kinds.length := by omega
    subst this
    conv => whnf
    repeat (refine SeqP.go ?_; conv => whnf)
    exact ⟨(), ⟨rfl, trivial⟩, rfl, rfl⟩
  have hkl' : k < kinds.length := by omega
  have hks : k < p.start.length := by omega
  have hgk : Grows h (Hb.lay (.row 3 true ((crs n p.start kinds k).map int))) := gb.then_lay _
  have hatk : (Hb.lay (.row 3 true ((crs n p.start kinds k).map int))).at h.next = some (.row 26 true bx) := Hp.at_lay_old _ ab
  have hc := (hw.ext hgk)
  obtain ⟨ak', ck', ew, hcc⟩ := hc
  cases ew
  have hc := hcc k hkl'
  obtain ⟨r, o, sp, ea, hsp, hci⟩ := hc
  subst ea
  have hc2 := (k2.ints.ext hgk)
  obtain ⟨az', cz', ew2, hcc2⟩ := hc2
  cases ew2
  have hc2 := hcc2 k hks
  obtain ⟨r2, o2, sp2, ea2, hsp2, hci2⟩ := hc2
  subst ea2
  have hsx := hp.sts p.start[k] (List.getElem_mem hks)
  have hkx := hk kinds[k] (List.getElem_mem hkl')
  have hln := crs_len n p.start kinds k
  have hbd := crs_bd (m := n) hk k (by omega : k ≤ p.start.length) (by omega)
  have hes := crs_succ n hks hkl'
  have hexs : ∃ s : Nat, p.start[k] = (s : Int) := ⟨p.start[k].toNat, by omega⟩
  obtain ⟨s, es⟩ := hexs
  have hexc : ∃ l, crs n p.start kinds k = l := ⟨_, rfl⟩
  obtain ⟨l, el⟩ := hexc
  rw [el] at hln hbd hes hatk hci hci2 ⊢
  have hlx : 0 ≤ gl l s ∧ gl l s ≤ 9 * (k : Int) := by rw [gl_at (by omega)]; exact hbd _ (List.getElem_mem _)
  have hs1 : cellAt (Hb.lay (.row 3 true (l.map int))) r2 (offAt o2 k 1) = some (int s) := by rw [offAt_eq, Nat.add_comm, ← es]; simpa using hci2
  have hself := Hp.at_lay_self Hb (.row 3 true (l.map int))
  conv => whnf
  repeat (refine SeqP.go ?_; conv => whnf)
  refine ⟨_, cellAt_row hatk b2, ?_⟩
  conv => whnf
  refine ⟨hsp2, ⟨by omega, by omega⟩, ?_⟩
  conv => whnf
  refine ⟨int s, hs1, ?_⟩
  conv => whnf
  refine ⟨_, cellAt_row hatk b2, ?_⟩
  conv => whnf
  refine ⟨hsp2, ⟨by omega, by omega⟩, ?_⟩
  conv => whnf
  refine ⟨int s, hs1, ?_⟩
  conv => whnf
  refine ⟨rfl, ⟨by omega, by omega⟩, ?_⟩
  conv => whnf
  refine ⟨int (gl l s), ?_, ?_⟩
  · rw [offAt_eq]
    simpa using row_load hself (i := s) (by omega)
  conv => whnf
  refine ⟨hsp, ⟨by omega, by omega⟩, ?_⟩
  conv => whnf
  refine ⟨int kinds[k], by rw [offAt_eq, Nat.add_comm]; simpa using hci, ?_⟩
  conv => whnf
  refine ⟨gl l s + kinds[k], wie rfl (by omega), ?_⟩
  conv => whnf
  refine ⟨rfl, ⟨by omega, by omega⟩, ?_⟩
  conv => whnf
  have e9 : storeAt (Hb.lay (.row 3 true (l.map int))) Hb.next (offAt 0 ((s : Int)).toNat 1) [int (gl l s + kinds[k])] = some (Hb.lay (.row 3 true ((crs n p.start kinds (k + 1)).map int))) := by
    have := storeAt_lay (h := Hb) (e := 3) (x := true) (cs := l.map int) (o := s) (v := int (gl l s + kinds[k])) (by rw [List.length_map]; omega) rfl
    rw [show (l.map int).set s (int (gl l s + kinds[k])) = (l.set s (gl l s + kinds[k])).map int from by rw [List.map_set]] at this
    rw [hes, offAt_eq]
    unfold bump
    dsimp only
    rw [es]
    simpa using this
  refine ⟨rfl, _, e9, ?_⟩
  conv => whnf
  refine ⟨((k + 1 : Nat) : Int), wie (by omega) (by omega), ?_⟩
  conv => whnf
  exact Rnd.mk (k + 1) (by show k + 1 ≤ _; omega) (by show _ - (k + 1) < _ - k; omega) ⟨rfl, rfl, rfl, rfl, trivial⟩ (Hp.Le.refl _) rfl
end
end Go.Proofs.Ytpiplaicnbapbaa
namespace Go.Proofs.Ytpiplaicnbapbaa
open Go.Rx Go.RowKit
structure Quest where
  a : List Int
  b : Int
  m : Int
def QV (h : Hp) (v : Value) (q : Quest) : Prop := ∃ va, v = .agg ⟨[va, int q.b, int q.m]⟩ ∧ LV h va q.a
theorem QV.ext {h h' : Hp} {v : Value} {q : Quest} (g : Grows h h') (k : QV h v q) : QV h' v q := by
  obtain ⟨va, e, k⟩ := k
  exact ⟨va, e, k.ext g⟩
theorem QV.box {h : Hp} {v : Value} {q : Quest} (k : QV h v q) : ∃ bx : List Value, v = .agg ⟨bx⟩ ∧ bx.length = 3 ∧ (∃ a, bx[0]? = some (.slice a q.a.length q.a.length) ∧ LV h (.slice a q.a.length q.a.length) q.a) ∧ bx[1]? = some (int q.b) ∧ bx[2]? = some (int q.m) ∧ bx.all oneCell = true := by
  obtain ⟨va, rfl, k⟩ := k
  obtain ⟨ao, rfl⟩ := k.known
  exact ⟨_, rfl, rfl, ⟨ao, rfl, k⟩, rfl, rfl, rfl⟩
structure QOk (q : Quest) : Prop where
  l1 : 1 ≤ q.a.length
  l2 : q.a.length ≤ 2
  ac : ∀ x ∈ q.a, -5 ≤ x ∧ x ≤ 5
  b : -9 ≤ q.b ∧ q.b ≤ 9
  m : 0 ≤ q.m ∧ q.m ≤ 9
def dotN (a k : List Int) : Nat → Int
  | 0 => 0
  | j + 1 => dotN a k j + gl a j * gl k j
theorem dotN_succ (a k : List Int) (j : Nat) : dotN a k (j + 1) = dotN a k j + gl a j * gl k j := rfl
theorem mul_bd5 {x y : Int} (hx : -5 ≤ x ∧ x ≤ 5) (hy : 0 ≤ y ∧ y ≤ 9) : -45 ≤ x * y ∧ x * y ≤ 45 := by
  have h1 : (x * y).natAbs ≤ 45 := mul_bd (m := 5) (n := 9) (by omega) (by omega) (by omega)
  omega
theorem dotN_bd {a k : List Int} (ha : ∀ x ∈ a, -5 ≤ x ∧ x ≤ 5) (hk : ∀ x ∈ k, 0 ≤ x ∧ x ≤ 9) : ∀ j, j ≤ a.length → j ≤ k.length → -45 * (j : Int) ≤ dotN a k j ∧ dotN a k j ≤ 45 * j
  | 0, _, _ => by simp [dotN]
  | j + 1, h1, h2 => by
    have ih := dotN_bd ha hk j (by omega) (by omega)
    have e1 := ha (gl a j) (by rw [gl_at (by omega)]; exact List.getElem_mem _)
    have e2 := hk (gl k j) (by rw [gl_at (by omega)]; exact List.getElem_mem _)
    have := mul_bd5 e1 e2
    rw [dotN_succ]
    omega
def TrueP (q : Quest) (k : List Int) : Prop := (q.m = 0 ∧ q.b ≤ dotN q.a k k.length) ∨ (q.m ≠ 0 ∧ (dotN q.a k k.length - q.b).tmod q.m = 0)
end Go.Proofs.Ytpiplaicnbapbaa
namespace Go.Proofs.Ytpiplaicnbapbaa
open Go.Rx Go.RowKit
theorem one_ints (h : Hp) (n : Int) : Ints (h.lay (.row 3 true [int n])) (slc h.next 0 1 1) [n] := (Built.lay1 (h0 := h) (Nat.le_refl _)).ints
attribute [local irreducible] E idxN cellAt cellsAt storeAt callable helems hmoved lookIn findKey keyOk hentries Hp.at Hp.set Hp.lay arBits hupdated setAt CallP YieldP BoolOf IsWrap Rnd LoopP AppP CutP Int.tmod Int.tdiv Int.fdiv
section
variable [Unknowns]
attribute [local irreducible] ResP sameAt
theorem reftrue_spec (v w : Value) (q : Quest) (kinds : List Int) (h : Hp) (hv : QV h v q) (hw : Ints h w kinds) (hq : QOk q) (hkl : kinds.length = q.a.length) (hk : ∀ x ∈ kinds, 0 ≤ x ∧ x ≤ 9) : CallP E 45 [v, w] h (fun r h' => (∃ b, r = .bool b ∧ BoolOf b (TrueP q kinds)) ∧ Grows h h') := by
  obtain ⟨bx, rfl, hbl, ⟨a1, b0, k1⟩, b1, b2, -⟩ := hv.box
  have hl2 := hq.l2
  have hqb := hq.b
  have hqm := hq.m
  have hat : (h.lay (.row 69 true bx)).at h.next = some (.row 69 true bx) := Hp.at_lay_self _ _
  have g0 : Grows h (h.lay (.row 69 true bx)) := Grows.lay _ _
  obtain ⟨ak, ck, rfl, hck⟩ := id hw
  have hdb := dotN_bd hq.ac hk
  refine enter45 (by simp) ?_
  conv => whnf
  refine SeqP.go ?_
  conv => whnf
  refine SeqP.go ?_
  conv => whnf
  refine SeqP.cut (α := Unit) (fun _ => [(5, int (dotN q.a kinds kinds.length)), (2, ptr h.next 0)]) (fun _ H => H = h.lay (.row 69 true bx)) ?_ ?_
  · conv => whnf
    repeat (refine SeqP.go ?_; conv => whnf)
    refine loop_inv (α := Nat) (fun k => [(6, int k), (5, int (dotN q.a kinds k)), (2, ptr h.next 0), (1, .slice ak kinds.length ck)]) (fun k => h.lay (.row 69 true bx)) (fun k => k ≤ kinds.length) (fun k => kinds.length - k) 0 (Nat.zero_le _) ⟨rfl, rfl, rfl, rfl, trivial⟩ (Hp.Le.refl _) ?_
    intro k φ hkk
    conv => whnf
    repeat (refine SeqP.go ?_; conv => whnf)
    refine cmpB (fun hb1 => ?_) (fun hb1 => ?_)
    rotate_left
    · have : k = kinds.length := by omega
      subst this
      conv => whnf
      repeat (refine SeqP.go ?_; conv => whnf)
      exact ⟨(), ⟨rfl, rfl, trivial⟩, rfl, rfl⟩
    have hkl' : k < kinds.length := by omega
    have hc := (hw.ext g0)
    obtain ⟨ak', ck', ew, hcc⟩ := hc
    cases ew
    have hc := hcc k hkl'
    obtain ⟨r, o, sp, ea, hsp, hci⟩ := hc
    subst ea
    have hc2 := (k1.ints.ext g0)
    obtain ⟨az', cz', ew2, hcc2⟩ := hc2
    cases ew2
    have hc2 := hcc2 k (by omega)
    obtain ⟨r2, o2, sp2, ea2, hsp2, hci2⟩ := hc2
    subst ea2
    have hsx := hq.ac (gl q.a k) (by rw [gl_at (by omega)]; exact List.getElem_mem _)
    have hkx := hk (gl kinds k) (by rw [gl_at (by omega)]; exact List.getElem_mem _)
    have hmb := mul_bd5 hsx hkx
    have e1 := gl_at (l := q.a) (i := k) (by omega)
    have e2 := gl_at (l := kinds) (i := k) (by omega)
    have e3 := dotN_succ q.a kinds k
    have hd1 := hdb k (by omega) (by omega)
    conv => whnf
    repeat (refine SeqP.go ?_; conv => whnf)
    refine ⟨_, cellAt_row hat b0, ?_⟩
    conv => whnf
    refine ⟨hsp2, ⟨by omega, by omega⟩, ?_⟩
    conv => whnf
    refine ⟨int (gl q.a k), by rw [offAt_eq, Nat.add_comm, e1]; simpa using hci2, ?_⟩
    conv => whnf
    refine ⟨hsp, ⟨by omega, by omega⟩, ?_⟩
    conv => whnf
    refine ⟨int (gl kinds k), by rw [offAt_eq, Nat.add_comm, e2]; simpa using hci, ?_⟩
    conv => whnf
    refine ⟨gl q.a k * gl kinds k, wie rfl (by omega), ?_⟩
    conv => whnf
    refine ⟨dotN q.a kinds (k + 1), wie e3.symm (by omega), ?_⟩
    conv => whnf
    refine ⟨((k + 1 : Nat) : Int), wie (by omega) (by omega), ?_⟩
    conv => whnf
    exact Rnd.mk (k + 1) (by show k + 1 ≤ _; omega) (by show _ - (k + 1) < _ - k; omega) ⟨rfl, rfl, rfl, rfl, trivial⟩ (Hp.Le.refl _) rfl
  rintro _ φ2 _ rfl
  have hdn := hdb kinds.length (by omega) (Nat.le_refl _)
  have hexd : ∃ d, dotN q.a kinds kinds.length = d := ⟨_, rfl⟩
  obtain ⟨d, ed⟩ := hexd
  have hTP : TrueP q kinds ↔ (q.m = 0 ∧ q.b ≤ d) ∨ (q.m ≠ 0 ∧ (d - q.b).tmod q.m = 0) := by unfold TrueP; rw [ed]
  rw [ed] at hdn ⊢
  conv => whnf
  repeat (refine SeqP.go ?_; conv => whnf)
  refine ⟨_, cellAt_row hat b2, ?_⟩
  conv => whnf
  refine cmpB (fun c1 => ?_) (fun c1 => ?_)
  · conv => whnf
    repeat (refine SeqP.go ?_; conv => whnf)
    refine ⟨_, cellAt_row hat b1, ?_⟩
    conv => whnf
    refine cmpB (fun c2 => ?_) (fun c2 => ?_)
    · conv => whnf
      repeat (refine SeqP.go ?_; conv => whnf)
      exact ⟨⟨true, rfl, bo_yes (hTP.2 (.inl ⟨c1, by omega⟩))⟩, g0⟩
    · conv => whnf
      repeat (refine SeqP.go ?_; conv => whnf)
      exact ⟨⟨false, rfl, bo_no fun k => by (rcases hTP.1 k with k | k) <;> omega⟩, g0⟩
  · conv => whnf
    repeat (refine SeqP.go ?_; conv => whnf)
    refine ⟨_, cellAt_row hat b1, ?_⟩
    conv => whnf
    refine ⟨d - q.b, wie rfl (by omega), ?_⟩
    conv => whnf
    refine ⟨_, cellAt_row hat b2, ?_⟩
    conv => whnf
    refine ⟨c1, ?_⟩
    conv => whnf
    refine cmpB (fun c2 => ?_) (fun c2 => ?_)
    · conv => whnf
      repeat (refine SeqP.go ?_; conv => whnf)
      exact ⟨⟨true, rfl, bo_yes (hTP.2 (.inr ⟨c1, c2⟩))⟩, g0⟩
    · conv => whnf
      repeat (refine SeqP.go ?_; conv => whnf)
      exact ⟨⟨false, rfl, bo_no fun k => (hTP.1 k).elim (fun k => c1 k.1) (fun k => c2 k.2)⟩, g0⟩
end
end Go.Proofs.Ytpiplaicnbapbaa
namespace Go.Proofs.Ytpiplaicnbapbaa
open Go.Rx Go.RowKit
structure PQ (H0 H : Hp) (D : Nat) (cs : List Value) : Prop where
  next : H0.next ≤ H.next
  at_ : ∀ r o, r < H0.next → r ≠ D → H0.at r = some o → H.at r = some o
  dat : H.at D = some (.row 69 true cs)
theorem PQ.start {H0 : Hp} {D : Nat} {cs : List Value} (h : H0.at D = some (.row 69 true cs)) : PQ H0 H0 D cs := ⟨Nat.le_refl _, fun _ _ _ _ e => e, h⟩
theorem PQ.ext {H0 H H' : Hp} {D : Nat} {cs : List Value} (k : PQ H0 H D cs) (g : Grows H H') : PQ H0 H' D cs := ⟨Nat.le_trans k.next g.next, fun r o h1 h2 e => g.at_ _ _ (k.at_ r o h1 h2 e), g.at_ _ _ k.dat⟩
theorem PQ.grows {h H0 H : Hp} {D : Nat} {cs : List Value} (k : PQ H0 H D cs) (g : Grows h H0) (hD : h.next ≤ D) : Grows h H := ⟨Nat.le_trans g.next k.next, fun r o e => by
  have := Hp.lt_of_at e
  have := g.next
  exact k.at_ r o (by omega) (by omega) (g.at_ _ _ e)⟩
def QI (h : Hp) (v : Value) (q : Quest) : Prop := ∃ va, v = .agg ⟨[va, int q.b, int q.m]⟩ ∧ View h va q.a
theorem QI.ext {h h' : Hp} {v : Value} {q : Quest} (g : Grows h h') (k : QI h v q) : QI h' v q := by
  obtain ⟨va, e, k⟩ := k
  exact ⟨va, e, k.ext g⟩
end Go.Proofs.Ytpiplaicnbapbaa
namespace Go.Proofs.Ytpiplaicnbapbaa
open Go.Rx Go.RowKit
theorem under3 : Try.prog.underlying 3 = some (.int .i64) := Try.underlying3
theorem cells3 : Try.prog.cellsOf 3 = 1 := by kernel_rfl
theorem ag_inv {h : Hp} {v : Value} {ts : List Tr} (k : AbsT h v (.ag ts)) : ∃ vs : List Value, v = .agg ⟨vs⟩ ∧ vs.length = ts.length ∧ ∀ (k : Nat) v t, vs[k]? = some v → ts[k]? = some t → AbsT h v t := by
  cases k with
  | ag vs cs hl ht => exact ⟨vs, rfl, hl, ht⟩
end Go.Proofs.Ytpiplaicnbapbaa
namespace Go.Proofs.Ytpiplaicnbapbaa
open Go.Rx Go.RowKit
theorem PQ.set {H0 H : Hp} {D : Nat} {cs : List Value} (p : PQ H0 H D cs) (cs' : List Value) : PQ H0 (H.set D (.row 69 true cs')) D cs' := ⟨by rw [Hp.next_set]; exact p.next, fun r o h1 h2 e => by rw [Hp.at_set_ne _ h2]; exact p.at_ r o h1 h2 e, Hp.at_set_self _ (Hp.lt_of_at p.dat)⟩
theorem PI.box {h : Hp} {v : Value} {p : Prot} (k : PI h v p) : ∃ bx : List Value, v = .agg ⟨bx⟩ ∧ bx.length = 4 := by
  obtain ⟨a, b, c, rfl, _⟩ := k
  exact ⟨_, rfl, rfl⟩
theorem PI.ext {h h' : Hp} {v : Value} {p : Prot} (g : Grows h h') (k : PI h v p) : PI h' v p := by
  obtain ⟨a, b, c, e, h1, h2, h3⟩ := k
  exact ⟨a, b, c, e, h1.ext g, h2.ext g, h3.ext g⟩
end Go.Proofs.Ytpiplaicnbapbaa
namespace Go.Proofs.Ytpiplaicnbapbaa
open Go.Rx Go.RowKit
def Allowed (c : List Int) (q : Q4) : Prop := if q.a = q.b then 1 < gl c q.a.toNat else 0 < gl c q.a.toNat ∧ 0 < gl c q.b.toNat
instance (c : List Int) (q : Q4) : Decidable (Allowed c q) := by unfold Allowed; infer_instance
def after (c : List Int) (q : Q4) : List Int := bump (bump (bump (bump c (q.a, -1)) (q.b, -1)) (q.c, 1)) (q.d, 1)
theorem after_len (c : List Int) (q : Q4) : (after c q).length = c.length := by unfold after; rw [bump_len, bump_len, bump_len, bump_len]
theorem gl_bump {l : List Int} {x : Int × Int} (h : x.1.toNat < l.length) (i : Nat) : gl (bump l x) i = if i = x.1.toNat then gl l i + x.2 else gl l i := by
  unfold bump
  rw [gl_set h]
  split
  · rename_i e; rw [e]
  · rfl
theorem sum_set : ∀ {l : List Int} {i : Nat} (h : i < l.length) (y : Int), (l.set i y).sum = l.sum - gl l i + y
  | [], i, h, y => by simp at h
  | x :: l, 0, h, y => by simp [gl]; omega
  | x :: l, i + 1, h, y => by
    have := sum_set (l := l) (i := i) (by simpa using h) y
    simp only [List.set_cons_succ, List.sum_cons, this]
    have : gl (x :: l) (i + 1) = gl l i := by simp [gl]
    rw [this]; omega
theorem sum_bump {l : List Int} {x : Int × Int} (h : x.1.toNat < l.length) : (bump l x).sum = l.sum + x.2 := by unfold bump; rw [sum_set h]; omega
def ind (i j : Nat) : Int := if i = j then 1 else 0
theorem ind_bd (i j : Nat) : 0 ≤ ind i j ∧ ind i j ≤ 1 := by unfold ind; split <;> omega
theorem ind_eq {i j : Nat} (h : i = j) : ind i j = 1 := if_pos h
theorem ind_ne {i j : Nat} (h : i ≠ j) : ind i j = 0 := if_neg h
theorem gl_bump2 {l : List Int} {j x : Int} (h : j.toNat < l.length) (i : Nat) : gl (bump l (j, x)) i = gl l i + x * ind i j.toNat := by
  rw [gl_bump h]
  unfold ind
  dsimp only
  split <;> omega
theorem gl_after {n : Nat} {c : List Int} {q : Q4} (hl : c.length = n) (h : q.a.toNat < n ∧ q.b.toNat < n ∧ q.c.toNat < n ∧ q.d.toNat < n) (i : Nat) : gl (after c q) i = gl c i - ind i q.a.toNat - ind i q.b.toNat + ind i q.c.toNat + ind i q.d.toNat := by
  obtain ⟨h1, h2, h3, h4⟩ := h
  have b1 : (bump c (q.a, -1)).length = n := by rw [bump_len, hl]
  have b2 : (bump (bump c (q.a, -1)) (q.b, -1)).length = n := by rw [bump_len, b1]
  have b3 : (bump (bump (bump c (q.a, -1)) (q.b, -1)) (q.c, 1)).length = n := by rw [bump_len, b2]
  unfold after
  rw [gl_bump2 (by omega), gl_bump2 (by omega), gl_bump2 (by omega), gl_bump2 (by omega)]
  omega
structure CrOk (n : Nat) (c : List Int) : Prop where
  len : c.length = n
  nn : ∀ i, 0 ≤ gl c i
  s1 : 1 ≤ c.sum
  s9 : c.sum ≤ 9
theorem gl_out {l : List Int} {i : Nat} (h : l.length ≤ i) : gl l i = 0 := by
  unfold gl; rw [List.getD_eq_getElem?_getD, List.getElem?_eq_none h]; rfl
theorem gl_mem {l : List Int} {p : Int → Prop} (h : ∀ x ∈ l, p x) (h0 : p 0) (i : Nat) : p (gl l i) := by
  by_cases hi : i < l.length
  · rw [gl_at hi]; exact h _ (List.getElem_mem hi)
  · rw [gl_out (by omega)]; exact h0
theorem CrOk.of {n : Nat} {c : List Int} (h : Cnt c n) : CrOk n c := ⟨by have := h.1; omega, gl_mem (p := fun x => 0 ≤ x) (fun x hx => (h.2.1 x hx).1) (by omega), h.2.2.1, h.2.2.2⟩
theorem CrOk.all {n : Nat} {c : List Int} (h : CrOk n c) : ∀ x ∈ c, 0 ≤ x := fun x hx => by
  obtain ⟨i, hi, rfl⟩ := List.getElem_of_mem hx
  rw [← gl_at hi]
  exact h.nn i
theorem CrOk.le {n : Nat} {c : List Int} (h : CrOk n c) (i : Nat) : gl c i ≤ 9 := by
  by_cases hi : i < c.length
  · have := sum_le_of h.all (gl c i) (by rw [gl_at hi]; exact List.getElem_mem hi)
    have := h.s9
    omega
  · rw [gl_out (by omega)]; omega
theorem CrOk.cnt {n : Nat} {c : List Int} (h : CrOk n c) : Cnt c n := ⟨by have := h.len; omega, fun x hx => ⟨h.all x hx, by
  obtain ⟨i, hi, rfl⟩ := List.getElem_of_mem hx
  rw [← gl_at hi]
  exact h.le i⟩, h.s1, h.s9⟩
theorem qin {n : Nat} {q : Q4} (h : QIn n q) : q.a.toNat < n ∧ q.b.toNat < n ∧ q.c.toNat < n ∧ q.d.toNat < n := by unfold QIn at h; omega
theorem qin' {n : Nat} {q : Q4} (h : QIn n q) : (0 ≤ q.a ∧ q.a < n) ∧ (0 ≤ q.b ∧ q.b < n) ∧ (0 ≤ q.c ∧ q.c < n) ∧ (0 ≤ q.d ∧ q.d < n) := by unfold QIn at h; omega
theorem CrOk.after {n : Nat} {c : List Int} (h : CrOk n c) {q : Q4} (hq : QIn n q) (ha : Allowed c q) : CrOk n (after c q) := by
  obtain ⟨h1, h2, h3, h4⟩ := qin hq
  have hl := h.len
  have b1 : (bump c (q.a, -1)).length = n := by rw [bump_len, hl]
  have b2 : (bump (bump c (q.a, -1)) (q.b, -1)).length = n := by rw [bump_len, b1]
  have b3 : (bump (bump (bump c (q.a, -1)) (q.b, -1)) (q.c, 1)).length = n := by rw [bump_len, b2]
  have hs : (Ytpiplaicnbapbaa.after c q).sum = c.sum := by
    unfold Ytpiplaicnbapbaa.after
    rw [sum_bump (by show q.d.toNat < _; omega), sum_bump (by show q.c.toNat < _; omega), sum_bump (by show q.b.toNat < _; omega), sum_bump (by show q.a.toNat < _; omega)]
    dsimp only
    omega
  refine ⟨by rw [after_len, hl], fun i => ?_, by rw [hs]; exact h.s1, by rw [hs]; exact h.s9⟩
  rw [gl_after hl ⟨h1, h2, h3, h4⟩]
  have hi := h.nn i
  have hq' := qin' hq
  have x1 := ind_bd i q.a.toNat
  have x2 := ind_bd i q.b.toNat
  have x3 := ind_bd i q.c.toNat
  have x4 := ind_bd i q.d.toNat
  unfold Allowed at ha
  by_cases e : q.a = q.b
  · rw [if_pos e] at ha
    by_cases e1 : i = q.a.toNat
    · subst e1; omega
    · rw [ind_ne e1, ind_ne (by rw [← e]; exact e1)]; omega
  · rw [if_neg e] at ha
    by_cases e1 : i = q.a.toNat
    · have e2 : i ≠ q.b.toNat := by omega
      rw [ind_ne e2]
      subst e1; omega
    · rw [ind_ne e1]
      by_cases e2 : i = q.b.toNat
      · subst e2; omega
      · rw [ind_ne e2]; omega
def step (R : List Q4) (c : List Int) (i : Int) : Option (List Int) := if h : 0 ≤ i ∧ i < R.length then (if Allowed c (R[i.toNat]'(by omega)) then some (after c (R[i.toNat]'(by omega))) else none) else none
theorem step_ok {n : Nat} {R : List Q4} {c c' : List Int} {i : Int} (hR : ∀ x ∈ R, QIn n x) (hc : CrOk n c) (h : step R c i = some c') : CrOk n c' := by
  unfold step at h
  split at h
  · split at h
    · rename_i h1 h2
      cases h
      exact hc.after (hR _ (List.getElem_mem _)) h2
    · cases h
  · cases h
def pad5 (c : List Int) : List Int := c ++ List.replicate (5 - c.length) 0
def zero5 : List Int := [0, 0, 0, 0, 0]
end Go.Proofs.Ytpiplaicnbapbaa
namespace Go.Proofs.Ytpiplaicnbapbaa
open Go.Rx Go.RowKit
def qcells (q : Q4) : List Value := [int q.a, int q.b, int q.c, int q.d]
structure AM (h : Hp) (q : Q4) (l : List Int) (H : Hp) : Prop where
  la : H.at h.next = some (.row 107 true (l.map int))
  qa : H.at (h.next + 1) = some (.row 96 true (qcells q))
  za : H.at (h.next + 2) = some (.row 107 true (zero5.map int))
  gr : Grows h H
  len : l.length = 5
theorem AM.put {h : Hp} {q : Q4} {l : List Int} {H : Hp} (k : AM h q l H) (l' : List Int) (hl : l'.length = 5) : AM h q l' (H.set h.next (.row 107 true (l'.map int))) :=
  ⟨Hp.at_set_self _ (Hp.lt_of_at k.la), by rw [Hp.at_set_ne _ (by omega)]; exact k.qa, by rw [Hp.at_set_ne _ (by omega)]; exact k.za, k.gr.then_set _ (Nat.le_refl _), hl⟩
theorem AM.bump {h : Hp} {q : Q4} {l : List Int} {H : Hp} (k : AM h q l H) {i : Int} (hi : 0 ≤ i ∧ i < 5) (x : Int) : storeAt H h.next (offAt 0 i.toNat 1) [int (gl l i.toNat + x)] = some (H.set h.next (.row 107 true ((Ytpiplaicnbapbaa.bump l (i, x)).map int))) := by
  have := row_store k.la (i := i.toNat) (by rw [k.len]; omega) (gl l i.toNat + x)
  rw [offAt_eq]
  unfold Ytpiplaicnbapbaa.bump
  simpa using this
theorem AM.load {h : Hp} {q : Q4} {l : List Int} {H : Hp} (k : AM h q l H) {i : Int} (hi : 0 ≤ i ∧ i < 5) : cellAt H h.next (offAt 0 i.toNat 1) = some (int (gl l i.toNat)) := by
  have := row_load k.la (i := i.toNat) (by rw [k.len]; omega)
  rw [offAt_eq]
  simpa using this
theorem gl_bd_bump {l : List Int} {i x M : Int} (hi : i.toNat < l.length) (h : ∀ j, -M ≤ gl l j ∧ gl l j ≤ M) (hx : -1 ≤ x ∧ x ≤ 1) : ∀ j, -(M + 1) ≤ gl (bump l (i, x)) j ∧ gl (bump l (i, x)) j ≤ M + 1 := fun j => by
  rw [gl_bump hi]
  have := h j
  split <;> omega
end Go.Proofs.Ytpiplaicnbapbaa
namespace Go.Proofs.Ytpiplaicnbapbaa
open Go.Rx Go.RowKit
theorem POk.qin {p : Prot} (h : POk p) : ∀ k, (hk : k < p.rules.length) → QIn p.n p.rules[k] := fun k hk => (h.rs k hk hk).1
theorem step_no {R : List Q4} {c : List Int} {i : Int} (h : ¬ (0 ≤ i ∧ i < R.length)) : step R c i = none := dif_neg h
theorem step_not {R : List Q4} {c : List Int} {i : Int} (h : 0 ≤ i ∧ i < R.length) (k : ¬ Allowed c (R[i.toNat]'(by omega))) : step R c i = none := by
  unfold step
  rw [dif_pos h, if_neg k]
theorem step_yes {R : List Q4} {c : List Int} {i : Int} (h : 0 ≤ i ∧ i < R.length) (k : Allowed c (R[i.toNat]'(by omega))) : step R c i = some (after c (R[i.toNat]'(by omega))) := by
  unfold step
  rw [dif_pos h, if_pos k]
end Go.Proofs.Ytpiplaicnbapbaa
namespace Go.Proofs.Ytpiplaicnbapbaa
open Go.Rx Go.RowKit
structure BM (h : Hp) (Q r : Nat) (x : Bool) (q : Q4) (l : List Int) (n : Nat) (H : Hp) : Prop where
  la : H.at r = some (.row 3 x (l.map int))
  qa : H.at Q = some (.row 96 true (qcells q))
  gr : Grows h H
  len : l.length = n
  hr : h.next ≤ r
  ne : Q ≠ r
theorem BM.put {h : Hp} {Q r : Nat} {x : Bool} {q : Q4} {l : List Int} {n : Nat} {H : Hp} (k : BM h Q r x q l n H) (l' : List Int) (hl : l'.length = n) : BM h Q r x q l' n (H.set r (.row 3 x (l'.map int))) :=
  ⟨Hp.at_set_self _ (Hp.lt_of_at k.la), by rw [Hp.at_set_ne _ k.ne]; exact k.qa, k.gr.then_set _ k.hr, hl, k.hr, k.ne⟩
theorem BM.bump {h : Hp} {Q r : Nat} {e : Bool} {q : Q4} {l : List Int} {n : Nat} {H : Hp} (k : BM h Q r e q l n H) {i : Int} (hi : 0 ≤ i ∧ i < n) (x : Int) : storeAt H r (offAt 0 i.toNat 1) [int (gl l i.toNat + x)] = some (H.set r (.row 3 e ((Ytpiplaicnbapbaa.bump l (i, x)).map int))) := by
  have := row_store k.la (i := i.toNat) (by rw [k.len]; omega) (gl l i.toNat + x)
  rw [offAt_eq]
  unfold Ytpiplaicnbapbaa.bump
  simpa using this
theorem BM.load {h : Hp} {Q r : Nat} {e : Bool} {q : Q4} {l : List Int} {n : Nat} {H : Hp} (k : BM h Q r e q l n H) {i : Int} (hi : 0 ≤ i ∧ i < n) : cellAt H r (offAt 0 i.toNat 1) = some (int (gl l i.toNat)) := by
  have := row_load k.la (i := i.toNat) (by rw [k.len]; omega)
  rw [offAt_eq]
  simpa using this
theorem BM.built {h : Hp} {Q r : Nat} {x : Bool} {q : Q4} {l : List Int} {n : Nat} {H : Hp} (k : BM h Q r x q l n H) : Built h H 3 (slc r 0 n n) l := .inr ⟨r, by rw [k.len], k.hr, x, k.la⟩
def RMeetR (p : Prot) (c : List Int) (i : Int) (w : Value) (h h' : Hp) (r : Value) : Prop := ∃ (wv : Value) (b : Bool), r = .tuple ⟨[wv, .bool b]⟩ ∧ (step p.rules c i = none → b = false ∧ wv = w) ∧ (∀ c', step p.rules c i = some c' → b = true ∧ Built h h' 3 wv c')
attribute [local irreducible] E idxN cellAt cellsAt storeAt callable helems hmoved lookIn findKey keyOk hentries Hp.at Hp.set Hp.lay arBits hupdated setAt CallP YieldP BoolOf IsWrap Rnd LoopP AppP CutP Int.tmod Int.tdiv Int.fdiv
section
variable [Unknowns]
attribute [local irreducible] ResP sameAt
theorem RMeet_spec (v w : Value) (p : Prot) (c : List Int) (i : Int) (n : Nat) (h : Hp) (hv : PV h v p) (hw : View h w c) (hP : POk p) (en : p.n = n) (hc : CrOk n c) : CallP E 38 [v, w, int i] h (fun r h' => RMeetR p c i w h h' r ∧ Grows h h') := by
  obtain ⟨bx, rfl, hbl, b0, -, -, ⟨a3, b3, k3⟩, -⟩ := hv.box
  obtain ⟨ac, cc, rfl⟩ := hw.known
  have hcl := hc.len
  have hn5 : n ≤ 5 := by have := hP.n5; omega
  have hn1 : 1 ≤ n := by have := hP.n1; omega
  have hrl := hP.rl
  have hqin := hP.qin
  rw [en] at hqin
  have g0 : Grows h (h.lay (.row 26 true bx)) := Grows.lay _ _
  have a0 : (h.lay (.row 26 true bx)).at h.next = some (.row 26 true bx) := Hp.at_lay_self _ _
  refine enter38 (by simp) ?_
  conv => whnf
  refine SeqP.go ?_
  conv => whnf
  refine SeqP.cut (α := Unit) (fun _ => [(3, ptr h.next 0), (2, int i), (1, .slice ac c.length cc)]) (fun _ H => H = h.lay (.row 26 true bx) ∧ 0 ≤ i ∧ i < p.rules.length) ?_ ?_
  · conv => whnf
    repeat (refine SeqP.go ?_; conv => whnf)
    refine cmpB (fun c2 => ?_) (fun c2 => ?_)
    · conv => whnf
      repeat (refine SeqP.go ?_; conv => whnf)
      exact ⟨⟨_, false, rfl, fun _ => ⟨rfl, rfl⟩, fun c' e => by rw [step_no (by omega)] at e; cases e⟩, g0⟩
    conv => whnf
    refine ⟨_, cellAt_row a0 b3, ?_⟩
    conv => whnf
    refine cmpB (fun c3 => ?_) (fun c3 => ?_)
    · conv => whnf
      repeat (refine SeqP.go ?_; conv => whnf)
      exact ⟨⟨_, false, rfl, fun _ => ⟨rfl, rfl⟩, fun c' e => by rw [step_no (by omega)] at e; cases e⟩, g0⟩
    · conv => whnf
      repeat (refine SeqP.go ?_; conv => whnf)
      exact ⟨(), ⟨rfl, rfl, rfl, trivial⟩, ⟨rfl, by omega, by omega⟩, rfl⟩
  rintro _ φ1 _ ⟨rfl, hi0, hi1⟩
  have hii : 0 ≤ i ∧ i < p.rules.length := ⟨hi0, hi1⟩
  have hil : i.toNat < p.rules.length := by omega
  have hkf := RV.cells (show RV (h.lay (.row 26 true bx)) _ p.rules from BuiltC.ext g0 k3)
  obtain ⟨a3', e3', hkf⟩ := hkf
  cases e3'
  have hkg := hkf i.toNat hil
  clear hkf
  obtain ⟨rr, ear, hkc⟩ := hkg
  subst ear
  have hqi := hqin i.toNat hil
  have hno := fun x => step_not (c := c) hii x
  have hyes := fun x => step_yes (c := c) hii x
  have hexq : ∃ q, p.rules[i.toNat] = q := ⟨_, rfl⟩
  obtain ⟨q, eq⟩ := hexq
  rw [eq] at hkc hqi hno hyes
  have hq' := qin' hqi
  have hexQ : ∃ Q, (h.lay (.row 26 true bx)).next = Q ∧ h.next < Q := ⟨_, rfl, by rw [Hp.next_lay]; omega⟩
  obtain ⟨Q, eQ, hQ⟩ := hexQ
  conv => whnf
  refine SeqP.cut (α := Unit) (fun _ => [(8, ptr Q 0), (1, .slice ac c.length cc)]) (fun _ H => H = (h.lay (.row 26 true bx)).lay (.row 96 true (qcells q))) ?_ ?_
  · conv => whnf
    refine ⟨_, cellAt_row a0 b3, ?_⟩
    conv => whnf
    refine ⟨rfl, ⟨by omega, by omega⟩, ?_⟩
    conv => whnf
    refine ⟨[int q.a, int q.b, int q.c, int q.d], by rw [offAt_eq]; simpa using hkc, ?_⟩
    conv => whnf
    refine ⟨rfl, _, storeAt_all (vs := [int q.a, int q.b, int q.c, int q.d]) rfl rfl rfl, ?_⟩
    conv => whnf
    exact ⟨(), ⟨congrArg (fun k => ptr k 0) eQ, rfl, trivial⟩, rfl, rfl⟩
  rintro _ φ2 H2 eH2
  have hQa : H2.at Q = some (.row 96 true (qcells q)) := by rw [eH2, ← eQ]; exact Hp.at_lay_self _ _
  have g2 : Grows h H2 := by rw [eH2]; exact g0.then_lay _
  clear eH2 eQ
  have hn2 : Q < H2.next := Hp.lt_of_at hQa
  conv => whnf
  refine SeqP.go ?_
  conv => whnf
  refine SeqP.cut (α := Nat × Bool) (fun s => [(9, slc s.1 0 n n), (8, ptr Q 0), (1, .slice ac c.length cc)]) (fun s H => BM h Q s.1 s.2 q c n H) ?_ ?_
  · conv => whnf
    refine AppP.ints (h0 := H2) (l := []) (new := c) (.inl ⟨rfl, rfl⟩) (Grows.refl _) (hw.ext g2).elems (by simp; omega) ?_
    intro v3 H3 hb3 hg3 _
    rw [List.nil_append] at hb3
    rcases hb3 with ⟨rfl, e⟩ | ⟨r, rfl, hr, x, hat⟩
    · rw [e] at hcl; simp at hcl; omega
    conv => whnf
    exact ⟨(r, x), ⟨by rw [← hcl]; rfl, rfl, rfl, trivial⟩, ⟨hat, hg3.at_ _ _ hQa, g2.trans hg3, hcl, by show h.next ≤ r; omega, by show Q ≠ r; omega⟩, rfl⟩
  rintro ⟨r, x⟩ φ3 H3 m0
  dsimp only at m0 ⊢
  have hb : ∀ j, -100 ≤ gl c j ∧ gl c j ≤ 100 := fun j => by
    have := hc.nn j
    have := hc.le j
    omega
  have hga := gl_bump2 (l := c) (j := q.a) (x := -1) (by omega)
  have b1l : (bump c (q.a, -1)).length = n := by rw [bump_len, hcl]
  have b2l : (bump (bump c (q.a, -1)) (q.b, -1)).length = n := by rw [bump_len, b1l]
  have hgb := gl_bump2 (l := bump c (q.a, -1)) (j := q.b) (x := -1) (by omega)
  have b3l : (bump (bump (bump c (q.a, -1)) (q.b, -1)) (q.c, 1)).length = n := by rw [bump_len, b2l]
  have b4l : (after c q).length = n := by rw [after_len, hcl]
  have g1 := gl_bd_bump (i := q.a) (x := -1) (by omega) hb (by omega)
  have g22 := gl_bd_bump (i := q.b) (x := -1) (by omega) g1 (by omega)
  have g3 := gl_bd_bump (i := q.c) (x := 1) (by omega) g22 (by omega)
  conv => whnf
  refine SeqP.cut (α := Unit) (fun _ => [(9, slc r 0 n n), (8, ptr Q 0), (1, .slice ac c.length cc)]) (fun _ H => BM h Q r x q (bump c (q.a, -1)) n H) ?_ ?_
  · have hx := hb q.a.toNat
    conv => whnf
    refine ⟨⟨by omega, by omega⟩, ?_⟩
    conv => whnf
    refine ⟨_, cellAt_row m0.qa rfl, ?_⟩
    conv => whnf
    refine ⟨rfl, ⟨by omega, by omega⟩, ?_⟩
    conv => whnf
    refine ⟨_, m0.load hq'.1, ?_⟩
    conv => whnf
    refine ⟨gl c q.a.toNat + -1, wie (by omega) (by omega), ?_⟩
    conv => whnf
    refine ⟨rfl, ⟨by omega, by omega⟩, ?_⟩
    conv => whnf
    refine ⟨rfl, _, m0.bump hq'.1 (-1), ?_⟩
    conv => whnf
    exact ⟨(), ⟨rfl, rfl, rfl, trivial⟩, m0.put _ (b1l), rfl⟩
  rintro _ φ_m1 H_m1 m1
  have hexl : ∃ l, bump c (q.a, -1) = l := ⟨_, rfl⟩
  obtain ⟨l1, el1⟩ := hexl
  rw [el1] at m1 g1 b1l hga hgb
  conv => whnf
  refine SeqP.cut (α := Unit) (fun _ => [(9, slc r 0 n n), (8, ptr Q 0), (1, .slice ac c.length cc)]) (fun _ H => BM h Q r x q (bump l1 (q.b, -1)) n H) ?_ ?_
  · have hx := g1 q.b.toNat
    conv => whnf
    refine ⟨⟨by omega, by omega⟩, ?_⟩
    conv => whnf
    refine ⟨_, cellAt_row m1.qa rfl, ?_⟩
    conv => whnf
    refine ⟨rfl, ⟨by omega, by omega⟩, ?_⟩
    conv => whnf
    refine ⟨_, m1.load hq'.2.1, ?_⟩
    conv => whnf
    refine ⟨gl l1 q.b.toNat + -1, wie (by omega) (by omega), ?_⟩
    conv => whnf
    refine ⟨rfl, ⟨by omega, by omega⟩, ?_⟩
    conv => whnf
    refine ⟨rfl, _, m1.bump hq'.2.1 (-1), ?_⟩
    conv => whnf
    exact ⟨(), ⟨rfl, rfl, rfl, trivial⟩, m1.put _ (by rw [← el1]; exact b2l), rfl⟩
  rintro _ φ_m2 H_m2 m2
  rw [el1] at b2l b3l g22 g3
  have hexl : ∃ l, bump l1 (q.b, -1) = l := ⟨_, rfl⟩
  obtain ⟨l2, el2⟩ := hexl
  rw [el2] at m2 g22 b2l b3l g3 hgb
  have hall : Allowed c q ↔ ¬ (gl l2 q.a.toNat < 0) ∧ ¬ (gl l2 q.b.toNat < 0) := by
    rw [hgb, hga, hgb, hga]
    unfold Allowed
    have i1 := ind_eq (rfl : q.a.toNat = q.a.toNat)
    have i2 := ind_eq (rfl : q.b.toNat = q.b.toNat)
    by_cases e : q.a = q.b
    · rw [if_pos e, e] at *
      omega
    · rw [if_neg e, ind_ne (show q.a.toNat ≠ q.b.toNat by omega), ind_ne (show q.b.toNat ≠ q.a.toNat by omega), i1, i2]
      omega
  conv => whnf
  refine SeqP.cut (α := Unit) (fun _ => [(9, slc r 0 n n), (8, ptr Q 0), (1, .slice ac c.length cc)]) (fun _ H => H_m2 = H ∧ Allowed c q) ?_ ?_
  · conv => whnf
    refine ⟨⟨by omega, by omega⟩, ?_⟩
    conv => whnf
    refine ⟨_, cellAt_row m2.qa rfl, ?_⟩
    conv => whnf
    refine ⟨rfl, ⟨by omega, by omega⟩, ?_⟩
    conv => whnf
    refine ⟨_, m2.load hq'.1, ?_⟩
    conv => whnf
    refine cmpB (fun c2 => ?_) (fun c2 => ?_)
    · have hna : ¬ Allowed c q := fun k => (hall.1 k).1 c2
      conv => whnf
      repeat (refine SeqP.go ?_; conv => whnf)
      exact ⟨⟨_, false, rfl, fun _ => ⟨rfl, rfl⟩, fun c' e => by rw [hno hna] at e; cases e⟩, m2.gr⟩
    conv => whnf
    refine ⟨⟨by omega, by omega⟩, ?_⟩
    conv => whnf
    refine ⟨_, cellAt_row m2.qa rfl, ?_⟩
    conv => whnf
    refine ⟨rfl, ⟨by omega, by omega⟩, ?_⟩
    conv => whnf
    refine ⟨_, m2.load hq'.2.1, ?_⟩
    conv => whnf
    refine cmpB (fun c3 => ?_) (fun c3 => ?_)
    · have hna : ¬ Allowed c q := fun k => (hall.1 k).2 c3
      conv => whnf
      repeat (refine SeqP.go ?_; conv => whnf)
      exact ⟨⟨_, false, rfl, fun _ => ⟨rfl, rfl⟩, fun c' e => by rw [hno hna] at e; cases e⟩, m2.gr⟩
    · conv => whnf
      repeat (refine SeqP.go ?_; conv => whnf)
      exact ⟨(), ⟨rfl, rfl, rfl, trivial⟩, ⟨rfl, hall.2 ⟨c2, c3⟩⟩, rfl⟩
  rintro _ φ8 _ ⟨rfl, hal⟩
  conv => whnf
  refine SeqP.cut (α := Unit) (fun _ => [(9, slc r 0 n n), (8, ptr Q 0), (1, .slice ac c.length cc)]) (fun _ H => BM h Q r x q (bump l2 (q.c, 1)) n H) ?_ ?_
  · have hx := g22 q.c.toNat
    conv => whnf
    refine ⟨⟨by omega, by omega⟩, ?_⟩
    conv => whnf
    refine ⟨_, cellAt_row m2.qa rfl, ?_⟩
    conv => whnf
    refine ⟨rfl, ⟨by omega, by omega⟩, ?_⟩
    conv => whnf
    refine ⟨_, m2.load hq'.2.2.1, ?_⟩
    conv => whnf
    refine ⟨gl l2 q.c.toNat + 1, wie (by omega) (by omega), ?_⟩
    conv => whnf
    refine ⟨rfl, ⟨by omega, by omega⟩, ?_⟩
    conv => whnf
    refine ⟨rfl, _, m2.bump hq'.2.2.1 (1), ?_⟩
    conv => whnf
    exact ⟨(), ⟨rfl, rfl, rfl, trivial⟩, m2.put _ (b3l), rfl⟩
  rintro _ φ_m3 H_m3 m3
  have hexl : ∃ l, bump l2 (q.c, 1) = l := ⟨_, rfl⟩
  obtain ⟨l3, el3⟩ := hexl
  rw [el3] at m3 b3l g3
  have eaf : after c q = bump l3 (q.d, 1) := by unfold after; rw [el1, el2, el3]
  have hyes := hyes hal
  rw [eaf] at b4l hyes
  conv => whnf
  refine SeqP.cut (α := Unit) (fun _ => [(9, slc r 0 n n), (8, ptr Q 0), (1, .slice ac c.length cc)]) (fun _ H => BM h Q r x q (bump l3 (q.d, 1)) n H) ?_ ?_
  · have hx := g3 q.d.toNat
    conv => whnf
    refine ⟨⟨by omega, by omega⟩, ?_⟩
    conv => whnf
    refine ⟨_, cellAt_row m3.qa rfl, ?_⟩
    conv => whnf
    refine ⟨rfl, ⟨by omega, by omega⟩, ?_⟩
    conv => whnf
    refine ⟨_, m3.load hq'.2.2.2, ?_⟩
    conv => whnf
    refine ⟨gl l3 q.d.toNat + 1, wie (by omega) (by omega), ?_⟩
    conv => whnf
    refine ⟨rfl, ⟨by omega, by omega⟩, ?_⟩
    conv => whnf
    refine ⟨rfl, _, m3.bump hq'.2.2.2 (1), ?_⟩
    conv => whnf
    exact ⟨(), ⟨rfl, rfl, rfl, trivial⟩, m3.put _ (b4l), rfl⟩
  rintro _ φ_m4 H_m4 m4
  conv => whnf
  repeat (refine SeqP.go ?_; conv => whnf)
  exact ⟨⟨_, true, rfl, fun e => (by rw [hyes] at e; cases e), fun c' e => by rw [hyes] at e; cases e; exact ⟨rfl, m4.built⟩⟩, m4.gr⟩
end
end Go.Proofs.Ytpiplaicnbapbaa
namespace Go.Proofs.Ytpiplaicnbapbaa
open Go.Rx Go.RowKit
def PL (h : Hp) (v : Value) (p : Prot) : Prop := ∃ vo vs vr, v = pval p.n vo vs vr ∧ View h vo p.out ∧ View h vs p.start ∧ LentV h vr p.rules.length (flat4 p.rules)
theorem PL.ext {h h' : Hp} {v : Value} {p : Prot} (g : Grows h h') (k : PL h v p) : PL h' v p := by
  obtain ⟨a, b, c, e, h1, h2, h3⟩ := k
  exact ⟨a, b, c, e, h1.ext g, h2.ext g, h3.ext g⟩
theorem flat4_take : ∀ (R : List Q4) (k : Nat), (flat4 R).take (k * 4) = flat4 (R.take k)
  | [], k => by simp [flat4]
  | q :: R, 0 => by simp [flat4]
  | q :: R, k + 1 => by
    have := flat4_take R k
    rw [show (k + 1) * 4 = k * 4 + 4 by omega]
    simp [flat4, this]
end Go.Proofs.Ytpiplaicnbapbaa
namespace Go.Proofs.Ytpiplaicnbapbaa
open Go.Rx Go.RowKit
def ql (q : Q4) : List Int := [q.a, q.b, q.c, q.d]
theorem ql_in {n : Int} {q : Q4} : QIn n q ↔ ∀ j, j < 4 → 0 ≤ gl (ql q) j ∧ gl (ql q) j ≤ n - 1 := by
  constructor
  · rintro ⟨h1, h2, h3, h4⟩ j hj
    match j, hj with
    | 0, _ => exact h1
    | 1, _ => exact h2
    | 2, _ => exact h3
    | 3, _ => exact h4
  · intro h
    exact ⟨h 0 (by omega), h 1 (by omega), h 2 (by omega), h 3 (by omega)⟩
theorem forall_gl {l : List Int} {P : Int → Prop} (h : ∀ j, j < l.length → P (gl l j)) : ∀ x ∈ l, P x := fun x hx => by
  obtain ⟨i, hi, rfl⟩ := List.getElem_of_mem hx
  rw [← gl_at hi]
  exact h i hi
theorem gl_forall {l : List Int} {P : Int → Prop} (h : ∀ x ∈ l, P x) {j : Nat} (hj : j < l.length) : P (gl l j) := by
  rw [gl_at hj]; exact h _ (List.getElem_mem _)
attribute [local irreducible] E idxN cellAt cellsAt storeAt callable helems hmoved lookIn findKey keyOk hentries Hp.at Hp.set Hp.lay arBits hupdated setAt CallP YieldP BoolOf IsWrap Rnd LoopP AppP CutP Int.tmod Int.tdiv Int.fdiv
section
variable [Unknowns]
attribute [local irreducible] ResP sameAt
theorem RCheck_spec (v : Value) (p : Prot) (h : Hp) (hv : PV h v p) (ho : p.out.length ≤ 1000000) (hs : p.start.length ≤ 1000000) (hr : p.rules.length ≤ 1000000) : CallP E 20 [v] h (fun r h' => (∃ b, r = .bool b ∧ BoolOf b (POk p)) ∧ Grows h h') := by
  obtain ⟨bx, rfl, hbl, b0, ⟨a1, b1, k1⟩, ⟨a2, b2, k2⟩, ⟨a3, b3, k3⟩, -⟩ := hv.box
  obtain ⟨n, out, start, R⟩ := p
  dsimp only at b0 b1 b2 b3 k1 k2 k3 ho hs hr
  have hat : (h.lay (.row 26 true bx)).at h.next = some (.row 26 true bx) := Hp.at_lay_self _ _
  have g0 : Grows h (h.lay (.row 26 true bx)) := Grows.lay _ _
  have bad : ∀ H, Grows h H → ¬ POk ⟨n, out, start, R⟩ → (∃ b, Value.bool false = .bool b ∧ BoolOf b (POk ⟨n, out, start, R⟩)) ∧ Grows h H := fun H g k => ⟨⟨false, rfl, bo_no k⟩, g⟩
  refine enter20 (by simp) ?_
  conv => whnf
  refine SeqP.go ?_
  conv => whnf
  refine SeqP.cut (α := Unit) (fun _ => [(3, int n), (1, ptr h.next 0)]) (fun _ H => H = h.lay (.row 26 true bx)) ?_ ?_
  · conv => whnf
    refine ⟨_, cellAt_row hat b0, ?_⟩
    conv => whnf
    exact ⟨(), ⟨rfl, rfl, trivial⟩, rfl, rfl⟩
  rintro _ φ1 _ rfl
  conv => whnf
  refine SeqP.cut (α := Unit) (fun _ => [(3, int n), (1, ptr h.next 0)]) (fun _ H => H = h.lay (.row 26 true bx) ∧ 1 ≤ n ∧ n ≤ 5 ∧ (out.length : Int) = n ∧ 1 ≤ start.length ∧ start.length ≤ 2 ∧ R.length ≤ 15) ?_ ?_
  · conv => whnf
    repeat (refine SeqP.go ?_; conv => whnf)
    refine cmpB (fun c1 => ?_) (fun c1 => ?_)
    · conv => whnf
      repeat (refine SeqP.go ?_; conv => whnf)
      exact bad _ g0 fun k => by have : 1 ≤ n := k.n1; omega
    conv => whnf
    refine cmpB (fun c2 => ?_) (fun c2 => ?_)
    · conv => whnf
      repeat (refine SeqP.go ?_; conv => whnf)
      exact bad _ g0 fun k => by have : n ≤ 5 := k.n5; omega
    conv => whnf
    refine ⟨_, cellAt_row hat b1, ?_⟩
    conv => whnf
    refine cmpB (fun c3 => ?_) (fun c3 => ?_)
    · conv => whnf
      repeat (refine SeqP.go ?_; conv => whnf)
      exact bad _ g0 fun k => c3 k.outl
    conv => whnf
    refine ⟨_, cellAt_row hat b2, ?_⟩
    conv => whnf
    refine cmpB (fun c4 => ?_) (fun c4 => ?_)
    · conv => whnf
      repeat (refine SeqP.go ?_; conv => whnf)
      exact bad _ g0 fun k => by have : 1 ≤ start.length := k.st1; omega
    conv => whnf
    refine ⟨_, cellAt_row hat b2, ?_⟩
    conv => whnf
    refine cmpB (fun c5 => ?_) (fun c5 => ?_)
    · conv => whnf
      repeat (refine SeqP.go ?_; conv => whnf)
      exact bad _ g0 fun k => by have : start.length ≤ 2 := k.st2; omega
    conv => whnf
    refine ⟨_, cellAt_row hat b3, ?_⟩
    conv => whnf
    refine cmpB (fun c6 => ?_) (fun c6 => ?_)
    · conv => whnf
      repeat (refine SeqP.go ?_; conv => whnf)
      exact bad _ g0 fun k => by have : R.length ≤ 15 := k.rl; omega
    · conv => whnf
      repeat (refine SeqP.go ?_; conv => whnf)
      exact ⟨(), ⟨rfl, rfl, trivial⟩, ⟨rfl, by omega, by omega, by omega, by omega, by omega, by omega⟩, rfl⟩
  rintro _ φ2 _ ⟨rfl, hn1, hn5, hol, hs1, hs2, hrl⟩
  conv => whnf
  refine SeqP.cut (α := Unit) (fun _ => [(3, int n), (1, ptr h.next 0)]) (fun _ H => H = h.lay (.row 26 true bx) ∧ ∀ x ∈ out, 0 ≤ x ∧ x ≤ 1) ?_ ?_
  · conv => whnf
    repeat (refine SeqP.go ?_; conv => whnf)
    refine loop_inv (α := Nat) (fun k => [(4, int k), (3, int n), (1, ptr h.next 0)]) (fun k => h.lay (.row 26 true bx)) (fun k => k ≤ out.length ∧ ∀ j, j < k → 0 ≤ gl out j ∧ gl out j ≤ 1) (fun k => out.length - k) 0 ⟨Nat.zero_le _, fun j hj => by omega⟩ ⟨rfl, rfl, rfl, trivial⟩ (Hp.Le.refl _) ?_
    rintro k φ ⟨hk, hin⟩
    conv => whnf
    repeat (refine SeqP.go ?_; conv => whnf)
    refine cmpB (fun c1 => ?_) (fun c1 => ?_)
    rotate_left
    · conv => whnf
      repeat (refine SeqP.go ?_; conv => whnf)
      exact ⟨(), ⟨rfl, rfl, trivial⟩, ⟨rfl, forall_gl fun j hj => hin j (by omega)⟩, rfl⟩
    have hkl : k < out.length := by omega
    have hc := (k1.ints.ext g0)
    obtain ⟨ak, ck, ew, hcc⟩ := hc
    cases ew
    have hc := hcc k hkl
    obtain ⟨r, o, sp, ea, hsp, hci⟩ := hc
    subst ea
    have e1 := gl_at hkl
    rw [← e1] at hci
    have hbad : ¬ (0 ≤ gl out k ∧ gl out k ≤ 1) → ¬ POk ⟨n, out, start, R⟩ := fun k1 k2 => k1 (gl_forall (P := fun x => 0 ≤ x ∧ x ≤ 1) k2.outs hkl)
    have hlo : ∀ e : 0 ≤ gl out k ∧ gl out k ≤ 1, ∀ j, j < k + 1 → 0 ≤ gl out j ∧ gl out j ≤ 1 := fun e j hj => by
      by_cases e2 : j = k
      · rw [e2]; exact e
      · exact hin j (by omega)
    conv => whnf
    repeat (refine SeqP.go ?_; conv => whnf)
    refine ⟨_, cellAt_row hat b1, ?_⟩
    conv => whnf
    refine ⟨hsp, ⟨by omega, by omega⟩, ?_⟩
    conv => whnf
    refine ⟨int (gl out k), by rw [offAt_eq, Nat.add_comm]; simpa using hci, ?_⟩
    conv => whnf
    refine cmpB (fun c2 => ?_) (fun c2 => ?_)
    · conv => whnf
      refine ⟨_, cellAt_row hat b1, ?_⟩
      conv => whnf
      refine ⟨hsp, ⟨by omega, by omega⟩, ?_⟩
      conv => whnf
      refine ⟨int (gl out k), by rw [offAt_eq, Nat.add_comm]; simpa using hci, ?_⟩
      conv => whnf
      refine cmpB (fun c3 => ?_) (fun c3 => ?_)
      · conv => whnf
        repeat (refine SeqP.go ?_; conv => whnf)
        exact bad _ g0 (hbad fun e => by omega)
      · conv => whnf
        repeat (refine SeqP.go ?_; conv => whnf)
        refine ⟨((k + 1 : Nat) : Int), wie (by omega) (by omega), ?_⟩
        conv => whnf
        exact Rnd.mk (k + 1) ⟨by show k + 1 ≤ _; omega, hlo (by omega)⟩ (by show _ - (k + 1) < _ - k; omega) ⟨rfl, rfl, rfl, trivial⟩ (Hp.Le.refl _) rfl
    · conv => whnf
      repeat (refine SeqP.go ?_; conv => whnf)
      refine ⟨((k + 1 : Nat) : Int), wie (by omega) (by omega), ?_⟩
      conv => whnf
      exact Rnd.mk (k + 1) ⟨by show k + 1 ≤ _; omega, hlo (by omega)⟩ (by show _ - (k + 1) < _ - k; omega) ⟨rfl, rfl, rfl, trivial⟩ (Hp.Le.refl _) rfl
  rintro _ φ3 _ ⟨rfl, hos⟩
  conv => whnf
  refine SeqP.cut (α := Unit) (fun _ => [(3, int n), (1, ptr h.next 0)]) (fun _ H => H = h.lay (.row 26 true bx) ∧ ∀ x ∈ start, 0 ≤ x ∧ x ≤ n - 1) ?_ ?_
  · conv => whnf
    repeat (refine SeqP.go ?_; conv => whnf)
    refine loop_inv (α := Nat) (fun k => [(5, int k), (3, int n), (1, ptr h.next 0)]) (fun k => h.lay (.row 26 true bx)) (fun k => k ≤ start.length ∧ ∀ j, j < k → 0 ≤ gl start j ∧ gl start j ≤ n - 1) (fun k => start.length - k) 0 ⟨Nat.zero_le _, fun j hj => by omega⟩ ⟨rfl, rfl, rfl, trivial⟩ (Hp.Le.refl _) ?_
    rintro k φ ⟨hk, hin⟩
    conv => whnf
    repeat (refine SeqP.go ?_; conv => whnf)
    refine ⟨_, cellAt_row hat b2, ?_⟩
    conv => whnf
    refine cmpB (fun c1 => ?_) (fun c1 => ?_)
    rotate_left
    · conv => whnf
      repeat (refine SeqP.go ?_; conv => whnf)
      exact ⟨(), ⟨rfl, rfl, trivial⟩, ⟨rfl, forall_gl (P := fun x => 0 ≤ x ∧ x ≤ n - 1) fun j hj => hin j (by omega)⟩, rfl⟩
    have hkl : k < start.length := by omega
    have hc := (k2.ints.ext g0)
    obtain ⟨ak, ck, ew, hcc⟩ := hc
    cases ew
    have hc := hcc k hkl
    obtain ⟨r, o, sp, ea, hsp, hci⟩ := hc
    subst ea
    have e1 := gl_at hkl
    rw [← e1] at hci
    have hbad : ¬ (0 ≤ gl start k ∧ gl start k ≤ n - 1) → ¬ POk ⟨n, out, start, R⟩ := fun k1 k2 => k1 (gl_forall (P := fun x => 0 ≤ x ∧ x ≤ n - 1) k2.sts hkl)
    have hlo : ∀ e : 0 ≤ gl start k ∧ gl start k ≤ n - 1, ∀ j, j < k + 1 → 0 ≤ gl start j ∧ gl start j ≤ n - 1 := fun e j hj => by
      by_cases e2 : j = k
      · rw [e2]; exact e
      · exact hin j (by omega)
    conv => whnf
    repeat (refine SeqP.go ?_; conv => whnf)
    refine ⟨_, cellAt_row hat b2, ?_⟩
    conv => whnf
    refine ⟨hsp, ⟨by omega, by omega⟩, ?_⟩
    conv => whnf
    refine ⟨int (gl start k), by rw [offAt_eq, Nat.add_comm]; simpa using hci, ?_⟩
    conv => whnf
    refine cmpB (fun c2 => ?_) (fun c2 => ?_)
    · conv => whnf
      repeat (refine SeqP.go ?_; conv => whnf)
      exact bad _ g0 (hbad fun e => by omega)
    conv => whnf
    refine ⟨_, cellAt_row hat b2, ?_⟩
    conv => whnf
    refine ⟨hsp, ⟨by omega, by omega⟩, ?_⟩
    conv => whnf
    refine ⟨int (gl start k), by rw [offAt_eq, Nat.add_comm]; simpa using hci, ?_⟩
    conv => whnf
    refine cmpB (fun c3 => ?_) (fun c3 => ?_)
    · conv => whnf
      repeat (refine SeqP.go ?_; conv => whnf)
      exact bad _ g0 (hbad fun e => by omega)
    · conv => whnf
      repeat (refine SeqP.go ?_; conv => whnf)
      refine ⟨((k + 1 : Nat) : Int), wie (by omega) (by omega), ?_⟩
      conv => whnf
      exact Rnd.mk (k + 1) ⟨by show k + 1 ≤ _; omega, hlo (by omega)⟩ (by show _ - (k + 1) < _ - k; omega) ⟨rfl, rfl, rfl, trivial⟩ (Hp.Le.refl _) rfl
  rintro _ φ4 _ ⟨rfl, hss⟩
  conv => whnf
  refine SeqP.cut (α := Unit) (fun _ => []) (fun _ H => Grows h H ∧ ROk n R R.length) ?_ ?_
  rotate_left
  · rintro _ φ9 H9 ⟨g9, hro⟩
    conv => whnf
    repeat (refine SeqP.go ?_; conv => whnf)
    exact ⟨⟨true, rfl, bo_yes ⟨hn1, hn5, hol, hos, hs1, hs2, hss, hrl, hro⟩⟩, g9⟩
  obtain ⟨a3', e3', hkf⟩ := RV.cells k3
  cases e3'
  conv => whnf
  repeat (refine SeqP.go ?_; conv => whnf)
  refine loop_inv (α := Nat × Hp) (fun s => [(6, int s.1), (3, int n), (1, ptr h.next 0)]) (fun s => s.2) (fun s => s.1 ≤ R.length ∧ Grows (h.lay (.row 26 true bx)) s.2 ∧ ROk n R s.1) (fun s => R.length - s.1) (0, _) ⟨Nat.zero_le _, .refl _, fun k _ h0 => by omega⟩ ⟨rfl, rfl, rfl, trivial⟩ (Hp.Le.refl _) ?_
  rintro ⟨k, H⟩ φ5 ⟨hk, hg, hro⟩
  dsimp only at hk hg hro ⊢
  have hatH := hg.at_ _ _ hat
  have hgA := g0.trans hg
  conv => whnf
  repeat (refine SeqP.go ?_; conv => whnf)
  refine ⟨_, cellAt_row hatH b3, ?_⟩
  conv => whnf
  refine cmpB (fun c1 => ?_) (fun c1 => ?_)
  rotate_left
  · have : k = R.length := by omega
    subst this
    conv => whnf
    repeat (refine SeqP.go ?_; conv => whnf)
    exact ⟨(), trivial, ⟨hgA, hro⟩, rfl⟩
  have hkl : k < R.length := by omega
  have hkg := hkf k hkl
  obtain ⟨rr, ear, hkc⟩ := hkg
  subst ear
  have hkc := hgA.cells hkc
  have bad2 : ¬ RuleOk n R k hkl → ¬ POk ⟨n, out, start, R⟩ := fun hno hp => hno (hp.rs k hkl hkl)
  unfold RuleOk at bad2
  have hexq : ∃ q, R[k] = q := ⟨_, rfl⟩
  obtain ⟨q, eq⟩ := hexq
  rw [eq] at hkc bad2
  conv => whnf
  refine SeqP.cut (α := Hp) (fun s => [(6, int k), (3, int n), (1, ptr h.next 0)]) (fun s H' => s = H' ∧ Grows H s ∧ RuleOk n R k hkl) ?_ ?_
  rotate_left
  · rintro H1 φ6 _ ⟨rfl, hg1, hok⟩
    conv => whnf
    refine ⟨((k + 1 : Nat) : Int), wie (by omega) (by omega), ?_⟩
    conv => whnf
    refine Rnd.mk (k + 1, H1) ⟨by show k + 1 ≤ R.length; omega, hg.trans hg1, fun j hj hj2 => ?_⟩ (by show R.length - (k + 1) < R.length - k; omega) ⟨rfl, rfl, rfl, trivial⟩ (Hp.Le.refl _) rfl
    by_cases e : j = k
    · subst e; exact hok
    · exact hro j hj (by omega)
  conv => whnf
  refine SeqP.cut (α := Hp) (fun s => [(7, ptr H.next 0), (6, int k), (3, int n), (1, ptr h.next 0)]) (fun s H' => s = H' ∧ s = H.lay (.row 96 true ((ql q).map int))) ?_ ?_
  · conv => whnf
    refine ⟨_, cellAt_row hatH b3, ?_⟩
    conv => whnf
    refine ⟨rfl, ⟨by omega, by omega⟩, ?_⟩
    conv => whnf
    refine ⟨[int q.a, int q.b, int q.c, int q.d], by rw [offAt_eq]; simpa using hkc, ?_⟩
    conv => whnf
    refine ⟨rfl, _, storeAt_all (vs := [int q.a, int q.b, int q.c, int q.d]) rfl rfl rfl, ?_⟩
    conv => whnf
    exact ⟨_, ⟨rfl, rfl, rfl, rfl, trivial⟩, ⟨rfl, rfl⟩, rfl⟩
  rintro H1 φ6 _ ⟨rfl, eH1⟩
  have hq1 : H1.at H.next = some (.row 96 true ((ql q).map int)) := by rw [eH1]; exact Hp.at_lay_self _ _
  have hg1 : Grows H H1 := by rw [eH1]; exact Grows.lay _ _
  clear eH1
  have hat1 := hg1.at_ _ _ hatH
  have hgB := hgA.trans hg1
  have hql : (ql q).length = 4 := rfl
  conv => whnf
  refine SeqP.cut (α := Unit) (fun _ => [(7, ptr H.next 0), (6, int k), (3, int n), (1, ptr h.next 0)]) (fun s H' => H1 = H' ∧ QIn n q) ?_ ?_
  · conv => whnf
    repeat (refine SeqP.go ?_; conv => whnf)
    refine loop_inv (α := Nat) (fun j => [(8, int j), (7, ptr H.next 0), (6, int k), (3, int n), (1, ptr h.next 0)]) (fun _ => H1) (fun j => j ≤ 4 ∧ ∀ i, i < j → 0 ≤ gl (ql q) i ∧ gl (ql q) i ≤ n - 1) (fun j => 4 - j) 0 ⟨Nat.zero_le _, fun i hi => by omega⟩ ⟨rfl, rfl, rfl, rfl, rfl, trivial⟩ (Hp.Le.refl _) ?_
    rintro j φ7 ⟨hj, hin⟩
    conv => whnf
    repeat (refine SeqP.go ?_; conv => whnf)
    refine cmpB (fun c2 => ?_) (fun c2 => ?_)
    rotate_left
    · conv => whnf
      repeat (refine SeqP.go ?_; conv => whnf)
      exact ⟨(), ⟨rfl, rfl, rfl, rfl, trivial⟩, ⟨rfl, ql_in.2 fun i hi => hin i (by omega)⟩, rfl⟩
    have hj4 : j < 4 := by omega
    have hld : cellAt H1 H.next (offAt 0 ((j : Int)).toNat 1) = some (int (gl (ql q) j)) := by
      have := row_load hq1 (i := j) (by rw [hql]; exact hj4)
      rw [offAt_eq]
      simpa using this
    have hbad : ¬ (0 ≤ gl (ql q) j ∧ gl (ql q) j ≤ n - 1) → ¬ POk ⟨n, out, start, R⟩ := fun x => bad2 fun y => x (ql_in.1 y.1 j hj4)
    conv => whnf
    repeat (refine SeqP.go ?_; conv => whnf)
    refine ⟨⟨by omega, by omega⟩, ?_⟩
    conv => whnf
    refine ⟨_, hld, ?_⟩
    conv => whnf
    refine cmpB (fun c3 => ?_) (fun c3 => ?_)
    · conv => whnf
      repeat (refine SeqP.go ?_; conv => whnf)
      exact bad _ hgB (hbad fun e => by omega)
    conv => whnf
    refine ⟨⟨by omega, by omega⟩, ?_⟩
    conv => whnf
    refine ⟨_, hld, ?_⟩
    conv => whnf
    refine cmpB (fun c4 => ?_) (fun c4 => ?_)
    · conv => whnf
      repeat (refine SeqP.go ?_; conv => whnf)
      exact bad _ hgB (hbad fun e => by omega)
    · conv => whnf
      repeat (refine SeqP.go ?_; conv => whnf)
      refine ⟨((j + 1 : Nat) : Int), wie (by omega) (by omega), ?_⟩
      conv => whnf
      refine Rnd.mk (j + 1) ⟨by show j + 1 ≤ _; omega, fun i hi => ?_⟩ (by show _ - (j + 1) < _ - j; omega) ⟨rfl, rfl, rfl, rfl, rfl, trivial⟩ (Hp.Le.refl _) rfl
      by_cases e2 : i = j
      · rw [e2]; omega
      · exact hin i (by omega)
  rintro _ φ8 _ ⟨rfl, hqin⟩
  conv => whnf
  refine SeqP.cut (α := Unit) (fun _ => [(7, ptr H.next 0), (6, int k), (3, int n), (1, ptr h.next 0)]) (fun s H' => H1 = H' ∧ q.a ≤ q.b) ?_ ?_
  · conv => whnf
    refine ⟨⟨by omega, by omega⟩, ?_⟩
    conv => whnf
    refine ⟨int q.a, cellAt_row hq1 rfl, ?_⟩
    conv => whnf
    refine ⟨⟨by omega, by omega⟩, ?_⟩
    conv => whnf
    refine ⟨int q.b, cellAt_row hq1 rfl, ?_⟩
    conv => whnf
    refine cmpB (fun c3 => ?_) (fun c3 => ?_)
    · conv => whnf
      repeat (refine SeqP.go ?_; conv => whnf)
      exact bad _ hgB (bad2 fun y => by have := y.2.1; omega)
    · conv => whnf
      repeat (refine SeqP.go ?_; conv => whnf)
      exact ⟨(), ⟨rfl, rfl, rfl, rfl, trivial⟩, ⟨rfl, by omega⟩, rfl⟩
  rintro _ φ9 _ ⟨rfl, hab⟩
  conv => whnf
  repeat (refine SeqP.go ?_; conv => whnf)
  refine cmpB (fun c3 => ?_) (fun c3 => ?_)
  rotate_left
  · conv => whnf
    repeat (refine SeqP.go ?_; conv => whnf)
    refine ⟨H1, ⟨rfl, rfl, rfl, trivial⟩, ⟨rfl, hg1, ?_⟩, rfl⟩
    unfold RuleOk
    rw [eq]
    exact ⟨hqin, hab, fun h0 => by omega⟩
  have hk0 : 0 < k := by omega
  have hkg := hkf (k - 1) (by omega)
  obtain ⟨rr', ear, hkc2⟩ := hkg
  cases ear
  have hkc2 := hgB.cells hkc2
  have hexq : ∃ y, R[k - 1]'(by omega) = y := ⟨_, rfl⟩
  obtain ⟨y, ey⟩ := hexq
  rw [ey] at hkc2
  have bad3 : ¬ QLess y q → ¬ POk ⟨n, out, start, R⟩ := fun x => bad2 fun z => x (by rw [← ey]; exact z.2.2 hk0)
  conv => whnf
  refine SeqP.cut (α := Hp × Nat) (fun s => [(9, ptr s.2 0), (7, ptr H.next 0), (6, int k), (3, int n), (1, ptr h.next 0)]) (fun s H' => s.1 = H' ∧ Grows H1 s.1 ∧ s.1.at s.2 = some (.row 96 true ((ql y).map int))) ?_ ?_
  · conv => whnf
    refine ⟨_, cellAt_row hat1 b3, ?_⟩
    conv => whnf
    refine ⟨((k - 1 : Nat) : Int), wie (by omega) (by omega), ?_⟩
    conv => whnf
    refine ⟨rfl, ⟨by omega, by omega⟩, ?_⟩
    conv => whnf
    refine ⟨[int y.a, int y.b, int y.c, int y.d], by rw [offAt_eq]; simpa using hkc2, ?_⟩
    conv => whnf
    refine ⟨rfl, _, storeAt_all (vs := [int y.a, int y.b, int y.c, int y.d]) rfl rfl rfl, ?_⟩
    conv => whnf
    exact ⟨(_, H1.next), ⟨rfl, rfl, rfl, rfl, rfl, trivial⟩, ⟨rfl, Grows.lay _ _, Hp.at_lay_self _ _⟩, rfl⟩
  rintro ⟨H2, Y⟩ φ10 _ ⟨rfl, hg2, hY⟩
  dsimp only at hg2 hY ⊢
  have hq2 := hg2.at_ _ _ hq1
  have hok : QLess y q → RuleOk n R k hkl := fun x => by
    unfold RuleOk
    rw [eq]
    exact ⟨hqin, hab, fun h0 => by rw [ey]; exact x⟩
  conv => whnf
  repeat (refine SeqP.go ?_; conv => whnf)
  refine ⟨⟨by omega, by omega⟩, ?_⟩
  conv => whnf
  refine ⟨int y.a, cellAt_row hY rfl, ?_⟩
  conv => whnf
  refine ⟨⟨by omega, by omega⟩, ?_⟩
  conv => whnf
  refine ⟨int q.a, cellAt_row hq2 rfl, ?_⟩
  conv => whnf
  refine cmpB (fun c4 => ?_) (fun c4 => ?_)
  · conv => whnf
    repeat (refine SeqP.go ?_; conv => whnf)
    exact bad _ (hgB.trans hg2) (bad3 fun z => by unfold QLess at z; omega)
  conv => whnf
  refine ⟨⟨by omega, by omega⟩, ?_⟩
  conv => whnf
  refine ⟨int y.a, cellAt_row hY rfl, ?_⟩
  conv => whnf
  refine ⟨⟨by omega, by omega⟩, ?_⟩
  conv => whnf
  refine ⟨int q.a, cellAt_row hq2 rfl, ?_⟩
  conv => whnf
  refine cmpB (fun c5 => ?_) (fun c5 => ?_)
  · conv => whnf
    refine ⟨⟨by omega, by omega⟩, ?_⟩
    conv => whnf
    refine ⟨int y.b, cellAt_row hY rfl, ?_⟩
    conv => whnf
    refine ⟨⟨by omega, by omega⟩, ?_⟩
    conv => whnf
    refine ⟨int q.b, cellAt_row hq2 rfl, ?_⟩
    conv => whnf
    refine cmpB (fun c6 => ?_) (fun c6 => ?_)
    · conv => whnf
      repeat (refine SeqP.go ?_; conv => whnf)
      exact bad _ (hgB.trans hg2) (bad3 fun z => by unfold QLess at z; omega)
    · conv => whnf
      repeat (refine SeqP.go ?_; conv => whnf)
      exact ⟨H2, ⟨rfl, rfl, rfl, trivial⟩, ⟨rfl, hg1.trans hg2, hok (by unfold QLess; omega)⟩, rfl⟩
  · conv => whnf
    repeat (refine SeqP.go ?_; conv => whnf)
    exact ⟨H2, ⟨rfl, rfl, rfl, trivial⟩, ⟨rfl, hg1.trans hg2, hok (by unfold QLess; omega)⟩, rfl⟩
end
end Go.Proofs.Ytpiplaicnbapbaa
namespace Go.Proofs.Ytpiplaicnbapbaa
open Go.Rx Go.RowKit
inductive Rs (R : List Q4) : List Int → List Int → Prop
  | refl (c) : Rs R c c
  | tail {c d e i} : Rs R c d → step R d i = some e → Rs R c e
theorem Rs.trans {R : List Q4} {a b c : List Int} (h : Rs R a b) (k : Rs R b c) : Rs R a c := by
  induction k with
  | refl => exact h
  | tail _ hs ih => exact ih.tail hs
theorem Rs.one {R : List Q4} {a b : List Int} {i : Int} (h : step R a i = some b) : Rs R a b := (Rs.refl a).tail h
theorem Rs.head {R : List Q4} {a b c : List Int} {i : Int} (h : step R a i = some b) (k : Rs R b c) : Rs R a c := (Rs.one h).trans k
theorem Rs.ok {n : Nat} {R : List Q4} (hR : ∀ x ∈ R, QIn n x) {c d : List Int} (h : Rs R c d) (hc : CrOk n c) : CrOk n d := by
  induction h with
  | refl => exact hc
  | tail _ hs ih => exact step_ok hR ih hs
structure Gr (R : List Q4) (c : List Int) (L : List (List Int)) : Prop where
  nodup : L.Nodup
  first : L[0]? = some c
  from_ : ∀ d ∈ L, Rs R c d
  closed : ∀ d ∈ L, ∀ i e, step R d i = some e → e ∈ L
theorem Gr.pos {R : List Q4} {c : List Int} {L : List (List Int)} (g : Gr R c L) : 0 < L.length := by
  have := g.first
  cases L with
  | nil => cases this
  | cons x l => simp
theorem Gr.mem {R : List Q4} {c : List Int} {L : List (List Int)} (g : Gr R c L) {d : List Int} : d ∈ L ↔ Rs R c d := by
  refine ⟨g.from_ d, fun h => ?_⟩
  induction h with
  | refl => exact List.mem_of_getElem? g.first
  | tail _ hs ih => exact g.closed _ ih _ _ hs
def Ed (R : List Q4) (L : List (List Int)) (a b : Nat) : Prop := ∃ d e i, L[a]? = some d ∧ L[b]? = some e ∧ step R d i = some e
theorem Ed.lt {R : List Q4} {L : List (List Int)} {a b : Nat} (h : Ed R L a b) : a < L.length ∧ b < L.length := by
  obtain ⟨d, e, i, h1, h2, _⟩ := h
  exact ⟨(List.getElem?_eq_some_iff.1 h1).1, (List.getElem?_eq_some_iff.1 h2).1⟩
inductive Pt (R : List Q4) (L : List (List Int)) : Nat → Nat → Prop
  | refl (a) : Pt R L a a
  | head {a b t} : Ed R L a b → Pt R L b t → Pt R L a t
theorem Pt.trans {R : List Q4} {L : List (List Int)} {a b c : Nat} (h : Pt R L a b) (k : Pt R L b c) : Pt R L a c := by
  induction h with
  | refl => exact k
  | head e _ ih => exact .head e (ih k)
theorem Pt.lt {R : List Q4} {L : List (List Int)} {a b : Nat} (h : Pt R L a b) (ha : a < L.length) : b < L.length := by
  induction h with
  | refl => exact ha
  | head e _ ih => exact ih e.lt.2
theorem Pt.rs {R : List Q4} {L : List (List Int)} {a b : Nat} (h : Pt R L a b) : ∀ {d e : List Int}, L[a]? = some d → L[b]? = some e → Rs R d e := by
  induction h with
  | refl => intro d e h1 h2; rw [h1] at h2; cases h2; exact .refl _
  | head e _ ih =>
    intro d e' h1 h2
    obtain ⟨d1, e1, i, k1, k2, k3⟩ := e
    rw [k1] at h1
    cases h1
    exact .head k3 (ih k2 h2)
theorem Gr.pt {R : List Q4} {c : List Int} {L : List (List Int)} (g : Gr R c L) {a : Nat} {d e : List Int} (h1 : L[a]? = some d) (h : Rs R d e) : ∃ b, L[b]? = some e ∧ Pt R L a b := by
  induction h with
  | refl => exact ⟨a, h1, .refl _⟩
  | tail _ hs ih =>
    obtain ⟨b, h2, h3⟩ := ih
    have hm := g.closed _ (List.mem_of_getElem? h2) _ _ hs
    obtain ⟨k, hk⟩ := List.getElem?_of_mem hm
    exact ⟨k, hk, h3.trans (.head ⟨_, _, _, h2, hk, hs⟩ (.refl _))⟩
def Lead (R : List Q4) (L : List (List Int)) (T : Nat → Prop) (a : Nat) : Prop := ∃ t, T t ∧ Pt R L a t
theorem Lead.self {R : List Q4} {L : List (List Int)} {T : Nat → Prop} {a : Nat} (h : T a) : Lead R L T a := ⟨a, h, .refl _⟩
theorem Lead.back {R : List Q4} {L : List (List Int)} {T : Nat → Prop} {a b : Nat} (h : Lead R L T b) (e : Ed R L a b) : Lead R L T a := by
  obtain ⟨t, h1, h2⟩ := h
  exact ⟨t, h1, .head e h2⟩
theorem Lead.least {R : List Q4} {L : List (List Int)} {T M : Nat → Prop} (h1 : ∀ t, T t → M t) (h2 : ∀ a b, Ed R L a b → M b → M a) {a : Nat} (h : Lead R L T a) : M a := by
  obtain ⟨t, ht, hp⟩ := h
  induction hp with
  | refl => exact h1 _ ht
  | head e _ ih => exact h2 _ _ e (ih ht)
def AllOut (out : List Int) (on : Int) (c : List Int) : Prop := ∀ s, s < out.length → 0 < gl c s → gl out s = on
def Oth (out : List Int) (on : Int) (L : List (List Int)) (a : Nat) : Prop := ∃ d, L[a]? = some d ∧ ¬ AllOut out on d
def SettC (R : List Q4) (out : List Int) (on : Int) (c : List Int) : Prop := ∀ d, Rs R c d → AllOut out on d
def DeciC (R : List Q4) (out : List Int) (on : Int) (c : List Int) : Prop := ∀ d, Rs R c d → ∃ e, Rs R d e ∧ SettC R out on e
def SetN (R : List Q4) (out : List Int) (on : Int) (L : List (List Int)) (a : Nat) : Prop := a < L.length ∧ ¬ Lead R L (Oth out on L) a
theorem Gr.sett {R : List Q4} {c : List Int} {L : List (List Int)} (g : Gr R c L) {out : List Int} {on : Int} {a : Nat} {d : List Int} (h : L[a]? = some d) : SetN R out on L a ↔ SettC R out on d := by
  constructor
  · rintro ⟨h1, h2⟩ e he
    refine Classical.byContradiction fun hn => h2 ?_
    obtain ⟨b, h3, h4⟩ := g.pt h he
    exact ⟨b, ⟨e, h3, hn⟩, h4⟩
  · intro h1
    refine ⟨(List.getElem?_eq_some_iff.1 h).1, ?_⟩
    rintro ⟨t, ⟨e, h2, h3⟩, h4⟩
    exact h3 (h1 e (h4.rs h h2))
theorem Gr.settled {R : List Q4} {c : List Int} {L : List (List Int)} (g : Gr R c L) {out : List Int} {on : Int} : SetN R out on L 0 ↔ SettC R out on c := g.sett g.first
theorem Gr.decides {R : List Q4} {c : List Int} {L : List (List Int)} (g : Gr R c L) {out : List Int} {on : Int} : (∀ a, a < L.length → Lead R L (SetN R out on L) a) ↔ DeciC R out on c := by
  constructor
  · intro h d hd
    obtain ⟨a, ha⟩ := List.getElem?_of_mem (g.mem.2 hd)
    obtain ⟨t, h1, h2⟩ := h a (List.getElem?_eq_some_iff.1 ha).1
    have ht := List.getElem?_eq_getElem h1.1
    exact ⟨_, h2.rs ha ht, (g.sett ht).1 h1⟩
  · intro h a ha
    have h1 := List.getElem?_eq_getElem ha
    obtain ⟨e, h2, h3⟩ := h _ (g.from_ _ (List.getElem_mem ha))
    obtain ⟨b, h4, h5⟩ := g.pt h1 h2
    exact ⟨b, (g.sett h4).2 h3, h5⟩
def firstOf (P : Int → Prop) (r : Int × Bool) : Prop := (P 0 → r = (0, true)) ∧ (¬ P 0 → P 1 → r = (1, true)) ∧ (¬ P 0 → ¬ P 1 → r = (0, false))
theorem firstOf.uniq {P : Int → Prop} {r s : Int × Bool} (h : firstOf P r) (k : firstOf P s) : r = s := by
  by_cases h0 : P 0
  · rw [h.1 h0, k.1 h0]
  · by_cases h1 : P 1
    · rw [h.2.1 h0 h1, k.2.1 h0 h1]
    · rw [h.2.2 h0 h1, k.2.2 h0 h1]
end Go.Proofs.Ytpiplaicnbapbaa
namespace Go.Proofs.Ytpiplaicnbapbaa
open Go.Rx Go.RowKit
theorem nodup_lt : ∀ (N : Nat) (l : List Nat), l.Nodup → (∀ x ∈ l, x < N) → l.length ≤ N
  | 0, l, _, h => by
    cases l with
    | nil => simp
    | cons x l => exact absurd (h x (by simp)) (Nat.not_lt_zero _)
  | N + 1, l, hn, h => by
    by_cases hm : N ∈ l
    · have h1 := nodup_lt N (l.erase N) (hn.erase N) (fun x hx => by
        have h2 := (List.Nodup.mem_erase_iff hn).1 hx
        have h3 := h x h2.2
        have h4 := h2.1
        omega)
      rw [List.length_erase_of_mem hm] at h1
      omega
    · have h1 := nodup_lt N l hn (fun x hx => by
        have h3 := h x hx
        have h4 : x ≠ N := fun e => hm (e ▸ hx)
        omega)
      omega
theorem nodup_map {α β : Type} {f : α → β} : ∀ {l : List α}, l.Nodup → (∀ a ∈ l, ∀ b ∈ l, f a = f b → a = b) → (l.map f).Nodup
  | [], _, _ => by simp
  | x :: l, hn, h => by
    have hc := List.nodup_cons.1 hn
    rw [List.map_cons, List.nodup_cons]
    refine ⟨fun hm => ?_, nodup_map hc.2 fun a ha b hb => h a (by simp [ha]) b (by simp [hb])⟩
    obtain ⟨y, hy, e⟩ := List.mem_map.1 hm
    have := h y (by simp [hy]) x (by simp) e
    subst this
    exact hc.1 hy
structure Gp (R : List Q4) (n : Nat) (c : List Int) (L : List (List Int)) (i : Nat) : Prop where
  nodup : L.Nodup
  first : L[0]? = some c
  from_ : ∀ d ∈ L, Rs R c d
  ok : ∀ d ∈ L, CrOk n d
  clo : ∀ a d, a < i → L[a]? = some d → ∀ k e, step R d k = some e → e ∈ L
theorem Gp.start {R : List Q4} {n : Nat} {c : List Int} (hc : CrOk n c) : Gp R n c [c] 0 :=
  ⟨by simp, rfl, fun d hd => by rw [List.mem_singleton.1 hd]; exact .refl _, fun d hd => by rw [List.mem_singleton.1 hd]; exact hc, fun a d h => absurd h (Nat.not_lt_zero _)⟩
theorem Gp.pos {R : List Q4} {n : Nat} {c : List Int} {L : List (List Int)} {i : Nat} (g : Gp R n c L i) : 0 < L.length := by
  have := g.first
  cases L with
  | nil => cases this
  | cons x l => simp
theorem getE_snoc {α : Type} {L : List α} {a : Nat} {d x : α} (h : L[a]? = some d) : (L ++ [x])[a]? = some d := by
  rw [List.getElem?_append_left (List.getElem?_eq_some_iff.1 h).1]
  exact h
theorem Gp.add {R : List Q4} {n : Nat} {c : List Int} {L : List (List Int)} {i : Nat} (g : Gp R n c L i) (hi : i ≤ L.length) (hR : ∀ x ∈ R, QIn n x) {d e : List Int} {k : Int} (hd : d ∈ L) (hs : step R d k = some e) (hn : e ∉ L) : Gp R n c (L ++ [e]) i := by
  refine ⟨?_, getE_snoc g.first, fun x hx => ?_, fun x hx => ?_, fun a x ha hx k' y hy => ?_⟩
  · rw [List.nodup_append]
    exact ⟨g.nodup, by simp, fun a ha b hb => by rw [List.mem_singleton.1 hb]; exact fun e => hn (e ▸ ha)⟩
  · rcases List.mem_append.1 hx with hx | hx
    · exact g.from_ x hx
    · rw [List.mem_singleton.1 hx]; exact (g.from_ d hd).tail hs
  · rcases List.mem_append.1 hx with hx | hx
    · exact g.ok x hx
    · rw [List.mem_singleton.1 hx]; exact step_ok hR (g.ok d hd) hs
  · rw [List.getElem?_append_left (by omega)] at hx
    exact List.mem_append_left _ (g.clo a x ha hx k' y hy)
theorem Gp.turn {R : List Q4} {n : Nat} {c : List Int} {L : List (List Int)} {i : Nat} (g : Gp R n c L i) {d : List Int} (hd : L[i]? = some d) (h : ∀ k e, step R d k = some e → e ∈ L) : Gp R n c L (i + 1) :=
  ⟨g.nodup, g.first, g.from_, g.ok, fun a x ha hx k e hs => by
    by_cases e2 : a = i
    · subst e2
      rw [hd] at hx
      cases hx
      exact h k e hs
    · exact g.clo a x (by omega) hx k e hs⟩
theorem Gp.done {R : List Q4} {n : Nat} {c : List Int} {L : List (List Int)} (g : Gp R n c L L.length) : Gr R c L :=
  ⟨g.nodup, g.first, g.from_, fun d hd k e hs => by
    obtain ⟨a, ha⟩ := List.getElem?_of_mem hd
    exact g.clo a d (List.getElem?_eq_some_iff.1 ha).1 ha k e hs⟩
structure RowOk (R : List Q4) (L : List (List Int)) (d : List Int) (r : Nat) (row : List Int) : Prop where
  fwd : ∀ x ∈ row, ∃ (k : Nat) (e : List Int) (j : Int), x = (k : Int) ∧ L[k]? = some e ∧ step R d j = some e
  bwd : ∀ (j : Int) (e : List Int), j < (r : Int) → step R d j = some e → ∃ k : Nat, L[k]? = some e ∧ (k : Int) ∈ row
  few : row.length ≤ r
theorem step_range {R : List Q4} {d e : List Int} {j : Int} (h : step R d j = some e) : 0 ≤ j ∧ j < R.length := by
  by_cases hc : 0 ≤ j ∧ j < R.length
  · exact hc
  · rw [step_no hc] at h; cases h
theorem RowOk.start {R : List Q4} {L : List (List Int)} {d : List Int} : RowOk R L d 0 [] :=
  ⟨fun x h => by simp at h, fun j e hj hs => by have := step_range hs; omega, by simp⟩
theorem RowOk.ext {R : List Q4} {L : List (List Int)} {d : List Int} {r : Nat} {row : List Int} (k : RowOk R L d r row) (x : List Int) : RowOk R (L ++ [x]) d r row :=
  ⟨fun y hy => let ⟨k', e, j, h1, h2, h3⟩ := k.fwd y hy; ⟨k', e, j, h1, getE_snoc h2, h3⟩, fun j e hj hs => let ⟨k', h1, h2⟩ := k.bwd j e hj hs; ⟨k', getE_snoc h1, h2⟩, k.few⟩
theorem RowOk.skip {R : List Q4} {L : List (List Int)} {d : List Int} {r : Nat} {row : List Int} (k : RowOk R L d r row) (h : step R d r = none) : RowOk R L d (r + 1) row :=
  ⟨k.fwd, fun j e hj hs => by
    by_cases e2 : j = (r : Int)
    · subst e2; rw [h] at hs; cases hs
    · exact k.bwd j e (by omega) hs, by have := k.few; omega⟩
theorem RowOk.add {R : List Q4} {L : List (List Int)} {d e : List Int} {r : Nat} {row : List Int} (k : RowOk R L d r row) (h : step R d r = some e) {a : Nat} (ha : L[a]? = some e) : RowOk R L d (r + 1) (row ++ [(a : Int)]) :=
  ⟨fun x hx => by
    rcases List.mem_append.1 hx with hx | hx
    · exact k.fwd x hx
    · exact ⟨a, e, r, List.mem_singleton.1 hx, ha, h⟩, fun j e' hj hs => by
    by_cases e2 : j = (r : Int)
    · subst e2
      rw [h] at hs
      cases hs
      exact ⟨a, ha, by simp⟩
    · obtain ⟨k', h1, h2⟩ := k.bwd j e' (by omega) hs
      exact ⟨k', h1, List.mem_append_left _ h2⟩, by have := k.few; rw [List.length_append, List.length_singleton]; omega⟩
theorem RowOk.all {R : List Q4} {L : List (List Int)} {d : List Int} {row : List Int} (k : RowOk R L d R.length row) {j : Int} {e : List Int} (hs : step R d j = some e) : e ∈ L := by
  obtain ⟨k', h1, _⟩ := k.bwd j e (step_range hs).2 hs
  exact List.mem_of_getElem? h1
inductive Wy (R : List Q4) : Nat → List Int → List Int → Prop
  | refl (c) : Wy R 0 c c
  | tail {k c d e i} : Wy R k c d → step R d i = some e → Wy R (k + 1) c e
theorem Wy.rs {R : List Q4} {k : Nat} {c d : List Int} (h : Wy R k c d) : Rs R c d := by
  induction h with
  | refl => exact .refl _
  | tail _ hs ih => exact ih.tail hs
structure St (R : List Q4) (c : List Int) (L : List (List Int)) (S : List Int) (i : Nat) : Prop where
  len : S.length = L.length
  way : ∀ a d, L[a]? = some d → ∃ k : Nat, gl S a = (k : Int) ∧ Wy R k c d
  start_ : gl S 0 = 0
  le : ∀ a, a < S.length → gl S a ≤ (a : Int)
  mono : ∀ a b, a ≤ b → b < S.length → gl S a ≤ gl S b
  near : ∀ a b, i ≤ a → a < S.length → b < S.length → gl S b ≤ gl S a + 1
  clo : ∀ a d, a < i → L[a]? = some d → ∀ k e, step R d k = some e → ∃ b, L[b]? = some e ∧ gl S b ≤ gl S a + 1
theorem St.start {R : List Q4} {c : List Int} : St R c [c] [0] 0 := by
  refine ⟨rfl, fun a d h => ?_, rfl, fun a ha => (by simp at ha; subst ha; exact Int.le_refl _), fun a b hab hb => ?_, fun a b _ ha hb => ?_, fun a d h => absurd h (Nat.not_lt_zero _)⟩
  · have : a = 0 := by have := (List.getElem?_eq_some_iff.1 h).1; simp at this; exact this
    subst this
    cases h
    exact ⟨0, rfl, .refl _⟩
  · simp at hb; subst hb; have : a = 0 := by omega
    subst this; exact Int.le_refl _
  · simp at ha hb; subst ha; subst hb; show gl [0] 0 ≤ gl [0] 0 + 1; omega
theorem gl_old {l : List Int} {x : Int} {j : Nat} (h : j < l.length) : gl (l ++ [x]) j = gl l j := by
  unfold gl
  rw [List.getD_eq_getElem?_getD, List.getD_eq_getElem?_getD, List.getElem?_append_left h]
theorem gl_last {l : List Int} {x : Int} : gl (l ++ [x]) l.length = x := by
  unfold gl
  rw [List.getD_eq_getElem?_getD, List.getElem?_append_right (Nat.le_refl _)]
  simp
theorem St.add {R : List Q4} {c : List Int} {L : List (List Int)} {S : List Int} {i : Nat} (s : St R c L S i) (hi : i < L.length) {d e : List Int} {k : Int} (hd : L[i]? = some d) (hs : step R d k = some e) : St R c (L ++ [e]) (S ++ [gl S i + 1]) i := by
  have hl := s.len
  have old : ∀ a, a < S.length → gl (S ++ [gl S i + 1]) a = gl S a := fun a ha => gl_old ha
  have new : gl (S ++ [gl S i + 1]) S.length = gl S i + 1 := gl_last
  refine ⟨by rw [List.length_append, List.length_append, hl]; rfl, fun a x hx => ?_, by rw [old 0 (by omega)]; exact s.start_, fun a ha => ?_, fun a b hab hb => ?_, fun a b ha1 ha hb => ?_, fun a x ha hx k' y hy => ?_⟩
  · by_cases ha : a < L.length
    · rw [List.getElem?_append_left ha] at hx
      rw [old a (by omega)]
      exact s.way a x hx
    · have h1 := (List.getElem?_eq_some_iff.1 hx).1
      rw [List.length_append, List.length_singleton] at h1
      have : a = S.length := by omega
      subst this
      rw [List.getElem?_append_right (by omega), hl] at hx
      simp at hx
      subst hx
      rw [new]
      obtain ⟨k0, e0, w0⟩ := s.way i d hd
      exact ⟨k0 + 1, by rw [e0]; rfl, w0.tail hs⟩
  · rw [List.length_append, List.length_singleton] at ha
    by_cases ha2 : a < S.length
    · rw [old a ha2]; exact s.le a ha2
    · have : a = S.length := by omega
      subst this
      rw [new]
      have := s.le i (by omega)
      omega
  · rw [List.length_append, List.length_singleton] at hb
    by_cases hb2 : b < S.length
    · rw [old a (by omega), old b hb2]; exact s.mono a b hab hb2
    · have : b = S.length := by omega
      subst this
      rw [new]
      by_cases ha2 : a < S.length
      · rw [old a ha2]; exact s.near i a (Nat.le_refl _) (by omega) ha2
      · have : a = S.length := by omega
        subst this
        rw [new]; exact Int.le_refl _
  · rw [List.length_append, List.length_singleton] at ha hb
    have hA : gl S i ≤ gl (S ++ [gl S i + 1]) a := by
      by_cases ha2 : a < S.length
      · rw [old a ha2]; exact s.mono i a ha1 ha2
      · have : a = S.length := by omega
        subst this
        rw [new]; omega
    have hB : gl (S ++ [gl S i + 1]) b ≤ gl S i + 1 := by
      by_cases hb2 : b < S.length
      · rw [old b hb2]; exact s.near i b (Nat.le_refl _) (by omega) hb2
      · have : b = S.length := by omega
        subst this
        rw [new]; exact Int.le_refl _
    omega
  · rw [List.getElem?_append_left (by omega)] at hx
    obtain ⟨b, h1, h2⟩ := s.clo a x ha hx k' y hy
    have hb := (List.getElem?_eq_some_iff.1 h1).1
    exact ⟨b, getE_snoc h1, by rw [old b (by omega), old a (by omega)]; exact h2⟩
theorem St.turn {R : List Q4} {c : List Int} {L : List (List Int)} {S : List Int} {i : Nat} (s : St R c L S i) (hi : i < L.length) {d : List Int} (hd : L[i]? = some d) {row : List Int} (h : RowOk R L d R.length row) : St R c L S (i + 1) :=
  ⟨s.len, s.way, s.start_, s.le, s.mono, fun a b ha => s.near a b (by omega), fun a x ha hx k e hs => by
    by_cases e2 : a = i
    · subst e2
      rw [hd] at hx
      cases hx
      obtain ⟨b, h1, _⟩ := h.bwd k e (step_range hs).2 hs
      have hb := (List.getElem?_eq_some_iff.1 h1).1
      exact ⟨b, h1, s.near a b (Nat.le_refl _) (by have := s.len; omega) (by have := s.len; omega)⟩
    · exact s.clo a x (by omega) hx k e hs⟩
theorem St.least {R : List Q4} {c : List Int} {L : List (List Int)} {S : List Int} (s : St R c L S L.length) (hf : L[0]? = some c) {k : Nat} {d : List Int} (w : Wy R k c d) : ∃ b, L[b]? = some d ∧ gl S b ≤ k := by
  induction w with
  | refl => exact ⟨0, hf, by rw [s.start_]; exact Int.le_refl _⟩
  | @tail k c d e i hw hs ih =>
    obtain ⟨a, h1, h2⟩ := ih s hf
    obtain ⟨b, h3, h4⟩ := s.clo a d (List.getElem?_eq_some_iff.1 h1).1 h1 i e hs
    exact ⟨b, h3, by omega⟩
structure Nx (R : List Q4) (L : List (List Int)) (N : List (List Int)) : Prop where
  row : ∀ (a : Nat) (d row : List Int), L[a]? = some d → N[a]? = some row → RowOk R L d R.length row
theorem Nx.ext {R : List Q4} {L N : List (List Int)} (k : Nx R L N) (hN : N.length ≤ L.length) (x : List Int) : Nx R (L ++ [x]) N :=
  ⟨fun a d row hd hr => by
    have := (List.getElem?_eq_some_iff.1 hr).1
    rw [List.getElem?_append_left (by omega)] at hd
    exact (k.row a d row hd hr).ext x⟩
theorem Nx.add {R : List Q4} {L N : List (List Int)} (k : Nx R L N) {d row : List Int} (hd : L[N.length]? = some d) (h : RowOk R L d R.length row) : Nx R L (N ++ [row]) :=
  ⟨fun a d' row' hd' hr => by
    by_cases e : a < N.length
    · rw [List.getElem?_append_left e] at hr
      exact k.row a d' row' hd' hr
    · have h1 := (List.getElem?_eq_some_iff.1 hr).1
      rw [List.length_append, List.length_singleton] at h1
      have : a = N.length := by omega
      subst this
      rw [List.getElem?_append_right (Nat.le_refl _)] at hr
      simp at hr
      subst hr
      rw [hd] at hd'
      cases hd'
      exact h⟩
end Go.Proofs.Ytpiplaicnbapbaa
namespace Go.Proofs.Ytpiplaicnbapbaa
open Go.Rx Go.RowKit
def SL (h : Hp) (v : Value) (LL : List (List Int)) : Prop := ∃ a c, v = .slice a LL.length c ∧ ∀ j, (hj : j < LL.length) → ∃ r o sp w, a = some ⟨r, o, sp⟩ ∧ voidSp sp = false ∧ cellAt h r (j + o) = some w ∧ View h w LL[j]
theorem SL.ext {h h' : Hp} {v : Value} {LL : List (List Int)} (g : Grows h h') (k : SL h v LL) : SL h' v LL := by
  obtain ⟨a, c, e, hc⟩ := k
  exact ⟨a, c, e, fun j hj => let ⟨r, o, sp, w, e1, e2, e3, e4⟩ := hc j hj; ⟨r, o, sp, w, e1, e2, g.cell e3, e4.ext g⟩⟩
abbrev gb (l : List Bool) (i : Nat) : Bool := l.getD i false
theorem gb_at {l : List Bool} {i : Nat} (h : i < l.length) : gb l i = l[i] := by
  unfold gb; rw [List.getD_eq_getElem?_getD, List.getElem?_eq_getElem h]; rfl
theorem gb_out {l : List Bool} {i : Nat} (h : l.length ≤ i) : gb l i = false := by
  unfold gb; rw [List.getD_eq_getElem?_getD, List.getElem?_eq_none h]; rfl
theorem gb_lt {l : List Bool} {i : Nat} (h : gb l i = true) : i < l.length := Classical.byContradiction fun k => by rw [gb_out (by omega)] at h; cases h
theorem gb_set {l : List Bool} {i : Nat} (h : i < l.length) (b : Bool) (j : Nat) : gb (l.set i b) j = if j = i then b else gb l j := by
  unfold gb
  rw [List.getD_eq_getElem?_getD, List.getElem?_set, List.getD_eq_getElem?_getD]
  by_cases e : i = j
  · subst e; rw [if_pos rfl, if_pos h, if_pos rfl]; rfl
  · rw [if_neg e, if_neg (fun x => e x.symm)]
def nf : List Bool → Nat
  | [] => 0
  | b :: l => (if b = true then 0 else 1) + nf l
theorem nf_set : ∀ {l : List Bool} {i : Nat}, i < l.length → gb l i = false → nf (l.set i true) + 1 = nf l
  | [], i, h, _ => by simp at h
  | b :: l, 0, _, e => by
    have : b = false := by simpa [gb] using e
    subst this
    simp [nf]
    omega
  | b :: l, i + 1, h, e => by
    have := nf_set (l := l) (i := i) (by simpa using h) (by simpa [gb] using e)
    simp only [List.set_cons_succ, nf]
    omega
structure SM (h : Hp) (r : Nat) (x : Bool) (ms : List Bool) (H : Hp) : Prop where
  at_ : H.at r = some (.row 4 x (ms.map .bool))
  gr : Grows h H
  hr : h.next ≤ r
theorem SM.put {h : Hp} {r : Nat} {x : Bool} {ms : List Bool} {H : Hp} (k : SM h r x ms H) (ms' : List Bool) : SM h r x ms' (H.set r (.row 4 x (ms'.map .bool))) := ⟨Hp.at_set_self _ (Hp.lt_of_at k.at_), k.gr.then_set _ k.hr, k.hr⟩
theorem SM.load {h : Hp} {r : Nat} {x : Bool} {ms : List Bool} {H : Hp} (k : SM h r x ms H) {i : Nat} (hi : i < ms.length) : cellAt H r (offAt 0 i 1) = some (.bool (gb ms i)) := by
  rw [offAt_eq]
  refine cellAt_row k.at_ ?_
  rw [List.getElem?_map, gb_at hi]
  simp [hi]
theorem SM.store {h : Hp} {r : Nat} {x : Bool} {ms : List Bool} {H : Hp} (k : SM h r x ms H) {i : Nat} (hi : i < ms.length) (b : Bool) : storeAt H r (offAt 0 i 1) [.bool b] = some (H.set r (.row 4 x ((ms.set i b).map .bool))) := by
  have := storeAt_row k.at_ (o := i) (v := .bool b) (by rw [List.length_map]; exact hi) rfl
  rw [show (ms.map Value.bool).set i (.bool b) = (ms.set i b).map .bool from by rw [List.map_set]] at this
  rw [offAt_eq]
  simpa using this
def BV (h : Hp) (v : Value) (ms : List Bool) : Prop := ∃ r x, v = slc r 0 ms.length ms.length ∧ h.at r = some (.row 4 x (ms.map .bool))
theorem BV.ext {h h' : Hp} {v : Value} {ms : List Bool} (g : Grows h h') (k : BV h v ms) : BV h' v ms := by
  obtain ⟨r, x, e, h1⟩ := k
  exact ⟨r, x, e, g.at_ _ _ h1⟩
theorem bools_one (l : List Bool) : (l.map Value.bool).all oneCell = true := by
  rw [List.all_eq_true]
  intro v hv
  obtain ⟨n, _, rfl⟩ := List.mem_map.1 hv
  rfl
theorem BV.elems {h : Hp} {v : Value} {ms : List Bool} (k : BV h v ms) : ElemsC h 1 v ms.length (ms.map .bool) := by
  obtain ⟨r, x, rfl, h1⟩ := k
  refine ⟨rfl, ?_, by rw [List.length_map, Nat.mul_one], bools_one _⟩
  show cellsAt h r 0 (ms.length * 1) = _
  rw [cellsAt_row h1 (by rw [List.length_map]; omega), List.drop_zero, List.take_of_length_le (by rw [List.length_map]; omega)]
structure NxOk (R : List Q4) (L : List (List Int)) (N : List (List Int)) : Prop where
  len : N.length = L.length
  fwd : ∀ i, (hi : i < N.length) → ∀ x ∈ N[i], ∃ k : Nat, x = (k : Int) ∧ Ed R L i k
  bwd : ∀ i k, Ed R L i k → ∃ hi : i < N.length, (k : Int) ∈ N[i]
  small : ∀ i, (hi : i < N.length) → N[i].length ≤ 1000
structure Mk (R : List Q4) (L : List (List Int)) (T : Nat → Prop) (ms : List Bool) : Prop where
  len : ms.length = L.length
  all : ∀ t, t < L.length → T t → gb ms t = true
  only : ∀ a, gb ms a = true → Lead R L T a
theorem Mk.set {R : List Q4} {L : List (List Int)} {T : Nat → Prop} {ms : List Bool} (k : Mk R L T ms) {i : Nat} (hi : i < L.length) (h : Lead R L T i) : Mk R L T (ms.set i true) := by
  have hl := k.len
  refine ⟨by rw [List.length_set]; exact hl, fun t ht hT => ?_, fun a ha => ?_⟩
  · rw [gb_set (by omega)]
    split
    · rfl
    · exact k.all t ht hT
  · rw [gb_set (by omega)] at ha
    split at ha
    · rename_i e; rw [e]; exact h
    · exact k.only a ha
def Still (R : List Q4) (L : List (List Int)) (ms : List Bool) (n : Nat) : Prop := ∀ a k, a < n → Ed R L a k → gb ms k = true → gb ms a = true
theorem Mk.done {R : List Q4} {L : List (List Int)} {T : Nat → Prop} {ms : List Bool} (k : Mk R L T ms) (hT : ∀ t, T t → t < L.length) (hs : Still R L ms L.length) (a : Nat) : gb ms a = true ↔ Lead R L T a :=
  ⟨k.only a, fun h => h.least (M := fun a => gb ms a = true) (fun t ht => k.all t (hT t ht) ht) fun a b e hb => hs a b e.lt.1 e hb⟩
end Go.Proofs.Ytpiplaicnbapbaa
