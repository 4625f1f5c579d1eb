/- Contracts by what is to be shown of each step: a part of the engine. -/
import Derived.Test.YtpiplaicnbapbaaWx23
set_option linter.unusedVariables false
set_option linter.unusedSectionVars false
set_option linter.unusedSimpArgs false
namespace Go.Rx
open Go.RowKit
noncomputable section

/-! Ranges over functions inside rounds. -/
section
variable {E : Env} [TyOk E]
end
section
variable {E : Env} {z : Nat} {rd : Option Nat} [TyOk E]
def RndM {α : Type} (L : α → List (Nat × Value)) (H : α → Hp) (M : α → List Nat) (P : α → Prop) (μ : α → Nat) (a : α) (φ' : Frame) (h' : Hp) (m' : List Nat) : Prop :=
  ∃ a', P a' ∧ μ a' < μ a ∧ FrEq φ' (L a') ∧ (H a').Le h' ∧ m' = M a'
theorem RndM.mk {α : Type} {L : α → List (Nat × Value)} {H : α → Hp} {M : α → List Nat} {P : α → Prop} {μ : α → Nat} {a : α} {φ' : Frame} {h' : Hp} {m' : List Nat} (a' : α) (h1 : P a') (h2 : μ a' < μ a) (h3 : FrEq φ' (L a')) (h4 : (H a').Le h') (h5 : m' = M a') : RndM L H M P μ a φ' h' m' := ⟨a', h1, h2, h3, h4, h5⟩
theorem loop_invM {α : Type} {b : C} {φ : Frame} {h : Hp} {m : List Nat} {Q : Pq} (L : α → List (Nat × Value)) (H : α → Hp) (M : α → List Nat) (P : α → Prop) (μ : α → Nat) (a₀ : α) (h0 : P a₀) (hφ : FrEq φ (L a₀)) (hh : (H a₀).Le h) (hm : m = M a₀)
    (hr : ∀ a φ, P a → wq E z rd b (upds φ (L a)) (H a) (M a) (seqQ Q (RndM L H M P μ a))) : LoopP z rd b (wq E z rd b) φ h m Q := by
  refine ⟨fun n φ' h' m' => ∃ a φ0, P a ∧ n = μ a ∧ φ' = upds φ0 (L a) ∧ h' = H a ∧ m' = M a, μ a₀, H a₀, hh, ⟨a₀, φ, h0, rfl, (upds_eta hφ).symm, rfl, hm⟩, ?_⟩
  rintro n φ' h' m' ⟨a, φ0, hP, rfl, rfl, rfl, rfl⟩
  refine wq_mono (fun e φ' h' m' hq => ?_) (hr a φ0 hP)
  cases e with
  | normal =>
    obtain ⟨a', h1, h2, h3, h4, h5⟩ := hq
    exact ⟨μ a', H a', h2, h4, a', φ', h1, rfl, (upds_eta h3).symm, rfl, h5⟩
  | _ => exact hq
theorem SeqP.cutM {α : Type} {a b : C} {φ : Frame} {h : Hp} {m : List Nat} {Q : Pq} (L : α → List (Nat × Value)) (M : α → List Nat) (P : α → Hp → Prop)
    (k1 : wq E z rd a φ h m (seqQ Q fun φ' h' m' => ∃ x, FrEq φ' (L x) ∧ P x h' ∧ m' = M x))
    (k2 : ∀ x φ h', P x h' → wq E z rd b (upds φ (L x)) h' (M x) Q) : SeqP z rd a b (wq E z rd a) (wq E z rd b) φ h m Q := by
  refine SeqP.mk ?_
  refine wq_mono (fun e φ' h' m' hq => ?_) k1
  cases e with
  | normal =>
    obtain ⟨x, h1, h2, rfl⟩ := hq
    have := k2 x φ' h' h2
    rw [upds_eta h1] at this
    exact this
  | _ => exact hq
def Marks (r : Nat) (ms : List Nat) (h : Hp) : Prop := ms.Nodup ∧ ∀ d ∈ ms, r ≤ d ∧ h.at d = some .noDefers
theorem Marks.nil (r : Nat) (h : Hp) : Marks r [] h := ⟨List.nodup_nil, fun d hd => by simp at hd⟩
theorem Marks.ext {r : Nat} {ms : List Nat} {h h' : Hp} (g : Grows h h') (k : Marks r ms h) : Marks r ms h' := ⟨k.1, fun d hd => ⟨(k.2 d hd).1, g.at_ _ _ (k.2 d hd).2⟩⟩
theorem finP_marks {rs : List ResultVar} {φ : Frame} {r : Nat} {Q : Value → Hp → Prop} : ∀ {ms : List Nat} {h : Hp}, Marks r ms h → (∀ h', h'.next = h.next → (∀ k o, k < r → h.at k = some o → h'.at k = some o) → (∀ k o, k ∉ ms → h.at k = some o → h'.at k = some o) → finP E rs ⟨φ, h', []⟩ Q) → finP E rs ⟨φ, h, ms⟩ Q
  | [], h, _, k => k h rfl (fun _ _ _ e => e) (fun _ _ _ e => e)
  | d :: ms, h, hm, k => by
    have hd := (hm.2 d (by simp))
    have hnd := List.nodup_cons.1 hm.1
    have hm' : Marks r ms (h.set d .dead) := ⟨hnd.2, fun e he => ⟨(hm.2 e (by simp [he])).1, by rw [Hp.at_set_ne _ (fun x : e = d => hnd.1 (by rw [← x]; exact he))]; exact (hm.2 e (by simp [he])).2⟩⟩
    have step := finP_marks (rs := rs) (φ := φ) (Q := Q) hm' (fun h' e1 e2 e3 => k h' e1 (fun j o hj ho => e2 j o hj (by rw [Hp.at_set_ne _ (by omega)]; exact ho)) (fun j o hj ho => e3 j o (fun x => hj (by simp [x])) (by rw [Hp.at_set_ne _ (fun x => hj (by simp [x]))]; exact ho)))
    unfold finP at step ⊢
    dsimp only at step ⊢
    rw [show takeMarksφ (d :: ms) h = takeMarksφ ms (h.set d .dead) from by
      show (match h.at d with | some .noDefers => takeMarksφ ms (h.set d .dead) | _ => none) = _
      rw [hd.2]]
    exact step
end
end
end Go.Rx
