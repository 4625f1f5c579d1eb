/- Contracts by what is to be shown of each step: a part of the engine. -/
import Derived.Test.YtpiplaicnbapbaaWx25
set_option linter.unusedVariables false
set_option linter.unusedSectionVars false
set_option linter.unusedSimpArgs false
namespace Go.Rx
open Go.RowKit
noncomputable section

/-! Iterators that have memory of their own: what they have laid is left alone by the rounds. -/

theorem idxA_val' {n s r o : Nat} {j : Int} {h : Hp} (hj : 0 ≤ j ∧ j < (n : Int)) : hval h (idxAV n s (ptr r o) (int j)) = .val (ptr r (offAt o j.toNat s)) h := by
  unfold idxAV
  dsimp only [ptr]
  rw [idxN_ok (n := n) (j := j) hj, offAt_eq]
  simp [hval, ptr]
theorem idxS_val' {n s r o cp : Nat} {sp : Option Nat} {j : Int} {h : Hp} (hs : voidSp sp = false) (hj : 0 ≤ j ∧ j < (n : Int)) : hval h (idxSV s (.slice (some ⟨r, o, sp⟩) n cp) (int j)) = .val (ptr r (offAt o j.toNat s)) h := by
  unfold idxSV
  dsimp only
  rw [hs]
  dsimp only
  rw [idxN_ok (n := n) (j := j) hj, offAt_eq]
  simp [hval, ptr]
theorem sameV_ptr (a b : Nat) : sameV 4 (ptr a b) (ptr a b) = true := by simp [sameV, ptr]
theorem sameV_slc (r o n c : Nat) : sameV 4 (slc r o n c) (slc r o n c) = true := sameV_slice _ _ _
def KE (es : List Nat) (h h' : Hp) : Prop := ∀ d ∈ es, ∀ o, h.at d = some o → h'.at d = some o
theorem KE.grows {es : List Nat} {h h' : Hp} (g : Grows h h') : KE es h h' := fun d _ o e => g.at_ d o e
theorem KE.trans {es : List Nat} {h h1 h2 : Hp} (k : KE es h h1) (k2 : KE es h1 h2) : KE es h h2 := fun d hd o e => k2 d hd o (k d hd o e)
theorem KE.mono {es es' : List Nat} {h h' : Hp} (k : KE es h h') (s : ∀ d ∈ es', d ∈ es) : KE es' h h' := fun d hd o e => k d (s d hd) o e
theorem KE.kx {es : List Nat} {v : Value} {h h' : Hp} (x : Kx (ad v) h h') (a : ∀ d ∈ es, ad v ≠ some d) : KE es h h' := fun d hd o e => x d o (a d hd) e
structure ExtI (I : Nat → List Nat → Hp → Prop) : Prop where
  more : ∀ k es h h1 ds, I k es h → Grows h h1 → (∀ d ∈ ds, h.next ≤ d ∧ d < h1.next) → I k (ds ++ es) h1
  less : ∀ k es ds h, I k (ds ++ es) h → I k es h
def IterE (E : Env) (l : Nat) (L : List (List Value)) (I : Nat → List Nat → Hp → Prop) (S : Hp → Prop) : Prop :=
  ∀ k es, (hk : k < L.length) → ∀ h, I k es h → YieldP E l L[k] h fun v h' => (v = .bool true ∧ I (k + 1) es h' ∧ KE es h h') ∨ (v = .bool false ∧ S h')
section
variable {E : Env} [TyOk E]
theorem range_goE [Unknowns] {z : Nat} {g : FuncId} {cap : List Value} {ps : Array Tmp} {a b : C} {φ : Frame} {m0 m : List Nat} {Q : Pq} {d : Nat} {h : Hp} (J : Hp → Prop) (L : List (List Value)) (I : Nat → List Nat → Hp → Prop) (S : Hp → Prop)
    (hcan : callable E g = true) (hsz : ∀ k, (hk : k < L.length) → (L[k]).length = ps.size) (hps : ps.toList.all (fun p => Nat.ble (Nat.succ p) z) = true)
    (iter : ∀ (I : Nat → List Nat → Hp → Prop) (S : Hp → Prop), ExtI I → (∀ k es h, I k es h → J h) → I 0 [] (h.lay (readyAt E φ z ps a b d)) → IterE E h.next L I S → CallP E g (yieldVal h.next :: cap) (h.lay (readyAt E φ z ps a b d)) (fun _ h' => I L.length [] h' ∨ S h'))
    (ext : ExtI I) (hJ : ∀ k es h, I k es h → J h)
    (start : I 0 [] (h.lay (readyAt E φ z ps a b d)))
    (round : ∀ k es as, L[k]? = some as → ∀ h1, h1.at h.next = some (readyAt E φ z ps a b d) → I k es h1 → wq E z (some h.next) a (setφ ps.toList as φ) h1 [] (bodyQ E h.next φ z ps a b d (fun v h' => v = .bool true ∧ (h'.at h.next = some (readyAt E φ z ps a b d) ∧ I (k + 1) es h' ∧ KE es h1 h') ∨ v = .bool false ∧ S h')))
    (done : ∀ h2 h3, I L.length [] h2 → Keeps h.next h2 h3 → Q .normal φ h3 (m ++ m0))
    (stop : ∀ h2, S h2 → jumpQ φ (m ++ m0) Q h2 h.next) :
    rangeQ E z (.func (.func g) ⟨[]⟩ ⟨cap⟩) ps a b φ m0 Q d m h := by
  refine ⟨hcan, ?_⟩
  refine CallP.mono (iter (fun k es h1 => h1.at h.next = some (readyAt E φ z ps a b d) ∧ I k es h1) S ⟨fun k es h2 h1 ds hI g hd => ⟨g.at_ _ _ hI.1, ext.more k es h2 h1 ds hI.2 g hd⟩, fun k es ds h hI => ⟨hI.1, ext.less k es ds h hI.2⟩⟩ (fun k es h hI => hJ k es h hI.2) ⟨Hp.at_lay_self _ _, start⟩ ?_) ?_
  · intro k es hk h1 hI
    refine YieldP.mono (YieldP.enterQ hI.1 (hsz k hk) hps (round k es _ (List.getElem?_eq_getElem hk) h1 hI.1 hI.2)) ?_
    rintro v h' (⟨e, h2, h3, h4⟩ | h2)
    · exact .inl ⟨e, ⟨h2, h3⟩, h4⟩
    · exact .inr h2
  · rintro v h2 (hI | hS)
    · exact jumpQ_ready hI.1 (done h2 _ hI.2 (Keeps.set _ _ _))
    · exact stop h2 hS
end
end
end Go.Rx
