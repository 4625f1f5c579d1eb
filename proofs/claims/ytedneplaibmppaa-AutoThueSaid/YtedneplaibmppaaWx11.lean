/- Contracts by what is to be shown of each step: a part of the engine. -/
import Derived.Test.YtedneplaibmppaaWx10
import Derived.ChangeSlices
set_option linter.unusedVariables false
set_option linter.unusedSectionVars false
set_option linter.unusedSimpArgs false
namespace Go.Rx
open Go.RowKit Go.ChangeShapes
noncomputable section

/-! Calls with integers and slices of integers, as the caller holds them. -/

inductive SArg (W : World) : Value → List Int → Prop
  | nil : SArg W (.slice none 0 0) []
  | row (b o c : Nat) (l : List Int) (hb : b < W.heap.size) (hc : l.length ≤ c) (h : ∀ k, (hk : k < l.length) → W.cell? ⟨b, o + k, none⟩ = some (int l[k])) : SArg W (.slice (some ⟨b, o, none⟩) l.length c) l

theorem sarg_of_trod {H : Type} {enc : TypeId × Value → H} {P : Program} {W : World} {t e : TypeId} {a0 : Option Addr} {len cap : Nat} {d0 : DataW H} {p : List MemPlace} {r : Reach} {base : Nat} (ht : P.underlying t = some (.slice e)) (he : P.underlying e = some (.int .i64)) (hc : P.cellsOf e = 1)
    (hv : Value.okWide P W r base t (.slice a0 len cap)) (h0 : DataW.Trod enc P W 0 (fun _ => true) true t (.slice a0 len cap) d0 p) : ∃ l, SArg W (.slice a0 len cap) l ∧ l.length ≤ maxLen ∧ ∀ n ∈ l, (Lit.int .i64 n).wf = true := by
  obtain ⟨fuel, hf⟩ := h0
  rcases open_ints ht he hc hf with ⟨hcs, hx⟩ | ⟨a, len', cap', zs, hcs, _, hl, hm, hz, hx, hcell, hwz⟩
  · simp [Value.cells] at hcs
    obtain ⟨rfl, rfl, rfl⟩ := hcs
    exact ⟨[], .nil, Nat.zero_le _, fun n hn => by simp at hn⟩
  · simp [Value.cells] at hcs
    obtain ⟨rfl, rfl, rfl⟩ := hcs
    simp only [if_true] at hz
    simp only [Value.okWide, ht, Cell.okWide, Cell.ok] at hv
    obtain ⟨_, _, _, hsp, row, cells, hsh, _⟩ := hv
    have hblk : a.block < W.heap.size := by
      unfold World.shape? at hsh
      cases hb : W.heap[a.block]? with
      | none => rw [hb] at hsh; cases hsh
      | some x => exact (Array.getElem?_eq_some_iff.1 hb).1
    obtain ⟨b, o, s⟩ := a
    dsimp only at hsp hblk
    subst hsp
    have hlen : (zs.take len).length = len := by rw [List.length_take]; omega
    refine ⟨zs.take len, ?_, by omega, fun n hn => hwz n (List.mem_of_mem_take hn)⟩
    have := SArg.row (W := W) b o cap (zs.take len) hblk (by omega) (fun k hk => by
      have h1 := hcell k (by omega)
      have e1 : (Addr.add ⟨b, o, none⟩ k) = ⟨b, o + k, none⟩ := by unfold Addr.add; split <;> simp_all
      rw [e1] at h1
      rw [h1, List.getElem_take]
      rw [List.getD_eq_getElem?_getD, List.getElem?_eq_getElem (by omega)]; rfl)
    rw [hlen] at this
    exact this

inductive PA where
  | i (n : Int)
  | s (v : Value) (l : List Int)
def PA.val : PA → Value
  | .i n => int n
  | .s v _ => v
def PA.ok (W : World) : PA → Prop
  | .i _ => True
  | .s v l => SArg W v l
def PA.row : PA → List Value
  | .i _ => []
  | .s _ l => l.map int
def PA.info : PA → Option Info
  | .i _ => none
  | .s v _ => match v with
    | .slice (some a) n c => some ⟨a.block, a.off, c - n⟩
    | _ => none
def PA.abs (r : Nat) : PA → Value
  | .i n => int n
  | .s v _ => match v with
    | .slice (some _) n _ => .slice (some ⟨r, 0, none⟩) n n
    | v => v
def places (ps : List PA) : Places := fun r => (ps[r]?).bind PA.info
def absAll : Nat → List PA → List Value
  | _, [] => []
  | r, p :: ps => p.abs r :: absAll (r + 1) ps
def LentI (h : Hp) (v : Value) (l : List Int) : Prop := (v = .slice none 0 0 ∧ l = []) ∨ ∃ r, v = slc r 0 l.length l.length ∧ h.at r = some (.lent (l.map int))
theorem LentI.ints {h : Hp} {v : Value} {l : List Int} (k : LentI h v l) : Ints h v l := by
  rcases k with ⟨rfl, rfl⟩ | ⟨r, rfl, hr⟩
  · exact ⟨none, 0, rfl, fun k hk => by simp at hk⟩
  · refine ⟨_, _, rfl, fun k hk => ⟨r, 0, none, rfl, rfl, ?_⟩⟩
    unfold cellAt
    rw [hr]
    simp [hk]
theorem LentI.ext {h h' : Hp} {v : Value} {l : List Int} (g : Grows h h') (k : LentI h v l) : LentI h' v l := by
  rcases k with h0 | ⟨r, rfl, hr⟩
  · exact .inl h0
  · exact .inr ⟨r, rfl, g.at_ _ _ hr⟩
def AllIs (h : Hp) : List Value → List PA → Prop
  | [], [] => True
  | v :: vs, .i n :: ps => v = int n ∧ AllIs h vs ps
  | v :: vs, .s _ l :: ps => LentI h v l ∧ AllIs h vs ps
  | _, _ => False

theorem lent_all [Unknowns] {W : World} {ps : List PA} (hok : ∀ p ∈ ps, p.ok W) : LentAt (ps.map PA.row) (places ps) W := by
  have key : ∀ r i, places ps r = some i → ∃ p, ps[r]? = some p ∧ i.block < W.heap.size ∧ ∀ (k : Nat) v, p.row[k]? = some v → W.cell? ⟨i.block, i.delta + k, none⟩ = some v ∧ ∃ n, v = int n := by
    intro r i h
    unfold places at h
    cases hp : ps[r]? with
    | none => rw [hp] at h; cases h
    | some p =>
      rw [hp] at h
      have hpo := hok p (List.mem_of_getElem? hp)
      refine ⟨p, rfl, ?_⟩
      cases p with
      | i n => cases h
      | s v l =>
        cases hpo with
        | nil => cases h
        | row b o c l hblk hc hcell =>
          have hi : i = ⟨b, o, c - l.length⟩ := (Option.some.inj h).symm
          subst hi
          refine ⟨hblk, fun k v hk => ?_⟩
          simp only [PA.row, List.getElem?_map] at hk
          cases hlk : l[k]? with
          | none => rw [hlk] at hk; cases hk
          | some x =>
            rw [hlk] at hk
            cases hk
            obtain ⟨hk', rfl⟩ := List.getElem?_eq_some_iff.1 hlk
            exact ⟨hcell k hk', _, rfl⟩
  refine ⟨fun r i h => ?_, fun r i h => ?_, fun r i l h hl k v hk => ?_⟩
  · obtain ⟨p, hp, -⟩ := key r i h
    rw [List.length_map]
    exact (List.getElem?_eq_some_iff.1 hp).1
  · obtain ⟨p, hp, hb, -⟩ := key r i h
    exact hb
  · obtain ⟨p, hp, -, hc⟩ := key r i h
    rw [List.getElem?_map, hp] at hl
    cases hl
    obtain ⟨h1, n, rfl⟩ := hc k v hk
    exact ⟨_, h1, .int _ _⟩

theorem abs_rel [Unknowns] {W : World} {ps : List PA} {r : Nat} {p : PA} (hp : ps[r]? = some p) (hok : p.ok W) : VRel (places ps) (p.abs r) p.val := by
  cases p with
  | i n => exact .int _ _
  | s v l =>
    cases hok with
    | nil => exact .sliceNil _ _
    | row b o c l hblk hc hcell =>
      have hi : places ps r = some ⟨b, o, c - l.length⟩ := by
        unfold places
        rw [hp]
        rfl
      show VRel _ (PA.abs r (.s (.slice (some ⟨b, o, none⟩) l.length c) l)) (.slice (some ⟨b, o, none⟩) l.length c)
      have h1 := @VRel.slice _ (places ps) r 0 l.length l.length _ hi
      have e2 : l.length + (c - l.length) = c := by omega
      dsimp only at h1
      rw [e2] at h1
      exact h1

theorem abs_ints {W : World} {ps : List PA} {r : Nat} {v : Value} {l : List Int} (hp : ps[r]? = some (.s v l)) (hok : SArg W v l) : LentI (lentHp (ps.map PA.row)) (PA.abs r (.s v l)) l := by
  cases hok with
  | nil => exact .inl ⟨rfl, rfl⟩
  | row b o c l hblk hc hcell =>
    refine .inr ⟨r, rfl, ?_⟩
    unfold Hp.at lentHp
    dsimp only
    rw [List.length_map, if_pos (List.getElem?_eq_some_iff.1 hp).1, List.getElem?_map, hp]
    rfl

theorem all_is {W : World} {ps : List PA} (hok : ∀ p ∈ ps, p.ok W) : ∀ (qs : List PA) (r : Nat), (∀ k, qs[k]? = ps[r + k]?) → AllIs (lentHp (ps.map PA.row)) (absAll r qs) qs
  | [], r, h => trivial
  | .i n :: qs, r, h => ⟨rfl, all_is hok qs (r + 1) (fun k => by rw [show r + 1 + k = r + (k + 1) by omega, ← h (k + 1)]; rfl)⟩
  | .s v l :: qs, r, h => by
    have h0 : ps[r]? = some (.s v l) := by rw [← show r + 0 = r from rfl, ← h 0]; rfl
    exact ⟨abs_ints h0 (hok _ (List.mem_of_getElem? h0)), all_is hok qs (r + 1) (fun k => by rw [show r + 1 + k = r + (k + 1) by omega, ← h (k + 1)]; rfl)⟩

theorem all_rel [Unknowns] {W : World} {ps : List PA} (hok : ∀ p ∈ ps, p.ok W) : ∀ (qs : List PA) (r : Nat), (∀ k, qs[k]? = ps[r + k]?) → LRel (places ps) (absAll r qs) (qs.map PA.val)
  | [], r, h => LRel.nil _
  | p :: qs, r, h => by
    have h0 : ps[r]? = some p := by rw [← show r + 0 = r from rfl, ← h 0]; rfl
    exact LRel.cons (abs_rel h0 (hok _ (List.mem_of_getElem? h0))) (all_rel hok qs (r + 1) (fun k => by rw [show r + 1 + k = r + (k + 1) by omega, ← h (k + 1)]; rfl))

theorem calls_pas [Unknowns] {E : Env} {P : Program} (hE : Ok E P) (hm : P.follows .mixedOrders = true) (hM : OkM E P) {f : FuncId} {ps : List PA} {W : World} (hok : ∀ p ∈ ps, p.ok W)
    (c : ∀ h vs, AllIs h vs ps → CallP E f vs h fun r _ => r = .bool true) : Calls P f ⟨ps.map PA.val⟩ W fun e w' => e = .returned (.bool true) ∧ Below W.heap.size W w' :=
  calls_true hE hm hM (c _ _ (all_is hok ps 0 (fun k => by rw [Nat.zero_add]))) (lent_all hok) (all_rel hok ps 0 (fun k => by rw [Nat.zero_add]))
end
end Go.Rx
