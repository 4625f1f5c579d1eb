/- Contracts by what is to be shown of each step: a part of the engine. -/
import Derived.Test.YtpiplaicnbapbaaWx14
import Derived.OpenShut
set_option linter.unusedVariables false
set_option linter.unusedSectionVars false
set_option linter.unusedSimpArgs false
namespace Go.Rx
open Go.RowKit Go.ChangeShapes
noncomputable section

/-! Calls with integers and slices of integers, or of arrays of integers, as the caller holds them. -/

/-- A slice in a world: n elements; l: all their integers. -/
inductive SArgC (W : World) : Value → Nat → List Int → Prop
  | nil : SArgC W (.slice none 0 0) 0 []
  | row (b o n c : Nat) (l : List Int) (hb : b < W.heap.size) (hc : n ≤ c) (h : ∀ k, (hk : k < l.length) → W.cell? ⟨b, o + k, none⟩ = some (int l[k])) : SArgC W (.slice (some ⟨b, o, none⟩) n c) n l

theorem SArgC.of {W : World} {v : Value} {l : List Int} (h : SArg W v l) : SArgC W v l.length l := by
  cases h with
  | nil => exact .nil
  | row b o c l hb hc h => exact .row b o l.length c l hb hc h

theorem sargC_of_trod {H : Type} {enc : TypeId × Value → H} {P : Program} {W : World} {t e u : TypeId} {n : Nat} {a0 : Option Addr} {len cap : Nat} {d0 : DataW H} {p : List MemPlace} {r : Reach} {base : Nat} (ht : P.underlying t = some (.slice e)) (he : P.underlying e = some (.array n u)) (hu : P.underlying u = some (.int .i64)) (hcu : P.cellsOf u = 1) (hce : P.cellsOf e = n) (hn : 0 < n)
    (hv : Value.okWide P W r base t (.slice a0 len cap)) (h0 : DataW.Trod enc P W 0 (fun _ => true) true t (.slice a0 len cap) d0 p) : ∃ l, SArgC W (.slice a0 len cap) len l ∧ l.length = len * n ∧ len ≤ maxLen ∧ ∀ x ∈ l, (Lit.int .i64 x).wf = true := by
  obtain ⟨fuel, hf⟩ := h0
  rcases DataW.trod_slice ht hf with ⟨hcs, -⟩ | ⟨a, len', cap', elems, rest, m, hfu, hcs, -, hb, hl, hm, hlen, hel, -, -⟩
  · simp [Value.cells] at hcs
    obtain ⟨rfl, rfl, rfl⟩ := hcs
    exact ⟨[], .nil, by simp, Nat.zero_le _, fun n hn => by simp at hn⟩
  simp [Value.cells] at hcs
  obtain ⟨rfl, rfl, rfl⟩ := hcs
  simp only [Value.okWide, ht, Cell.okWide, Cell.ok] at hv
  obtain ⟨_, _, _, hsp, row, cells, hsh, _⟩ := hv
  have hblk : a.block < W.heap.size := by
    unfold World.shape? at hsh
    cases hb : W.heap[a.block]? with
    | none => rw [hb] at hsh; cases hsh
    | some x => exact (Array.getElem?_eq_some_iff.1 hb).1
  obtain ⟨b, o, s⟩ := a
  dsimp only at hsp hblk
  subst hsp
  have addr : ∀ k, (Addr.add ⟨b, o, none⟩ k) = ⟨b, o + k, none⟩ := by
    intro k; unfold Addr.add; split <;> simp_all
  have addr2 : ∀ k j, Addr.add (Addr.add ⟨b, o, none⟩ k) j = ⟨b, o + k + j, none⟩ := by
    intro k j; rw [addr]; unfold Addr.add; split <;> simp_all
  have each : ∀ k, k < len * n → ∃ z, W.cell? ⟨b, o + k, none⟩ = some (int z) ∧ (Lit.int .i64 z).wf = true := by
    intro k hk
    have hi : k / n < len := Nat.div_lt_of_lt_mul (by rw [Nat.mul_comm]; exact hk)
    have hj : k % n < n := Nat.mod_lt _ hn
    have h1 := hel (k / n) hi
    rw [hce, List.getElem?_eq_getElem (by omega), Option.bind_eq_some_iff] at h1
    obtain ⟨cs, hcs, hy⟩ := h1
    obtain ⟨xs, m', -, -, hcl, hxl, hx⟩ := DataW.trod_array he hy
    have h2 := hx (k % n) hj
    rw [hcu, Nat.mul_one, List.getElem?_eq_getElem (by omega)] at h2
    obtain ⟨z, hz, -, hwz⟩ := DataW.trod_int hu h2
    refine ⟨z, ?_, hwz⟩
    have h3 := (World.cells?_some hcs).2.2 (k % n) hj
    rw [addr2] at h3
    rw [show o + k = o + k / n * n + k % n by
      have := Nat.div_add_mod k n
      have e : n * (k / n) = k / n * n := Nat.mul_comm _ _
      omega]
    rw [h3]
    have h4 : (cs.drop (k % n)).take 1 = [int z] := hz
    have h5 : k % n < cs.length := by omega
    rw [List.drop_eq_getElem_cons h5, List.take_succ_cons, List.take_zero] at h4
    injection h4 with h6 h7
    rw [List.getElem?_eq_getElem h5, h6]
  let num : Nat → Int := fun k => match W.cell? ⟨b, o + k, none⟩ with | some (.int _ z) => z | _ => 0
  have hnum : ∀ k, k < len * n → W.cell? ⟨b, o + k, none⟩ = some (int (num k)) ∧ (Lit.int .i64 (num k)).wf = true := by
    intro k hk
    obtain ⟨z, h1, h2⟩ := each k hk
    have : num k = z := by show (match W.cell? ⟨b, o + k, none⟩ with | some (.int _ z) => z | _ => 0) = z; rw [h1]
    rw [this]
    exact ⟨h1, h2⟩
  refine ⟨(List.range (len * n)).map num, .row b o len cap _ hblk hl (fun k hk => ?_), by simp, by omega, fun x hx => ?_⟩
  · rw [List.length_map, List.length_range] at hk
    rw [List.getElem_map, List.getElem_range]
    exact (hnum k hk).1
  · obtain ⟨k, hk, rfl⟩ := List.mem_map.1 hx
    exact (hnum k (List.mem_range.1 hk)).2

inductive PB where
  | i (n : Int)
  | s (v : Value) (n : Nat) (l : List Int)
def PB.val : PB → Value
  | .i n => int n
  | .s v _ _ => v
def PB.ok (W : World) : PB → Prop
  | .i _ => True
  | .s v n l => SArgC W v n l
def PB.row : PB → List Value
  | .i _ => []
  | .s _ _ l => l.map int
def PB.info : PB → Option Info
  | .i _ => none
  | .s v _ _ => match v with
    | .slice (some a) n c => some ⟨a.block, a.off, c - n⟩
    | _ => none
def PB.abs (r : Nat) : PB → Value
  | .i n => int n
  | .s v _ _ => match v with
    | .slice (some _) n _ => .slice (some ⟨r, 0, none⟩) n n
    | v => v
def placesB (ps : List PB) : Places := fun r => (ps[r]?).bind PB.info
def absB : Nat → List PB → List Value
  | _, [] => []
  | r, p :: ps => p.abs r :: absB (r + 1) ps
/-- A slice that the caller holds: n elements, with the integers l. -/
def LentC (h : Hp) (v : Value) (n : Nat) (l : List Int) : Prop := (v = .slice none 0 0 ∧ n = 0 ∧ l = []) ∨ ∃ r, v = slc r 0 n n ∧ h.at r = some (.lent (l.map int))
theorem LentC.ext {h h' : Hp} {v : Value} {n : Nat} {l : List Int} (g : Grows h h') (k : LentC h v n l) : LentC h' v n l := by
  rcases k with h0 | ⟨r, rfl, hr⟩
  · exact .inl h0
  · exact .inr ⟨r, rfl, g.at_ _ _ hr⟩
/-- What a contract is told of its arguments. -/
def AllB (h : Hp) : List Value → List PB → Prop
  | [], [] => True
  | v :: vs, .i n :: ps => v = int n ∧ AllB h vs ps
  | v :: vs, .s _ n l :: ps => LentC h v n l ∧ AllB h vs ps
  | _, _ => False

theorem lent_B [Unknowns] {W : World} {ps : List PB} (hok : ∀ p ∈ ps, p.ok W) : LentAt (ps.map PB.row) (placesB ps) W := by
  have key : ∀ r i, placesB ps r = some i → ∃ p, ps[r]? = some p ∧ i.block < W.heap.size ∧ ∀ (k : Nat) v, p.row[k]? = some v → W.cell? ⟨i.block, i.delta + k, none⟩ = some v ∧ ∃ n, v = int n := by
    intro r i h
    unfold placesB at h
    cases hp : ps[r]? with
    | none => rw [hp] at h; cases h
    | some p =>
      rw [hp] at h
      have hpo := hok p (List.mem_of_getElem? hp)
      refine ⟨p, rfl, ?_⟩
      cases p with
      | i n => cases h
      | s v n l =>
        cases hpo with
        | nil => cases h
        | row b o _ c l hblk hc hcell =>
          have hi : i = ⟨b, o, c - n⟩ := (Option.some.inj h).symm
          subst hi
          refine ⟨hblk, fun k v hk => ?_⟩
          simp only [PB.row, List.getElem?_map] at hk
          cases hlk : l[k]? with
          | none => rw [hlk] at hk; cases hk
          | some x =>
            rw [hlk] at hk
            cases hk
            obtain ⟨hk', rfl⟩ := List.getElem?_eq_some_iff.1 hlk
            exact ⟨hcell k hk', _, rfl⟩
  refine ⟨fun r i h => ?_, fun r i h => ?_, fun r i l h hl k v hk => ?_⟩
  · obtain ⟨p, hp, -⟩ := key r i h
    rw [List.length_map]
    exact (List.getElem?_eq_some_iff.1 hp).1
  · obtain ⟨p, hp, hb, -⟩ := key r i h
    exact hb
  · obtain ⟨p, hp, -, hc⟩ := key r i h
    rw [List.getElem?_map, hp] at hl
    cases hl
    obtain ⟨h1, n, rfl⟩ := hc k v hk
    exact ⟨_, h1, .int _ _⟩

theorem abs_relB [Unknowns] {W : World} {ps : List PB} {r : Nat} {p : PB} (hp : ps[r]? = some p) (hok : p.ok W) : VRel (placesB ps) (p.abs r) p.val := by
  cases p with
  | i n => exact .int _ _
  | s v n l =>
    cases hok with
    | nil => exact .sliceNil _ _
    | row b o _ c l hblk hc hcell =>
      have hi : placesB ps r = some ⟨b, o, c - n⟩ := by
        unfold placesB
        rw [hp]
        rfl
      show VRel _ (PB.abs r (.s (.slice (some ⟨b, o, none⟩) n c) n l)) (.slice (some ⟨b, o, none⟩) n c)
      have h1 := @VRel.slice _ (placesB ps) r 0 n n _ hi
      have e2 : n + (c - n) = c := by omega
      dsimp only at h1
      rw [e2] at h1
      exact h1

theorem abs_lentC {W : World} {ps : List PB} {r : Nat} {v : Value} {n : Nat} {l : List Int} (hp : ps[r]? = some (.s v n l)) (hok : SArgC W v n l) : LentC (lentHp (ps.map PB.row)) (PB.abs r (.s v n l)) n l := by
  cases hok with
  | nil => exact .inl ⟨rfl, rfl, rfl⟩
  | row b o _ c l hblk hc hcell =>
    refine .inr ⟨r, rfl, ?_⟩
    unfold Hp.at lentHp
    dsimp only
    rw [List.length_map, if_pos (List.getElem?_eq_some_iff.1 hp).1, List.getElem?_map, hp]
    rfl

theorem all_isB {W : World} {ps : List PB} (hok : ∀ p ∈ ps, p.ok W) : ∀ (qs : List PB) (r : Nat), (∀ k, qs[k]? = ps[r + k]?) → AllB (lentHp (ps.map PB.row)) (absB r qs) qs
  | [], r, h => trivial
  | .i n :: qs, r, h => ⟨rfl, all_isB hok qs (r + 1) (fun k => by rw [show r + 1 + k = r + (k + 1) by omega, ← h (k + 1)]; rfl)⟩
  | .s v n l :: qs, r, h => by
    have h0 : ps[r]? = some (.s v n l) := by rw [← show r + 0 = r from rfl, ← h 0]; rfl
    exact ⟨abs_lentC h0 (hok _ (List.mem_of_getElem? h0)), all_isB hok qs (r + 1) (fun k => by rw [show r + 1 + k = r + (k + 1) by omega, ← h (k + 1)]; rfl)⟩

theorem all_relB [Unknowns] {W : World} {ps : List PB} (hok : ∀ p ∈ ps, p.ok W) : ∀ (qs : List PB) (r : Nat), (∀ k, qs[k]? = ps[r + k]?) → LRel (placesB ps) (absB r qs) (qs.map PB.val)
  | [], r, h => LRel.nil _
  | p :: qs, r, h => by
    have h0 : ps[r]? = some p := by rw [← show r + 0 = r from rfl, ← h 0]; rfl
    exact LRel.cons (abs_relB h0 (hok _ (List.mem_of_getElem? h0))) (all_relB hok qs (r + 1) (fun k => by rw [show r + 1 + k = r + (k + 1) by omega, ← h (k + 1)]; rfl))

/-- A contract for any such arguments, as what the call comes to. -/
theorem calls_pbs [Unknowns] {E : Env} {P : Program} (hE : Ok E P) (hm : P.follows .mixedOrders = true) (hM : OkM E P) {f : FuncId} {ps : List PB} {W : World} (hok : ∀ p ∈ ps, p.ok W)
    (c : ∀ h vs, AllB h vs ps → CallP E f vs h fun r _ => r = .bool true) : Calls P f ⟨ps.map PB.val⟩ W fun e w' => e = .returned (.bool true) ∧ Below W.heap.size W w' :=
  calls_true hE hm hM (c _ _ (all_isB hok ps 0 (fun k => by rw [Nat.zero_add]))) (lent_B hok) (all_relB hok ps 0 (fun k => by rw [Nat.zero_add]))
end
end Go.Rx
