/- Contracts of the functions that SJorZ comes to. -/
import Derived.Test.YticmdpcahpimhaaSMk4M
import Derived.Test.YticmdpcahpimhaaSLkM
import Derived.Test.YticmdpcahpimhaaSGen2
set_option maxRecDepth 100000
set_option maxHeartbeats 1000000
set_option linter.unusedVariables false
set_option linter.unusedSectionVars false
set_option linter.unusedSimpArgs false
namespace Go.Proofs.Yticmdpcahpimhaa
open Go.Rx Go.RowKit Go.Comp
/-- Nodes to which ways lead down from one. -/
inductive Desc (n : Nat) (par : Nat → Nat) (v : Nat) : Nat → Prop
  | refl : Desc n par v v
  | step {u : Nat} (h1 : 1 ≤ u) (h2 : u < n) (h : Desc n par v (par u)) : Desc n par v u
/-- The edges of a tree, by the node above each. -/
structure Up (n : Nat) (par : Nat → Nat) (A : Comp.Rel) : Prop where
  lt : ∀ t, 1 ≤ t → t < n → par t < t
  edge : ∀ u w, A u w → (1 ≤ u ∧ u < n ∧ par u = w) ∨ (1 ≤ w ∧ w < n ∧ par w = u)
  symm : ∀ u w, A u w → A w u
def Conn (A : Comp.Rel) (S : Nat) : Prop := ∀ u w, S.testBit u = true → S.testBit w = true → Comp.Reach A S u w
theorem Desc.le {n : Nat} {par : Nat → Nat} {A : Comp.Rel} (U : Up n par A) {v u : Nat} (h : Desc n par v u) : v ≤ u := by
  induction h with
  | refl => exact Nat.le_refl _
  | step h1 h2 _ ih => have := U.lt _ h1 h2; omega
theorem cross {n : Nat} {par : Nat → Nat} {A : Comp.Rel} (U : Up n par A) {c u w : Nat} (e : A u w) (h : Desc n par c u) (k : ¬ Desc n par c w) : u = c ∧ w = par c ∧ 1 ≤ c := by
  rcases U.edge u w e with ⟨h1, h2, h3⟩ | ⟨h1, h2, h3⟩
  · cases h with
    | refl => exact ⟨rfl, h3.symm, h1⟩
    | step _ _ h => exact absurd (h3 ▸ h) k
  · exact absurd (.step h1 h2 (h3 ▸ h)) k
theorem stay {n : Nat} {par : Nat → Nat} {A : Comp.Rel} (U : Up n par A) {c p u w : Nat} (hr : Comp.Reach A p u w) (hp : ¬ (p.testBit c = true ∧ p.testBit (par c) = true)) (h : Desc n par c u) : Desc n par c w := by
  induction hr with
  | refl _ => exact h
  | step hr e hw ih =>
    refine Classical.byContradiction fun k => ?_
    obtain ⟨h1, h2, _⟩ := cross U e ih k
    exact hp ⟨h1 ▸ hr.inSet, h2 ▸ hw⟩
theorem root {n : Nat} {par : Nat → Nat} {A : Comp.Rel} (U : Up n par A) {S r u : Nat} (hc : Conn A S) (hr : S.testBit r = true) (hmin : ∀ x, x < r → S.testBit x = false) (hu : S.testBit u = true) (hne : u ≠ r) : S.testBit (par u) = true ∧ r < u := by
  have hlt : r < u := by
    rcases Nat.lt_trichotomy r u with h | h | h
    · exact h
    · exact absurd h.symm hne
    · rw [hmin u h] at hu; cases hu
  refine ⟨Classical.byContradiction fun k => ?_, hlt⟩
  have := stay U (c := u) (hc u r hu hr) (fun h => k h.2) .refl
  have := this.le U
  omega
theorem root_all {n : Nat} {par : Nat → Nat} {A : Comp.Rel} (U : Up n par A) {S r : Nat} (hS : S < 2 ^ n) (hc : Conn A S) (hr : S.testBit r = true) (hmin : ∀ x, x < r → S.testBit x = false) : ∀ m u, u ≤ m → S.testBit u = true → Desc n par r u := by
  intro m
  induction m with
  | zero =>
    intro u hu hb
    by_cases e : u = r
    · subst e; exact .refl
    · have := (root U hc hr hmin hb e).2; omega
  | succ m ih =>
    intro u hu hb
    by_cases e : u = r
    · subst e; exact .refl
    · obtain ⟨h1, h2⟩ := root U hc hr hmin hb e
      have h3 := sub_bit hS hb
      have := U.lt u (by omega) h3
      exact .step (by omega) h3 (ih _ (by omega) h1)
theorem chain {n : Nat} {par : Nat → Nat} {A : Comp.Rel} (U : Up n par A) {S r v u : Nat} (hc : Conn A S) (hr : S.testBit r = true) (hmin : ∀ x, x < r → S.testBit x = false) (hv : r ≤ v) (h : Desc n par v u) : S.testBit u = true → S.testBit v = true := by
  induction h with
  | refl => exact id
  | step h1 h2 h ih =>
    intro hu
    have h3 := h.le U
    have h4 := U.lt _ h1 h2
    exact ih (root U hc hr hmin hu (by omega)).1
theorem child {n : Nat} {par : Nat → Nat} {v u : Nat} (h : Desc n par v u) : u ≠ v → ∃ c, 1 ≤ c ∧ c < n ∧ par c = v ∧ Desc n par c u := by
  induction h with
  | refl => intro h; exact absurd rfl h
  | @step u h1 h2 h ih =>
    intro _
    by_cases e : par u = v
    · exact ⟨u, h1, h2, e, .refl⟩
    · obtain ⟨c, c1, c2, c3, c4⟩ := ih e
      exact ⟨c, c1, c2, c3, .step h1 h2 c4⟩
theorem cnt_disj {p q S : Nat} (hp : ∀ i, p.testBit i = true → S.testBit i = true) (hq : ∀ i, q.testBit i = true → S.testBit i = true) (hd : Apart p q) : ∀ n, cnt n p + cnt n q ≤ cnt n S
  | 0 => Nat.le_refl _
  | n + 1 => by
    have ih := cnt_disj hp hq hd n
    have h := hd n
    have h1 := hp n
    have h2 := hq n
    unfold cnt
    cases e1 : p.testBit n <;> cases e2 : q.testBit n <;> cases e3 : S.testBit n <;> simp_all <;> omega
noncomputable def dm (n : Nat) (par : Nat → Nat) (S c : Nat) : Nat := Classical.choose (mask_of (fun u => S.testBit u = true ∧ Desc n par c u) n)
theorem dm_bit {n : Nat} {par : Nat → Nat} {S c : Nat} (hS : S < 2 ^ n) (i : Nat) : (dm n par S c).testBit i = true ↔ S.testBit i = true ∧ Desc n par c i := by
  have h := (Classical.choose_spec (mask_of (fun u => S.testBit u = true ∧ Desc n par c u) n)).2 i
  exact h.trans ⟨fun k => k.2, fun k => ⟨sub_bit hS k.1, k⟩⟩
theorem max_of {p : Nat → Prop} : ∀ (n : Nat), (∃ v, v < n ∧ p v) → ∃ v, v < n ∧ p v ∧ ∀ c, v < c → c < n → ¬ p c
  | 0, ⟨v, h, _⟩ => by omega
  | n + 1, ⟨v, h, hv⟩ => by
    by_cases e : p n
    · exact ⟨n, by omega, e, fun c h1 h2 => by omega⟩
    · obtain ⟨w, w1, w2, w3⟩ := max_of n ⟨v, by
        have : v ≠ n := fun x => e (x ▸ hv)
        omega, hv⟩
      refine ⟨w, by omega, w2, fun c h1 h2 => ?_⟩
      by_cases e2 : c = n
      · subst e2; exact e
      · exact w3 c h1 (by omega)
theorem least_bit {S : Nat} : ∀ k v, v < k → S.testBit v = true → ∃ v, S.testBit v = true ∧ ∀ u, u < v → S.testBit u = false := by
  intro k
  induction k with
  | zero => intro v hv; omega
  | succ k ihk =>
    intro v hv hb
    by_cases he : ∃ u, u < v ∧ S.testBit u = true
    · obtain ⟨u, h1, h2⟩ := he
      exact ihk u (by omega) h2
    · exact ⟨v, hb, fun u hu => by
        cases hb2 : S.testBit u with
        | false => rfl
        | true => exact absurd ⟨u, hu, hb2⟩ he⟩
theorem some_bit {n S : Nat} (h : 1 ≤ cnt n S) : ∃ v, v < n ∧ S.testBit v = true := by
  refine Classical.byContradiction fun hn => ?_
  have : ∀ k, k ≤ n → cnt k S = 0 := by
    intro k
    induction k with
    | zero => intro _; rfl
    | succ k ih =>
      intro hk
      unfold cnt
      rw [ih (by omega), if_neg fun hb => hn ⟨k, by omega, hb⟩]
  have := this n (Nat.le_refl _)
  omega
theorem reach_mono {A : Comp.Rel} {U V u w : Nat} (h : Comp.Reach A U u w) (k : ∀ i, U.testBit i = true → V.testBit i = true) : Comp.Reach A V u w := by
  induction h with
  | refl h => exact .refl (k _ h)
  | step _ e h ih => exact .step ih e (k _ h)
theorem parts_conn {A : Comp.Rel} (hA : ∀ u w, A u w → A w u) {s : Nat} {l : List Nat} (h : IsParts A s l) : ∀ p ∈ l, Conn A p := by
  intro p hp u w hu hw
  have h1 := part_reach hA h p hp u w hu hw
  have h2 := (reach_part (parts_closed hA h p hp) (fun i hi => hi) hu h1).2
  exact reach_mono h2 fun i hi => by rw [Nat.testBit_and] at hi; exact (Bool.and_eq_true _ _ ▸ hi).2
theorem cnt_same {p q : Nat} (h : ∀ i, p.testBit i = true ↔ q.testBit i = true) (n : Nat) : cnt n p = cnt n q := Nat.le_antisymm (cnt_mono (fun i => (h i).1) n) (cnt_mono (fun i => (h i).2) n)
theorem scan_nn2 (S : Nat) (c : Nat → Int) : ∀ k, (∀ v, v < k → S.testBit v = false) ∨ 0 ≤ (scan S c k).2
  | 0 => .inl fun v h => by omega
  | k + 1 => by
    rw [scan_succ]
    have ih := scan_nn2 S c k
    unfold betterOf
    by_cases hb : S.testBit k = true
    · rw [if_pos hb]
      right
      by_cases h2 : (scan S c k).2 < 0
      · rw [if_pos h2]; split <;> (show (0 : Int) ≤ (k : Int); omega)
      · rw [if_neg h2]
        split
        · show (0 : Int) ≤ (k : Int); omega
        · omega
    · rw [if_neg hb]
      rcases ih with h | h
      · left
        intro v hv
        by_cases e : v = k
        · subst e; simpa using hb
        · exact h v (by omega)
      · exact .inr h
/-- Jordan: without some node each part has at most half of the nodes. -/
theorem centroid {n : Nat} {par : Nat → Nat} {A : Comp.Rel} (U : Up n par A) {S : Nat} (hS : S < 2 ^ n) (hc : Conn A S) (h1 : 1 ≤ cnt n S) : ∃ v, v < n ∧ S.testBit v = true ∧ ∀ L, IsParts A (less S (2 ^ v)) L → ∀ p ∈ L, 2 * cnt n p ≤ cnt n S := by
  obtain ⟨r0, _, hr0⟩ := some_bit h1
  obtain ⟨r, hr, hmin⟩ := least_bit (r0 + 1) r0 (by omega) hr0
  have hrn := sub_bit hS hr
  have hall := root_all U hS hc hr hmin
  have hsr : cnt n (dm n par S r) = cnt n S := cnt_same (fun i => (dm_bit hS i).trans ⟨fun h => h.1, fun h => ⟨h, hall i i (Nat.le_refl _) h⟩⟩) n
  obtain ⟨v, v1, v2, v3⟩ := max_of (p := fun v => 2 * cnt n (dm n par S v) > cnt n S) n ⟨r, hrn, by show 2 * cnt n (dm n par S r) > cnt n S; omega⟩
  have v3 : ∀ c, v < c → c < n → ¬ 2 * cnt n (dm n par S c) > cnt n S := v3
  have hrv : r ≤ v := by
    rcases Nat.lt_or_ge v r with h | h
    · exact absurd (show 2 * cnt n (dm n par S r) > cnt n S by omega) (v3 r h hrn)
    · exact h
  obtain ⟨u, _, hu⟩ := some_bit (n := n) (S := dm n par S v) (by omega)
  have hu := (dm_bit hS u).1 hu
  have hvS := chain U hc hr hmin hrv hu.2 hu.1
  have hlb : ∀ i, (less S (2 ^ v)).testBit i = true ↔ S.testBit i = true ∧ i ≠ v := fun i => by
    rw [less_bit, Nat.testBit_two_pow]
    by_cases e : v = i
    · subst e; simp
    · simp [e]; exact fun _ x => e x.symm
  refine ⟨v, v1, hvS, fun L hL p hp => ?_⟩
  have hsub := parts_sub hL p hp
  have hpc := parts_conn U.symm hL p hp
  have hvp : ¬ p.testBit v = true := fun h => ((hlb v).1 (hsub v h)).2 rfl
  obtain ⟨u0, hu0⟩ := parts_ne hL p hp
  by_cases hd : Desc n par v u0
  · obtain ⟨c, c1, c2, c3, c4⟩ := child hd fun e => hvp (e ▸ hu0)
    have hin : ∀ i, p.testBit i = true → (dm n par S c).testBit i = true := fun i hi => (dm_bit hS i).2 ⟨((hlb i).1 (hsub i hi)).1, stay U (hpc u0 i hu0 hi) (fun k => hvp (c3 ▸ k.2)) c4⟩
    have h2 := cnt_mono hin n
    have h3 := U.lt c c1 c2
    have h4 := v3 c (by omega) c2
    omega
  · have hout : Apart p (dm n par S v) := fun i ⟨hi, hj⟩ => hd (stay U (hpc i u0 hi hu0) (fun k => hvp k.1) ((dm_bit hS i).1 hj).2)
    have h2 := cnt_disj (p := p) (q := dm n par S v) (fun i hi => ((hlb i).1 (hsub i hi)).1) (fun i hi => ((dm_bit hS i).1 hi).1) hout n
    omega
theorem scan_le {S : Nat} {c : Nat → Int} (h0 : ∀ v, 0 ≤ c v) : ∀ k v, v < k → S.testBit v = true → (scan S c k).1 ≤ c v
  | 0, v, h, _ => by omega
  | k + 1, v, h, hb => by
    rw [scan_succ]
    by_cases e : v = k
    · subst e
      rw [if_pos hb]
      unfold betterOf
      split <;> split <;> simp_all <;> omega
    · have ih := scan_le h0 k v (by omega) hb
      by_cases hk : S.testBit k = true
      · rw [if_pos hk]
        have hnn : 0 ≤ (scan S c k).2 := by
          rcases scan_nn2 S c k with h1 | h1
          · exact absurd hb (by rw [h1 v (by omega)]; simp)
          · exact h1
        rw [if_neg (by omega)]
        unfold betterOf
        split <;> simp_all <;> omega
      · rw [if_neg hk]; exact ih
theorem mx_mem (l : List Int) : mx l = 0 ∨ mx l ∈ l := by
  have key : ∀ (l : List Int) (a : Int), l.foldl max a = a ∨ l.foldl max a ∈ l := by
    intro l
    induction l with
    | nil => intro a; exact .inl rfl
    | cons x l ih =>
      intro a
      show l.foldl max (max a x) = a ∨ l.foldl max (max a x) ∈ x :: l
      rcases ih (max a x) with h | h
      · rw [h]
        by_cases e : a ≤ x
        · right; rw [show max a x = x by omega]; exact List.mem_cons_self
        · left; omega
      · exact .inr (List.mem_cons_of_mem _ h)
  exact key l 0
theorem node_nn (A : Comp.Rel) (n S v : Nat) : 0 ≤ nodeC A n S v := by
  have key : ∀ (l : List Int) (a : Int), 0 ≤ a → 0 ≤ l.foldl max a := by
    intro l
    induction l with
    | nil => intro a h; exact h
    | cons x l ih => intro a h; exact ih _ (by omega)
  exact key _ 0 (Int.le_refl _)
theorem B_le (A : Comp.Rel) {n S v : Nat} (hv : v < n) (hb : S.testBit v = true) : (B A n S).1 ≤ nodeC A n S v := by
  rw [B_step]
  exact scan_le (node_nn A n S) n v hv hb
/-- Twice as many nodes for each look. -/
theorem looks_pow {n : Nat} {par : Nat → Nat} {A : Comp.Rel} (U : Up n par A) : ∀ m S, cnt n S ≤ m → S < 2 ^ n → Conn A S → 1 ≤ cnt n S → 2 ^ (B A n S).1.toNat ≤ cnt n S := by
  intro m
  induction m with
  | zero => intro S h _ _ h1; omega
  | succ m ih =>
    intro S hm hS hc h1
    obtain ⟨v, hv, hvS, hhalf⟩ := centroid U hS hc h1
    obtain ⟨L, hL⟩ := parts_all A n _ (less_lt (b := 2 ^ v) hS)
    have hle := B_le A hv hvS
    have h0 := B_bd A n _ S (Nat.le_refl _)
    have hn : nodeC A n S v = mx (L.map fun p => 1 + (B A n p).1) := by unfold nodeC; rw [partsOf_eq hL]
    rcases mx_mem (L.map fun p => 1 + (B A n p).1) with h | h
    · have : (B A n S).1 = 0 := by omega
      rw [this]
      exact h1
    · obtain ⟨p, hp, e⟩ := List.mem_map.1 h
      have hpl := Nat.lt_of_le_of_lt (parts_le hL p hp) (less_lt (b := 2 ^ v) hS)
      obtain ⟨u, hu⟩ := parts_ne hL p hp
      have hp1 := cnt_pos hu n (sub_bit hpl hu)
      have hp2 := part_cnt A hv hvS (p := p) (by rw [partsOf_eq hL]; exact hp)
      have hi := ih p (by omega) hpl (parts_conn U.symm hL p hp) hp1
      have hh := hhalf L hL p hp
      have hb := B_bd A n _ p (Nat.le_refl _)
      have e2 : (B A n S).1.toNat ≤ (B A n p).1.toNat + 1 := by omega
      have := Nat.pow_le_pow_right (n := 2) (by omega) e2
      rw [Nat.pow_succ] at this
      omega
end Go.Proofs.Yticmdpcahpimhaa
namespace Go.Proofs.Yticmdpcahpimhaa
open Go.Rx Go.RowKit Go.Comp
theorem in_part {A : Comp.Rel} (hA : ∀ u w, A u w → A w u) {n S T : Nat} {L : List Nat} (hc : Conn A S) (h1 : 1 ≤ cnt n S) (hs : ∀ i, S.testBit i = true → T.testBit i = true) (hL : IsParts A T L) : ∃ q ∈ L, ∀ i, S.testBit i = true → q.testBit i = true := by
  obtain ⟨u, _, hu⟩ := some_bit h1
  obtain ⟨q, hq, hqu⟩ := parts_cover hL u (hs u hu)
  exact ⟨q, hq, fun i hi => (reach_part (parts_closed hA hL q hq) hs hqu (hc u i hu hi)).1⟩
theorem looks_mono {A : Comp.Rel} (hA : ∀ u w, A u w → A w u) {n : Nat} : ∀ m S S', cnt n S' ≤ m → S' < 2 ^ n → (∀ i, S.testBit i = true → S'.testBit i = true) → Conn A S → 1 ≤ cnt n S → (B A n S).1 ≤ (B A n S').1 := by
  intro m
  induction m with
  | zero => intro S S' h _ hs _ h1; have := cnt_mono hs n; omega
  | succ m ih =>
    intro S S' hm hS' hs hc h1
    have h1' := cnt_mono hs n
    obtain ⟨v, hv, hvS, eB⟩ := B_in A (n := n) (S := S') (by omega)
    have hlt' : less S' (2 ^ v) < 2 ^ n := less_lt hS'
    obtain ⟨L', hL'⟩ := parts_all A n _ hlt'
    have hn' : nodeC A n S' v = mx (L'.map fun p => 1 + (B A n p).1) := by unfold nodeC; rw [partsOf_eq hL']
    rw [eB]
    show (B A n S).1 ≤ nodeC A n S' v
    have hnn := node_nn A n S' v
    have hsub : ∀ q ∈ L', cnt n q ≤ m ∧ q < 2 ^ n ∧ 1 + (B A n q).1 ≤ nodeC A n S' v := fun q hq => by
      have h2 := part_cnt A hv hvS (p := q) (by rw [partsOf_eq hL']; exact hq)
      exact ⟨by omega, Nat.lt_of_le_of_lt (parts_le hL' q hq) hlt', by rw [hn']; exact mx_ge (List.mem_map.2 ⟨q, hq, rfl⟩)⟩
    have hlb : ∀ T i, (less T (2 ^ v)).testBit i = true ↔ T.testBit i = true ∧ i ≠ v := fun T i => by
      rw [less_bit, Nat.testBit_two_pow]
      by_cases e : v = i
      · subst e; simp
      · simp [e]; exact fun _ x => e x.symm
    have hS : S < 2 ^ n := Nat.lt_pow_two_of_testBit S fun i hi => by
      cases hb : S.testBit i with
      | false => rfl
      | true => have := sub_bit hS' (hs i hb); omega
    by_cases hb : S.testBit v = true
    · have hle := B_le A hv hb
      have hlt : less S (2 ^ v) < 2 ^ n := less_lt hS
      obtain ⟨L, hL⟩ := parts_all A n _ hlt
      have hn : nodeC A n S v = mx (L.map fun p => 1 + (B A n p).1) := by unfold nodeC; rw [partsOf_eq hL]
      rcases mx_mem (L.map fun p => 1 + (B A n p).1) with h | h
      · omega
      · obtain ⟨p, hp, e⟩ := List.mem_map.1 h
        obtain ⟨u, hu⟩ := parts_ne hL p hp
        have hpl := Nat.lt_of_le_of_lt (parts_le hL p hp) hlt
        have hp1 := cnt_pos hu n (sub_bit hpl hu)
        obtain ⟨q, hq, hpq⟩ := in_part hA (n := n) (parts_conn hA hL p hp) hp1 (fun i hi => (hlb S' i).2 ⟨hs i ((hlb S i).1 (parts_sub hL p hp i hi)).1, ((hlb S i).1 (parts_sub hL p hp i hi)).2⟩) hL'
        obtain ⟨q1, q2, q3⟩ := hsub q hq
        have := ih p q q1 q2 hpq (parts_conn hA hL p hp) hp1
        omega
    · obtain ⟨q, hq, hpq⟩ := in_part hA (n := n) hc h1 (fun i hi => (hlb S' i).2 ⟨hs i hi, fun e => hb (e ▸ hi)⟩) hL'
      obtain ⟨q1, q2, q3⟩ := hsub q hq
      have := ih S q q1 q2 hpq hc h1
      omega
/-- Two kinds of edges that are the same below n. -/
def Same (n : Nat) (A A' : Comp.Rel) : Prop := ∀ u w, u < n → w < n → (A u w ↔ A' u w)
theorem Same.reach {n : Nat} {A A' : Comp.Rel} (h : Same n A A') {S u w : Nat} (hS : S < 2 ^ n) (hr : Comp.Reach A S u w) : Comp.Reach A' S u w := by
  induction hr with
  | refl h => exact .refl h
  | step hr e hw ih => exact .step ih ((h _ _ (sub_bit hS hr.inSet) (sub_bit hS hw)).1 e) hw
theorem Same.symm {n : Nat} {A A' : Comp.Rel} (h : Same n A A') : Same n A' A := fun u w hu hw => (h u w hu hw).symm
theorem Same.parts {n : Nat} {A A' : Comp.Rel} (h : Same n A A') {S : Nat} {L : List Nat} (hL : IsParts A S L) : S < 2 ^ n → IsParts A' S L := by
  induction hL with
  | nil => intro _; exact .nil
  | @cons s v p l hv hmin hp hl ih => intro hs; exact .cons hv hmin (fun u => (hp u).trans ⟨h.reach hs, h.symm.reach hs⟩) (ih (less_lt hs))
theorem cnt_succ {n S : Nat} (hS : S < 2 ^ n) : cnt (n + 1) S = cnt n S := cnt_up hS 1
theorem Same.best {n : Nat} {A A' : Comp.Rel} (h : Same n A A') : ∀ m S, cnt n S ≤ m → S < 2 ^ n → B A' (n + 1) S = B A n S := by
  intro m
  induction m with
  | zero =>
    intro S hm hS
    have : S = 0 := zero_of_bits fun i => by
      cases hb : S.testBit i with
      | false => rfl
      | true => have := cnt_pos hb n (sub_bit hS hb); omega
    subst this
    have z : ∀ A n, B A n 0 = (0, -1) := fun A n => by
      rw [B_step]
      have : ∀ k c, scan 0 c k = (0, -1) := by
        intro k c
        induction k with
        | zero => rfl
        | succ k ih => rw [scan_succ, if_neg (by simp)]; exact ih
      exact this _ _
    rw [z, z]
  | succ m ih =>
    intro S hm hS
    have htop : S.testBit n = false := Nat.testBit_lt_two_pow hS
    rw [B_step, B_step, scan_succ, if_neg (by rw [htop]; simp)]
    refine scan_congr fun v hv hb => ?_
    have hlt : less S (2 ^ v) < 2 ^ n := less_lt hS
    obtain ⟨L, hL⟩ := parts_all A n _ hlt
    unfold nodeC
    rw [partsOf_eq hL, partsOf_eq (h.parts hL hlt)]
    refine congrArg mx (List.map_congr_left fun p hp => ?_)
    have h2 := part_cnt A hv hb (p := p) (by rw [partsOf_eq hL]; exact hp)
    rw [ih p (by omega) (Nat.lt_of_le_of_lt (parts_le hL p hp) hlt)]
/-- The tree by the node above each. -/
structure Par (n : Nat) (par : Nat → Nat) (P : List (Int × Int)) : Prop where
  lt : ∀ t, 1 ≤ t → t < n → par t < t
  mem : ∀ x, x ∈ P ↔ ∃ t : Nat, 1 ≤ t ∧ t < n ∧ x = ((par t : Int), (t : Int))
theorem Par.up {n : Nat} {par : Nat → Nat} {P : List (Int × Int)} (h : Par n par P) : Up n par (adj P) where
  lt := h.lt
  symm := adj_symm P
  edge u w e := by
    rcases e with e | e
    · obtain ⟨t, t1, t2, t3⟩ := (h.mem _).1 e
      have e1 : u = par t := Int.ofNat_inj.1 (congrArg Prod.fst t3)
      have e2 : w = t := Int.ofNat_inj.1 (congrArg Prod.snd t3)
      exact .inr ⟨by omega, by omega, by rw [e2, e1]⟩
    · obtain ⟨t, t1, t2, t3⟩ := (h.mem _).1 e
      have e1 : w = par t := Int.ofNat_inj.1 (congrArg Prod.fst t3)
      have e2 : u = t := Int.ofNat_inj.1 (congrArg Prod.snd t3)
      exact .inl ⟨by omega, by omega, by rw [e2, e1]⟩
theorem TreeP.conn {n : Nat} {P : List (Int × Int)} (h : TreeP n P) : Conn (adj P) (2 ^ n - 1) ∧ IsParts (adj P) (2 ^ n - 1) [2 ^ n - 1] := by
  obtain ⟨p, hp⟩ := h.one
  rw [Int.toNat_natCast] at hp
  have e : p = 2 ^ n - 1 := Nat.eq_of_testBit_eq fun i => by
    have h1 := parts_sub hp p (by simp) i
    have h2 := parts_cover hp i
    simp only [List.mem_singleton, exists_eq_left] at h2
    cases e1 : p.testBit i <;> cases e2 : (2 ^ n - 1).testBit i <;> simp_all
  subst e
  exact ⟨parts_conn (adj_symm P) hp _ (by simp), hp⟩
/-- A node more, behind the last one. -/
theorem more_tree {n : Nat} {par : Nat → Nat} {P : List (Int × Int)} (hn1 : 1 ≤ n) (hn : n + 1 ≤ 10) (h : Par n par P) (hT : TreeP n P) : TreeP ((n + 1 : Nat) : Int) (P ++ [(((n - 1 : Nat) : Int), (n : Int))]) := by
  refine tree_of ⟨by omega, hn⟩ (par := fun t => if t = n then n - 1 else par t) (fun t h1 h2 => ?_) (fun k hk _ => ?_) fun x => ?_
  · split
    · omega
    · exact h.lt t h1 (by omega)
  · by_cases e : k < P.length
    · have h1 := hT.up k e e
      have e1 : (P ++ [(((n - 1 : Nat) : Int), (n : Int))])[k] = P[k] := List.getElem_append_left e
      refine ⟨by rw [e1]; exact h1.1, by rw [e1]; exact h1.2.1, by rw [e1]; have := h1.2.2.1; omega, fun h0 => ?_⟩
      have e2 : (P ++ [(((n - 1 : Nat) : Int), (n : Int))])[k - 1]'(by omega) = P[k - 1] := List.getElem_append_left (by omega)
      rw [e1, e2]
      exact h1.2.2.2 h0
    · have hkl : k = P.length := by rw [List.length_append, List.length_singleton] at hk; omega
      subst hkl
      have e1 : (P ++ [(((n - 1 : Nat) : Int), (n : Int))])[P.length] = (((n - 1 : Nat) : Int), (n : Int)) := by simp
      refine ⟨by rw [e1]; show (0 : Int) ≤ ((n - 1 : Nat) : Int); omega, by rw [e1]; show ((n - 1 : Nat) : Int) < (n : Int); omega, by rw [e1]; show (n : Int) < ((n + 1 : Nat) : Int); omega, fun h0 => ?_⟩
      have e2 : (P ++ [(((n - 1 : Nat) : Int), (n : Int))])[P.length - 1]'(by omega) = P[P.length - 1] := List.getElem_append_left (by omega)
      rw [e1, e2]
      obtain ⟨t, t1, t2, t3⟩ := (h.mem _).1 (List.getElem_mem (show P.length - 1 < P.length by omega))
      have := h.lt t t1 t2
      rw [t3]
      unfold PLess
      dsimp only
      omega
  · rw [List.mem_append, List.mem_singleton, h.mem]
    constructor
    · rintro (⟨t, t1, t2, rfl⟩ | rfl)
      · exact ⟨t, t1, by omega, by rw [if_neg (by omega)]⟩
      · exact ⟨n, hn1, by omega, by rw [if_pos rfl]⟩
    · rintro ⟨t, t1, t2, rfl⟩
      by_cases e : t = n
      · subst e; right; rw [if_pos rfl]
      · left; exact ⟨t, t1, by omega, by rw [if_neg e]⟩
theorem looks_more {n : Nat} {par : Nat → Nat} {P : List (Int × Int)} (hn1 : 1 ≤ n) (h : Par n par P) (hT : TreeP n P) :
    (B (adj P) n (2 ^ n - 1)).1 ≤ (B (adj (P ++ [(((n - 1 : Nat) : Int), (n : Int))])) (n + 1) (2 ^ (n + 1) - 1)).1 ∧ (B (adj (P ++ [(((n - 1 : Nat) : Int), (n : Int))])) (n + 1) (2 ^ (n + 1) - 1)).1 ≤ (B (adj P) n (2 ^ n - 1)).1 + 1 := by
  have hS : 2 ^ n - 1 < 2 ^ n := by have := Nat.two_pow_pos n; omega
  have hS' : 2 ^ (n + 1) - 1 < 2 ^ (n + 1) := by have := Nat.two_pow_pos (n + 1); omega
  have hc1 : 1 ≤ cnt n (2 ^ n - 1) := cnt_pos (v := 0) (by rw [all_bit, decide_eq_true (by omega)]) n hn1
  have hsame : Same n (adj P) (adj (P ++ [(((n - 1 : Nat) : Int), (n : Int))])) := fun u w hu hw => by
    unfold adj
    rw [List.mem_append, List.mem_append, List.mem_singleton, List.mem_singleton]
    constructor
    · rintro (h | h)
      · exact .inl (.inl h)
      · exact .inr (.inl h)
    · rintro ((h | h) | (h | h))
      · exact .inl h
      · have := congrArg Prod.snd h; dsimp only at this; omega
      · exact .inr h
      · have := congrArg Prod.snd h; dsimp only at this; omega
  have hb := hsame.best (cnt n (2 ^ n - 1)) (2 ^ n - 1) (Nat.le_refl _) hS
  obtain ⟨hcn, hone⟩ := hT.conn
  have hcn' : Conn (adj (P ++ [(((n - 1 : Nat) : Int), (n : Int))])) (2 ^ n - 1) := fun u w hu hw => hsame.reach hS (hcn u w hu hw)
  constructor
  · rw [← hb]
    refine looks_mono (adj_symm _) (cnt (n + 1) (2 ^ (n + 1) - 1)) _ _ (Nat.le_refl _) hS' (fun i hi => ?_) hcn' (by rw [cnt_succ hS]; exact hc1)
    rw [all_bit] at hi ⊢
    have := of_decide_eq_true hi
    exact decide_eq_true (by omega)
  · have hle := B_le (adj (P ++ [(((n - 1 : Nat) : Int), (n : Int))])) (n := n + 1) (S := 2 ^ (n + 1) - 1) (v := n) (by omega) (by rw [all_bit]; exact decide_eq_true (by omega))
    have el : less (2 ^ (n + 1) - 1) (2 ^ n) = 2 ^ n - 1 := Nat.eq_of_testBit_eq fun i => by
      rw [less_bit, Nat.testBit_two_pow, all_bit, all_bit]
      by_cases e : n = i
      · subst e; simp
      · rw [decide_eq_false e]
        by_cases e2 : i < n
        · rw [decide_eq_true e2, decide_eq_true (by omega)]; rfl
        · rw [decide_eq_false e2, decide_eq_false (by omega)]; rfl
    have hp := hsame.parts hone hS
    have hB0 := B_bd (adj P) n _ (2 ^ n - 1) (Nat.le_refl _)
    unfold nodeC at hle
    rw [el, partsOf_eq hp] at hle
    have e2 : mx ([2 ^ n - 1].map fun p => 1 + (B (adj (P ++ [(((n - 1 : Nat) : Int), (n : Int))])) (n + 1) p).1) = 1 + (B (adj P) n (2 ^ n - 1)).1 := by
      show max 0 (1 + (B (adj (P ++ [(((n - 1 : Nat) : Int), (n : Int))])) (n + 1) (2 ^ n - 1)).1) = _
      rw [hb]
      omega
    rw [e2] at hle
    omega
theorem mS_le (n : Nat) (c : Nat → Int) : ∀ k, (mS n c k).1 ≤ n ∧ (∀ v, v < k → (mS n c k).1 ≤ c v) ∧ 0 ≤ (mS n c k).2 ∧ ((mS n c k).2 = 0 ∨ (mS n c k).2 < k)
  | 0 => ⟨Int.le_refl _, fun v h => by omega, Int.le_refl _, .inl rfl⟩
  | k + 1 => by
    obtain ⟨h1, h2, h3, h4⟩ := mS_le n c k
    rw [mS_succ]
    unfold betterOf
    split
    · rename_i hlt
      dsimp only at hlt ⊢
      refine ⟨by omega, fun v hv => ?_, by omega, .inr (by omega)⟩
      by_cases e : v = k
      · subst e; omega
      · have := h2 v (by omega); omega
    · rename_i hlt
      dsimp only at hlt
      refine ⟨h1, fun v hv => ?_, h3, by omega⟩
      by_cases e : v = k
      · subst e; omega
      · exact h2 v (by omega)
theorem middle_half {n : Nat} (hn1 : 1 ≤ n) (hn : n ≤ 10) {par : Nat → Nat} {P : List (Int × Int)} (h : Par n par P) (hT : TreeP n P) : 0 ≤ (mS n (midC P n) n).1 ∧ 2 * (mS n (midC P n) n).1 ≤ n ∧ 0 ≤ (mS n (midC P n) n).2 ∧ (mS n (midC P n) n).2 < n := by
  have hS : 2 ^ n - 1 < 2 ^ n := by have := Nat.two_pow_pos n; omega
  have hc1 : 1 ≤ cnt n (2 ^ n - 1) := cnt_pos (v := 0) (by rw [all_bit, decide_eq_true (by omega)]) n hn1
  obtain ⟨v, hv, hvS, hh⟩ := centroid h.up hS hT.conn.1 hc1
  obtain ⟨h1, h2, h3, h4⟩ := mS_le n (midC P n) n
  have hb := mS_bd n (midC P n) (midC_bd P n) n
  have hlt : less (2 ^ n - 1) (2 ^ v) < 2 ^ n := less_lt hS
  obtain ⟨L, hL⟩ := parts_all (adj P) n _ hlt
  have hcn := cnt_le n (2 ^ n - 1)
  have hm : 2 * midC P n v ≤ n := by
    unfold midC
    rw [partsOf_eq hL]
    rcases mx_mem (L.map fun p => (pop p : Int)) with h | h
    · rw [h]; omega
    · obtain ⟨p, hp, e⟩ := List.mem_map.1 h
      rw [← e]
      have := hh L hL p hp
      have hpl := Nat.lt_of_le_of_lt (parts_le hL p hp) hlt
      rw [pop_cnt hn hpl]
      omega
  have := h2 v hv
  exact ⟨hb.1, by omega, h3, by omega⟩
end Go.Proofs.Yticmdpcahpimhaa
namespace Go.Proofs.Yticmdpcahpimhaa
open Go.Rx Go.RowKit Go.Comp
attribute [local irreducible] E idxN cellAt cellsAt storeAt callable helems hmoved lookIn findKey keyOk hentries Hp.at Hp.set Hp.lay arBits hupdated setAt CallP YieldP BoolOf IsWrap Rnd LoopP AppP CutP Int.tmod Int.tdiv Int.fdiv
section
variable [Unknowns]
attribute [local irreducible] ResP
theorem lawtree_spec2 (n0 : Int) (l : List Int) (v : Value) (h : Hp) (hv : Ints h v l) (hl : l.length < 9223372036854775808) : CallP E 45 [int n0, v] h (fun r h' => (∃ (n : Nat) (P : List (Int × Int)) (w : Value) (par : Nat → Nat), r = .tuple ⟨[int n, w]⟩ ∧ 1 ≤ n ∧ n ≤ 10 ∧ TreeP n P ∧ P.length ≤ 10 ∧ PairsV h' w P ∧ Par n par P ∧ BuiltC h h' 81 2 w P.length ((flat P).map int)) ∧ Grows h h') := by
  obtain ⟨av, cp, rfl, hcell⟩ := id hv
  refine enter45 (by simp) ?_
  conv => whnf
  refine SeqP.go ?_
  conv => whnf
  refine SeqP.cut (α := Nat) (fun n => [(0, int n), (1, .slice av l.length cp)]) (fun n H => h = H ∧ 1 ≤ n ∧ n ≤ 10) ?_ ?_
  · conv => whnf
    have hux := u64_of n0
    obtain ⟨u, u0, u1, hu⟩ := hux
    refine ⟨u, hu, ?_⟩
    conv => whnf
    refine ⟨by omega, ?_⟩
    have b1 := tmod_bd u0 (show (0 : Int) < 10 by omega)
    have hexn : ∃ n : Nat, u.tmod 10 = (n : Int) := ⟨(u.tmod 10).toNat, by omega⟩
    obtain ⟨n, hn⟩ := hexn
    conv => whnf
    refine ⟨(n : Int), wie hn (by omega), ?_⟩
    conv => whnf
    refine ⟨((n + 1 : Nat) : Int), wie (by omega) (by omega), ?_⟩
    conv => whnf
    exact ⟨n + 1, ⟨rfl, rfl, trivial⟩, ⟨rfl, by omega, by omega⟩, rfl⟩
  rintro n φ _ ⟨rfl, hn1, hn2⟩
  conv => whnf
  refine SeqP.go ?_
  conv => whnf
  refine ⟨⟨by omega, by omega, by omega, by omega⟩, ?_⟩
  conv => whnf
  have e0 : times [int 0] ((n : Nat) : Int).toNat = rowF n (fun _ => ((0 : Nat) : Int)) := by rw [times_zero, Int.toNat_natCast]; rfl
  rw [e0]
  refine SeqP.cut (α := Nat → Nat) (fun _ => [(6, slc h.next 0 n n), (0, int n), (1, .slice av l.length cp)]) (fun par H => H = h.lay (.row 3 true (rowF n fun i => (par i : Int))) ∧ ∀ t, 1 ≤ t → t < n → par t < t) ?_ ?_
  · conv => whnf
    repeat (refine SeqP.go ?_; conv => whnf)
    refine loop_inv (α := Nat × (Nat → Nat)) (fun s => [(7, int s.1), (6, slc h.next 0 n n), (0, int n), (1, .slice av l.length cp)]) (fun s => h.lay (.row 3 true (rowF n fun i => (s.2 i : Int)))) (fun s => 1 ≤ s.1 ∧ s.1 ≤ n ∧ ∀ t, 1 ≤ t → t < s.1 → s.2 t < t) (fun s => n - s.1) (1, fun _ => 0) ⟨Nat.le_refl _, hn1, fun t h1 h2 => by omega⟩ ⟨rfl, rfl, rfl, rfl, trivial⟩ (Hp.Le.refl _) ?_
    rintro ⟨k, par⟩ φ ⟨hk1, hkn, hpar⟩
    dsimp only at hk1 hkn hpar ⊢
    conv => whnf
    repeat (refine SeqP.go ?_; conv => whnf)
    refine cmpB (fun hb1 => ?_) (fun hb1 => ?_)
    rotate_left
    · have : k = n := by omega
      subst this
      conv => whnf
      repeat (refine SeqP.go ?_; conv => whnf)
      exact ⟨par, ⟨rfl, rfl, rfl, trivial⟩, ⟨rfl, hpar⟩, rfl⟩
    have hkl : k < n := by omega
    have set : ∀ (par : Nat → Nat) (o p : Nat), o = k → (rowF n fun i => (par i : Int)).set o (int p) = rowF n fun i => ((if i = k then p else par i : Nat) : Int) := by
      intro par o p ho
      subst ho
      rw [rowF_set]
      refine rowF_congr fun i _ => ?_
      split <;> rfl
    conv => whnf
    refine SeqP.cut (α := Nat → Nat) (fun _ => [(7, int k), (6, slc h.next 0 n n), (0, int n), (1, .slice av l.length cp)]) (fun par' H => h.lay (.row 3 true (rowF n fun i => (par' i : Int))) = H ∧ ∀ t, 1 ≤ t → t < k + 1 → par' t < t) ?_ ?_
    rotate_left
    · rintro par' φ1 _ ⟨rfl, hpar'⟩
      conv => whnf
      refine ⟨((k + 1 : Nat) : Int), wie (by omega) (by omega), ?_⟩
      conv => whnf
      exact Rnd.mk (k + 1, par') ⟨by show 1 ≤ k + 1; omega, by show k + 1 ≤ n; omega, hpar'⟩ (by show n - (k + 1) < n - k; omega) ⟨rfl, rfl, rfl, rfl, trivial⟩ (Hp.Le.refl _) rfl
    conv => whnf
    refine SeqP.cut (α := Unit) (fun _ => [(7, int k), (6, slc h.next 0 n n), (0, int n), (1, .slice av l.length cp)]) (fun _ H => h.lay (.row 3 true (rowF n fun i => ((if i = k then k - 1 else par i : Nat) : Int))) = H) ?_ ?_
    · conv => whnf
      refine ⟨((k - 1 : Nat) : Int), wie (by omega) (by omega), ?_⟩
      conv => whnf
      refine ⟨rfl, ⟨by omega, by omega⟩, ?_⟩
      conv => whnf
      refine ⟨rfl, _, storeAt_lay (by rw [offAt_eq, rowF_length, Int.toNat_natCast]; omega) rfl, ?_⟩
      conv => whnf
      exact ⟨(), ⟨rfl, rfl, rfl, rfl, trivial⟩, congrArg (fun c => h.lay (.row 3 true c)) (set par _ _ (by rw [offAt_eq, Int.toNat_natCast]; omega)).symm, rfl⟩
    rintro _ φ2 _ rfl
    have hp1 : ∀ p, p < k → ∀ t, 1 ≤ t → t < k + 1 → (if t = k then p else par t) < t := by
      intro p hp t t1 t2
      split
      · omega
      · exact hpar t t1 (by omega)
    conv => whnf
    repeat (refine SeqP.go ?_; conv => whnf)
    refine ⟨((k - 1 : Nat) : Int), wie (by omega) (by omega), ?_⟩
    conv => whnf
    refine cmpB (fun hb2 => ?_) (fun hb2 => ?_)
    rotate_left
    · conv => whnf
      repeat (refine SeqP.go ?_; conv => whnf)
      exact ⟨fun i => if i = k then k - 1 else par i, ⟨rfl, rfl, rfl, rfl, trivial⟩, ⟨rfl, hp1 (k - 1) (by omega)⟩, rfl⟩
    have hc := hcell (k - 1) (by omega)
    obtain ⟨r, o, sp, ea, hsp, hc⟩ := hc
    subst ea
    conv => whnf
    repeat (refine SeqP.go ?_; conv => whnf)
    refine ⟨((k - 1 : Nat) : Int), wie (by omega) (by omega), ?_⟩
    conv => whnf
    refine ⟨hsp, ⟨by omega, by omega⟩, ?_⟩
    conv => whnf
    refine ⟨int l[k - 1], (Grows.lay _ _).cell (by rw [offAt_eq, Nat.add_comm]; simpa using hc), ?_⟩
    conv => whnf
    have hux := u64_of l[k - 1]
    obtain ⟨u, u0, u1, hu⟩ := hux
    refine ⟨u, hu, ?_⟩
    conv => whnf
    refine ⟨(k : Int), u64_id (by omega), ?_⟩
    conv => whnf
    refine ⟨by omega, ?_⟩
    have b1 := tmod_bd u0 (show (0 : Int) < (k : Int) by omega)
    have hexp : ∃ q : Nat, u.tmod k = (q : Int) := ⟨(u.tmod k).toNat, by omega⟩
    obtain ⟨q, hq⟩ := hexp
    conv => whnf
    refine ⟨(q : Int), wie hq (by omega), ?_⟩
    conv => whnf
    refine ⟨rfl, ⟨by omega, by omega⟩, ?_⟩
    conv => whnf
    refine ⟨rfl, _, storeAt_lay (by rw [offAt_eq, rowF_length, Int.toNat_natCast]; omega) rfl, ?_⟩
    conv => whnf
    refine ⟨fun i => if i = k then q else par i, ⟨rfl, rfl, rfl, rfl, trivial⟩, ⟨?_, hp1 q (by omega)⟩, rfl⟩
    have e1 := set (fun i => if i = k then k - 1 else par i) (offAt 0 ((k : Int)).toNat 1) q (by rw [offAt_eq, Int.toNat_natCast]; omega)
    refine congrArg (fun c => h.lay (.row 3 true c)) (Eq.trans ?_ e1.symm)
    refine rowF_congr fun i _ => ?_
    split <;> simp_all
  rintro par φ3 H1 ⟨eH, hpar⟩
  have hrow : H1.at h.next = some (.row 3 true (rowF n fun i => (par i : Int))) := by rw [eH]; exact Hp.at_lay_self _ _
  have hgH : Grows h H1 := by rw [eH]; exact Grows.lay _ _
  clear eH
  have lit : ∀ (h1 : Hp) (x y : Int), ElemsC (h1.lay (.row 81 true [int x, int y])) 2 (slc h1.next 0 1 1) 1 ((flat [(x, y)]).map int) := fun h1 x y => BuiltC.elems (h0 := h1) (e := 81) rfl ⟨rfl, .inr ⟨h1.next, rfl, Nat.le_refl _, true, Hp.at_lay_self _ _⟩⟩
  conv => whnf
  refine SeqP.go ?_
  conv => whnf
  refine SeqP.cut (α := Value × List (Int × Int)) (fun s => [(8, s.1), (0, int n)]) (fun s H => UpE n par n (n + 1) s.2 ∧ BuiltC H1 H 81 2 s.1 s.2.length ((flat s.2).map int) ∧ Grows H1 H) ?_ ?_
  rotate_left
  · rintro ⟨w, P⟩ φ9 H9 ⟨hU, hb, hg⟩
    dsimp only at hU hb ⊢
    have hbs := hb.slice
    obtain ⟨aw, rfl, -⟩ := hbs
    have hmemx : ∀ x, x ∈ P ↔ ∃ t : Nat, 1 ≤ t ∧ t < n ∧ x = ((par t : Int), (t : Int)) := fun x => (hU.mem x).trans ⟨fun ⟨t, h1, h2, h3, _⟩ => ⟨t, h1, h2, h3⟩, fun ⟨t, h1, h2, h3⟩ => ⟨t, h1, h2, h3, .inl (by have := hpar t h1 h2; omega)⟩⟩
    have hTP := tree_of ⟨hn1, hn2⟩ hpar hU.up hmemx
    have hPl := hU.len
    conv => whnf
    repeat (refine SeqP.go ?_; conv => whnf)
    exact ⟨⟨n, P, _, par, rfl, hn1, hn2, hTP, by omega, hb.pairs, ⟨hpar, hmemx⟩, hb.back hgH.next⟩, hgH.trans hg⟩
  conv => whnf
  repeat (refine SeqP.go ?_; conv => whnf)
  refine loop_inv (α := Nat × Value × List (Int × Int) × Hp) (fun s => [(9, int s.1), (8, s.2.1), (6, slc h.next 0 n n), (0, int n)]) (fun s => s.2.2.2) (fun s => s.1 ≤ n ∧ UpE n par s.1 (s.1 + 1) s.2.2.1 ∧ BuiltC H1 s.2.2.2 81 2 s.2.1 s.2.2.1.length ((flat s.2.2.1).map int) ∧ Grows H1 s.2.2.2) (fun s => n - s.1) (0, .slice none 0 0, [], H1) ⟨Nat.zero_le _, UpE.start n par, BuiltC.nil, Grows.refl _⟩ ⟨rfl, rfl, rfl, rfl, trivial⟩ (Hp.Le.refl _) ?_
  rintro ⟨a, w, P, H⟩ φ4 ⟨ha, hU, hb, hg⟩
  dsimp only at ha hU hb hg ⊢
  conv => whnf
  repeat (refine SeqP.go ?_; conv => whnf)
  refine cmpB (fun hb1 => ?_) (fun hb1 => ?_)
  rotate_left
  · have : a = n := by omega
    subst this
    conv => whnf
    repeat (refine SeqP.go ?_; conv => whnf)
    exact ⟨(w, P), ⟨rfl, rfl, trivial⟩, ⟨hU, hb, hg⟩, rfl⟩
  conv => whnf
  refine SeqP.cut (α := Value × List (Int × Int) × Hp) (fun s => [(9, int a), (8, s.1), (6, slc h.next 0 n n), (0, int n)]) (fun s H' => s.2.2 = H' ∧ UpE n par (a + 1) (a + 2) s.2.1 ∧ BuiltC H1 s.2.2 81 2 s.1 s.2.1.length ((flat s.2.1).map int) ∧ Grows H1 s.2.2) ?_ ?_
  rotate_left
  · rintro ⟨w', P', H'⟩ φ5 _ ⟨rfl, hU', hb', hg'⟩
    dsimp only at hU' hb' hg' ⊢
    conv => whnf
    refine ⟨((a + 1 : Nat) : Int), wie (by omega) (by omega), ?_⟩
    conv => whnf
    exact Rnd.mk (a + 1, w', P', _) ⟨by show a + 1 ≤ n; omega, hU', hb', hg'⟩ (by show n - (a + 1) < n - a; omega) ⟨rfl, rfl, rfl, rfl, trivial⟩ (Hp.Le.refl _) rfl
  conv => whnf
  repeat (refine SeqP.go ?_; conv => whnf)
  refine ⟨((a + 1 : Nat) : Int), wie (by omega) (by omega), ?_⟩
  conv => whnf
  refine loop_inv (α := Nat × Value × List (Int × Int) × Hp) (fun s => [(10, int s.1), (9, int a), (8, s.2.1), (6, slc h.next 0 n n), (0, int n)]) (fun s => s.2.2.2) (fun s => a < s.1 ∧ s.1 ≤ n ∧ UpE n par a s.1 s.2.2.1 ∧ BuiltC H1 s.2.2.2 81 2 s.2.1 s.2.2.1.length ((flat s.2.2.1).map int) ∧ Grows H1 s.2.2.2) (fun s => n - s.1) (a + 1, w, P, H) ⟨by show a < a + 1; omega, by show a + 1 ≤ n; omega, hU, hb, hg⟩ ⟨rfl, rfl, rfl, rfl, rfl, trivial⟩ (Hp.Le.refl _) ?_
  clear hU hb hg
  rintro ⟨b, w, P, H⟩ φ6 ⟨hab, hbn, hU, hb, hg⟩
  dsimp only at hab hbn hU hb hg ⊢
  conv => whnf
  repeat (refine SeqP.go ?_; conv => whnf)
  refine cmpB (fun hb2 => ?_) (fun hb2 => ?_)
  rotate_left
  · have : b = n := by omega
    subst this
    conv => whnf
    repeat (refine SeqP.go ?_; conv => whnf)
    exact ⟨(w, P, H), ⟨rfl, rfl, rfl, rfl, trivial⟩, ⟨rfl, hU.turn hpar, hb, hg⟩, rfl⟩
  have hbl : b < n := by omega
  conv => whnf
  refine SeqP.cut (α := Value × List (Int × Int) × Hp) (fun s => [(10, int b), (9, int a), (8, s.1), (6, slc h.next 0 n n), (0, int n)]) (fun s H' => s.2.2 = H' ∧ UpE n par a (b + 1) s.2.1 ∧ BuiltC H1 s.2.2 81 2 s.1 s.2.1.length ((flat s.2.1).map int) ∧ Grows H1 s.2.2) ?_ ?_
  rotate_left
  · rintro ⟨w', P', H'⟩ φ7 _ ⟨rfl, hU', hb', hg'⟩
    dsimp only at hU' hb' hg' ⊢
    conv => whnf
    refine ⟨((b + 1 : Nat) : Int), wie (by omega) (by omega), ?_⟩
    conv => whnf
    exact Rnd.mk (b + 1, w', P', _) ⟨by show a < b + 1; omega, by show b + 1 ≤ n; omega, hU', hb', hg'⟩ (by show n - (b + 1) < n - b; omega) ⟨rfl, rfl, rfl, rfl, rfl, trivial⟩ (Hp.Le.refl _) rfl
  conv => whnf
  repeat (refine SeqP.go ?_; conv => whnf)
  refine ⟨rfl, ⟨by omega, by omega⟩, ?_⟩
  conv => whnf
  refine ⟨int (par b : Nat), cellAt_row (hg.at_ _ _ hrow) (by rw [offAt_eq, Nat.zero_add, Nat.mul_one, Int.toNat_natCast, rowF_get hbl]), ?_⟩
  conv => whnf
  refine cmpB (fun c1 => ?_) (fun c1 => ?_)
  rotate_left
  · conv => whnf
    repeat (refine SeqP.go ?_; conv => whnf)
    exact ⟨(w, P, H), ⟨rfl, rfl, rfl, rfl, rfl, trivial⟩, ⟨rfl, hU.skip (by omega), hb, hg⟩, rfl⟩
  have hPl := hU.len
  have hU2 := hU.add (by omega) hab hbl
  conv => whnf
  repeat (refine SeqP.go ?_; conv => whnf)
  refine AppP.cells (h0 := H1) (hb.ext (Grows.lay _ _)) (hg.then_lay _) (lit _ _ _) (by omega) (by omega) ?_
  intro w' H' hb' hg' _
  conv => whnf
  repeat (refine SeqP.go ?_; conv => whnf)
  refine ⟨(w', P ++ [((a : Int), (b : Int))], H'), ⟨rfl, rfl, rfl, rfl, rfl, trivial⟩, ⟨rfl, hU2, ?_, hg'⟩, rfl⟩
  rw [flat_app, List.map_append, List.length_append]
  exact hb'
end
end Go.Proofs.Yticmdpcahpimhaa
