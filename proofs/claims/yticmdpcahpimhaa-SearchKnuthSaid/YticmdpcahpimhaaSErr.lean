/- Contracts of the functions that SKnuthM comes to. -/
import Derived.Test.YticmdpcahpimhaaSAny
set_option maxRecDepth 100000
set_option maxHeartbeats 1000000
set_option linter.unusedVariables false
set_option linter.unusedSectionVars false
set_option linter.unusedSimpArgs false
namespace Go.Proofs.Yticmdpcahpimhaa
open Go.Rx Go.RowKit
attribute [local irreducible] E idxN cellAt cellsAt storeAt callable helems hmoved lookIn findKey keyOk hentries Hp.at Hp.set Hp.lay arBits hupdated setAt CallP YieldP BoolOf IsWrap Rnd LoopP AppP CutP Int.tmod Int.tdiv Int.fdiv
def CostsOk (cs : List Int) : Prop := cs.length ≤ 12 ∧ ∀ x ∈ cs, 1 ≤ x ∧ x ≤ 1000
def WOk (cs u : List Int) : Prop := (∀ x ∈ u, 0 ≤ x ∧ x ≤ 1000) ∧ (∃ x ∈ u, 0 < x) ∧ u.length = cs.length + 1
/-- The error of a check: 80 without a pipe, 1 without what is asked, else 0. -/
def ErrOf (cs : List Int) (p : Prop) (e : Int) : Prop := (¬ CostsOk cs → e = 80) ∧ (CostsOk cs → ¬ p → e = 1) ∧ (CostsOk cs → p → e = 0)
theorem sum_nn : ∀ (l : List Int), (∀ x ∈ l, 0 ≤ x) → 0 ≤ l.sum
  | [], _ => by simp
  | x :: l, h => by
    have h1 := h x (by simp)
    have h2 := sum_nn l (fun y hy => h y (by simp [hy]))
    rw [List.sum_cons]; omega
theorem sum_pos {l : List Int} (h : ∀ x ∈ l, 0 ≤ x) : l.sum = 0 ↔ ¬ ∃ x ∈ l, 0 < x := by
  induction l with
  | nil => simp
  | cons x l ih =>
    have h1 := h x (by simp)
    have h2 := ih (fun y hy => h y (by simp [hy]))
    have h3 : 0 ≤ l.sum := sum_nn l (fun y hy => h y (by simp [hy]))
    rw [List.sum_cons]
    constructor
    · rintro e ⟨y, hy, hp⟩
      rcases List.mem_cons.1 hy with rfl | hy
      · omega
      · exact h2.1 (by omega) ⟨y, hy, hp⟩
    · intro hn
      have e1 : ¬ 0 < x := fun hp => hn ⟨x, by simp, hp⟩
      have e2 := h2.2 (fun ⟨y, hy, hp⟩ => hn ⟨y, by simp [hy], hp⟩)
      omega
section
variable [Unknowns]
theorem refcosts_any (v : Value) (l : List Int) (h : Hp) (hv : Ints h v l) (hl : l.length ≤ 1000000) : CallP E 17 [v] h (fun r h' => (∃ ok, r = .bool ok ∧ BoolOf ok (CostsOk l)) ∧ h' = h) := by
  obtain ⟨a, cap, rfl, hc⟩ := id hv
  refine enter17 (by simp) ?_
  conv => whnf
  refine loop_inv (α := Nat) (fun k => [(3, int k), (0, .slice a l.length cap)]) (fun _ => h) (fun k => k ≤ l.length ∧ ∀ j, (hj : j < k) → (hj2 : j < l.length) → 1 ≤ l[j] ∧ l[j] ≤ 1000) (fun k => l.length - k) 0 ⟨by omega, fun j hj => by omega⟩ ⟨rfl, rfl, trivial⟩ (Hp.Le.refl _) ?_
  rintro k φ ⟨hk, hin⟩
  conv => whnf
  refine cmpB (fun hb => ?_) (fun hb => ?_)
  rotate_left
  · have : k = l.length := by omega
    subst this
    have hall : ∀ x ∈ l, 1 ≤ x ∧ x ≤ 1000 := by
      intro x hx
      obtain ⟨j, hj, rfl⟩ := List.getElem_of_mem hx
      exact hin j hj hj
    conv => whnf
    refine cmpB (fun hb2 => ?_) (fun hb2 => ?_)
    · conv => whnf
      exact ⟨⟨true, rfl, BoolOf.yes ⟨by omega, hall⟩⟩, rfl⟩
    · conv => whnf
      exact ⟨⟨false, rfl, BoolOf.no (fun hp => by have := hp.1; omega)⟩, rfl⟩
  have hk' : k < l.length := by omega
  obtain ⟨r, o, sp, rfl, hsp, hcell⟩ := hc k hk'
  have hmem := List.getElem_mem hk'
  have hno : ¬ (1 ≤ l[k] ∧ l[k] ≤ 1000) → ¬ CostsOk l := fun h1 h2 => h1 (h2.2 _ hmem)
  conv => whnf
  refine ⟨hsp, ⟨by omega, by omega⟩, ?_⟩
  conv => whnf
  refine ⟨_, hcell, ?_⟩
  conv => whnf
  refine cmpB (fun hb2 => ?_) (fun hb2 => ?_)
  · conv => whnf
    exact ⟨⟨false, rfl, BoolOf.no (hno (by omega))⟩, rfl⟩
  conv => whnf
  refine ⟨hsp, ⟨by omega, by omega⟩, ?_⟩
  conv => whnf
  refine ⟨_, hcell, ?_⟩
  conv => whnf
  refine cmpB (fun hb3 => ?_) (fun hb3 => ?_)
  · conv => whnf
    exact ⟨⟨false, rfl, BoolOf.no (hno (by omega))⟩, rfl⟩
  conv => whnf
  refine ⟨_, wid (by omega), ?_⟩
  conv => whnf
  refine Rnd.mk (k + 1) ⟨by omega, fun j hj hj2 => ?_⟩ (by omega) ⟨rfl, rfl, trivial⟩ (Hp.Le.refl _) rfl
  by_cases e : j = k
  · subst e; omega
  · exact hin j (by omega) hj2
theorem refweights_any (w v : Value) (cs l : List Int) (h : Hp) (hw : Ints h w cs) (hv : Ints h v l) (hl : l.length ≤ 1000000) (hcl : cs.length ≤ 1000000) : CallP E 22 [w, v] h (fun r h' => (∃ ok, r = .bool ok ∧ BoolOf ok (WOk cs l)) ∧ h' = h) := by
  obtain ⟨a, cap, rfl, hc⟩ := id hv
  obtain ⟨ac, cc, rfl, hcc⟩ := id hw
  refine enter22 (by simp) ?_
  conv => whnf
  refine loop_inv (α := Nat × Bool) (fun k => [(6, int k.1), (5, .bool k.2), (0, .slice ac cs.length cc), (1, .slice a l.length cap)]) (fun _ => h) (fun k => k.1 ≤ l.length ∧ (∀ j, (hj : j < k.1) → (hj2 : j < l.length) → 0 ≤ l[j] ∧ l[j] ≤ 1000) ∧ BoolOf k.2 (∃ x ∈ l.take k.1, 0 < x)) (fun k => l.length - k.1) (0, false) ⟨by omega, fun j hj => by omega, BoolOf.no (by simp)⟩ ⟨rfl, rfl, rfl, rfl, trivial⟩ (Hp.Le.refl _) ?_
  rintro ⟨k, some⟩ φ ⟨hk, hin, hsome⟩
  dsimp only at hk hin hsome ⊢
  conv => whnf
  refine cmpB (fun hb => ?_) (fun hb => ?_)
  rotate_left
  · have : k = l.length := by omega
    subst this
    rw [List.take_length] at hsome
    have hall : ∀ x ∈ l, 0 ≤ x ∧ x ≤ 1000 := by
      intro x hx
      obtain ⟨j, hj, rfl⟩ := List.getElem_of_mem hx
      exact hin j hj hj
    cases some with
    | false =>
      conv => whnf
      exact ⟨⟨false, rfl, BoolOf.no (fun hp => hsome.f hp.2.1)⟩, rfl⟩
    | true =>
    conv => whnf
    refine ⟨_, wid (by omega), ?_⟩
    conv => whnf
    refine cmpB (fun hb2 => ?_) (fun hb2 => ?_)
    · conv => whnf
      exact ⟨⟨true, rfl, BoolOf.yes ⟨hall, hsome.t, by omega⟩⟩, rfl⟩
    · conv => whnf
      exact ⟨⟨false, rfl, BoolOf.no (fun hp => by have := hp.2.2; omega)⟩, rfl⟩
  have hk' : k < l.length := by omega
  obtain ⟨r, o, sp, rfl, hsp, hcell⟩ := hc k hk'
  have hmem := List.getElem_mem hk'
  have hno : ¬ (0 ≤ l[k] ∧ l[k] ≤ 1000) → ¬ WOk cs l := fun h1 h2 => h1 (h2.1 _ hmem)
  have htk := List.take_succ_eq_append_getElem hk'
  conv => whnf
  refine ⟨hsp, ⟨by omega, by omega⟩, ?_⟩
  conv => whnf
  refine ⟨_, hcell, ?_⟩
  conv => whnf
  refine cmpB (fun hb2 => ?_) (fun hb2 => ?_)
  · conv => whnf
    exact ⟨⟨false, rfl, BoolOf.no (hno (by omega))⟩, rfl⟩
  conv => whnf
  refine ⟨hsp, ⟨by omega, by omega⟩, ?_⟩
  conv => whnf
  refine ⟨_, hcell, ?_⟩
  conv => whnf
  refine cmpB (fun hb3 => ?_) (fun hb3 => ?_)
  · conv => whnf
    exact ⟨⟨false, rfl, BoolOf.no (hno (by omega))⟩, rfl⟩
  have hin' : ∀ j, (hj : j < k + 1) → (hj2 : j < l.length) → 0 ≤ l[j] ∧ l[j] ≤ 1000 := by
    intro j hj hj2
    by_cases e : j = k
    · subst e; omega
    · exact hin j (by omega) hj2
  cases some with
  | true =>
    conv => whnf
    refine ⟨_, wid (by omega), ?_⟩
    conv => whnf
    refine Rnd.mk (k + 1, true) ⟨by show k + 1 ≤ _; omega, hin', ?_⟩ (by show _ - (k + 1) < _ - k; omega) ⟨rfl, rfl, rfl, rfl, trivial⟩ (Hp.Le.refl _) rfl
    obtain ⟨x, hx, hp⟩ := hsome.t
    exact BoolOf.yes ⟨x, by show x ∈ l.take (k + 1); rw [htk]; exact List.mem_append_left _ hx, hp⟩
  | false =>
    conv => whnf
    refine ⟨hsp, ⟨by omega, by omega⟩, ?_⟩
    conv => whnf
    refine ⟨_, hcell, ?_⟩
    conv => whnf
    refine (show ∀ b, BoolOf b (0 < l[k]) → _ from fun b hbo => ?_)
    conv => whnf
    refine ⟨_, wid (by omega), ?_⟩
    conv => whnf
    refine Rnd.mk (k + 1, b) ⟨by show k + 1 ≤ _; omega, hin', ?_⟩ (by show _ - (k + 1) < _ - k; omega) ⟨rfl, rfl, rfl, rfl, trivial⟩ (Hp.Le.refl _) rfl
    refine hbo.congr ⟨fun hp => ⟨l[k], by show l[k] ∈ l.take (k + 1); rw [htk]; exact List.mem_append_right _ (List.mem_singleton.2 rfl), hp⟩, fun ⟨x, hx, hp⟩ => ?_⟩
    have hx : x ∈ l.take (k + 1) := hx
    rw [htk] at hx
    rcases List.mem_append.1 hx with hx | hx
    · exact absurd ⟨x, hx, hp⟩ hsome.f
    · obtain rfl : x = l[k] := by simpa using hx
      exact hp
theorem checkplan_any (cs q : List Int) (v w : Value) (h : Hp) (hv : Ints h v cs) (hw : View h w q) (hl : cs.length < 1000000) (hq : q.length < 1000000) : CallP E 62 [v, w] h (fun r h' => (∃ e, r = int e ∧ ErrOf cs (Pl 0 cs.length q) e) ∧ Grows h h') := by
  obtain ⟨a, cap, rfl, hcell⟩ := id hv
  refine enter62 (by simp) ?_
  conv => whnf
  refine CallP.mono (check_spec _ cs h hv (by omega)) ?_
  rintro v1 h1 ⟨rfl, e, rfl, ok, bad⟩
  by_cases hC : CostsOk cs
  · have he := ok hC
    subst he
    conv => whnf
    refine cmpF (by omega) ?_
    conv => whnf
    refine CallP.mono (isplan_any cs.length hC.1 q w _ hw hq) ?_
    rintro v2 h2 ⟨⟨b, rfl, hb⟩, hg⟩
    cases b with
    | true =>
      conv => whnf
      exact ⟨⟨0, rfl, fun h => absurd hC h, fun _ h => absurd hb.t h, fun _ _ => rfl⟩, hg⟩
    | false =>
      conv => whnf
      exact ⟨⟨1, rfl, fun h => absurd hC h, fun _ _ => rfl, fun _ h => absurd h hb.f⟩, hg⟩
  · have he := bad hC
    subst he
    conv => whnf
    refine cmpT (by omega) ?_
    conv => whnf
    exact ⟨⟨80, rfl, fun _ => rfl, fun h => absurd h hC, fun h => absurd h hC⟩, .refl _⟩
theorem checkweights_any (cs u : List Int) (v w : Value) (h : Hp) (hv : Ints h v cs) (hw : Ints h w u) (hl : cs.length < 1000000) (hq : u.length < 1000000) : CallP E 60 [v, w] h (fun r h' => (∃ e, r = int e ∧ ErrOf cs (WOk cs u) e) ∧ Grows h h') := by
  obtain ⟨a, cap, rfl, hcell⟩ := id hv
  obtain ⟨aw, cw, rfl, hcw⟩ := id hw
  refine enter60 (by simp) ?_
  conv => whnf
  refine CallP.mono (check_spec _ cs h hv (by omega)) ?_
  rintro v1 h1 ⟨rfl, e, rfl, ok, bad⟩
  by_cases hC : CostsOk cs
  rotate_left
  · have he := bad hC
    subst he
    conv => whnf
    refine cmpT (by omega) ?_
    conv => whnf
    exact ⟨⟨80, rfl, fun _ => rfl, fun h => absurd h hC, fun h => absurd h hC⟩, .refl _⟩
  have he := ok hC
  subst he
  have no : ∀ {h' : Hp}, ¬ WOk cs u → (∃ e, int 1 = int e ∧ ErrOf cs (WOk cs u) e) := fun hn => ⟨1, rfl, fun h => absurd hC h, fun _ _ => rfl, fun _ h => absurd h hn⟩
  conv => whnf
  refine cmpF (by omega) ?_
  conv => whnf
  refine ⟨_, wid (by omega), ?_⟩
  conv => whnf
  by_cases hlen : u.length = cs.length + 1
  rotate_left
  · refine cmpT (by omega) ?_
    conv => whnf
    exact ⟨no (h' := h1) (fun hp => hlen hp.2.2), .refl _⟩
  refine cmpF (by omega) ?_
  conv => whnf
  refine CallP.mono (within_spec 0 1000 _ u h1 hw (by omega)) ?_
  rintro v2 h2 ⟨rfl, rfl⟩
  by_cases hin : ∀ x ∈ u, 0 ≤ x ∧ x ≤ 1000
  rotate_left
  · rw [decide_eq_false hin]
    conv => whnf
    exact ⟨no (h' := h2) (fun hp => hin hp.1), .refl _⟩
  rw [decide_eq_true hin]
  conv => whnf
  refine CallP.mono (sum_spec _ u h2 hw (by omega) (fun x hx => by have := hin x hx; omega)) ?_
  rintro v3 h3 ⟨rfl, rfl⟩
  have hs := sum_pos (fun x hx => (hin x hx).1)
  conv => whnf
  by_cases hz : u.sum = 0
  · refine cmpT hz ?_
    conv => whnf
    exact ⟨no (h' := h3) (fun hp => hs.1 hz hp.2.1), .refl _⟩
  · refine cmpF hz ?_
    conv => whnf
    have hex : ∃ x ∈ u, 0 < x := Classical.byContradiction fun hn => hz (hs.2 hn)
    exact ⟨⟨0, rfl, fun h => absurd hC h, fun _ h => absurd ⟨hin, hex, hlen⟩ h, fun _ _ => rfl⟩, .refl _⟩
theorem IsPlan_any (cs q : List Int) (v w : Value) (h : Hp) (hv : Ints h v cs) (hw : View h w q) (hl : cs.length < 1000000) (hq : q.length < 1000000) : CallP E 19 [v, w] h (fun r h' => (∃ ok e, r = .tuple ⟨[.bool ok, int e]⟩ ∧ (¬ CostsOk cs → e = 80 ∧ ok = false) ∧ (CostsOk cs → e = 0 ∧ BoolOf ok (Pl 0 cs.length q))) ∧ Grows h h') := by
  obtain ⟨a, cap, rfl, hcell⟩ := id hv
  refine enter19 (by simp) ?_
  conv => whnf
  refine CallP.mono (check_spec _ cs h hv (by omega)) ?_
  rintro v1 h1 ⟨rfl, e, rfl, ok, bad⟩
  by_cases hC : CostsOk cs
  · have he := ok hC
    subst he
    conv => whnf
    refine cmpF (by omega) ?_
    conv => whnf
    refine CallP.mono (isplan_any cs.length hC.1 q w _ hw hq) ?_
    rintro v2 h2 ⟨⟨b, rfl, hb⟩, hg⟩
    conv => whnf
    exact ⟨⟨b, 0, rfl, fun h => absurd hC h, fun _ => ⟨rfl, hb⟩⟩, hg⟩
  · have he := bad hC
    subst he
    conv => whnf
    refine cmpT (by omega) ?_
    conv => whnf
    exact ⟨⟨false, 80, rfl, fun _ => ⟨rfl, rfl⟩, fun h => absurd h hC⟩, .refl _⟩
theorem Worst_err (cs : List Int) (v : Value) (h : Hp) (hv : Ints h v cs) (hl : cs.length < 1000000) (hC : ¬ CostsOk cs) : CallP E 20 [v] h (fun r h' => r = .tuple ⟨[int 0, .slice none 0 0, int 80]⟩ ∧ Grows h h') := by
  obtain ⟨a, cap, rfl, hcell⟩ := id hv
  refine enter20 (by simp) ?_
  conv => whnf
  refine CallP.mono (check_spec _ cs h hv (by omega)) ?_
  rintro v1 h1 ⟨rfl, e, rfl, ok, bad⟩
  have he := bad hC
  subst he
  conv => whnf
  refine cmpT (by omega) ?_
  conv => whnf
  exact ⟨rfl, .refl _⟩
theorem Weighed_err (cs u : List Int) (v w : Value) (h : Hp) (hv : Ints h v cs) (hw : Ints h w u) (hl : cs.length < 1000000) (hq : u.length < 1000000) (hb : ¬ (CostsOk cs ∧ WOk cs u)) : CallP E 23 [v, w] h (fun r h' => (∃ e, r = .tuple ⟨[int 0, .slice none 0 0, int e]⟩ ∧ ErrOf cs (WOk cs u) e) ∧ Grows h h') := by
  refine enter23 (by simp) ?_
  conv => whnf
  refine CallP.mono (checkweights_any cs u v w h hv hw hl hq) ?_
  rintro v1 h1 ⟨⟨e, rfl, he⟩, hg⟩
  have hne : e ≠ 0 := by
    by_cases hC : CostsOk cs
    · by_cases hW : WOk cs u
      · exact absurd ⟨hC, hW⟩ hb
      · have := he.2.1 hC hW; omega
    · have := he.1 hC; omega
  conv => whnf
  refine cmpT hne ?_
  conv => whnf
  exact ⟨⟨e, rfl, he⟩, hg⟩
theorem PriceOf_err (cs u q : List Int) (v w x : Value) (h : Hp) (hv : Ints h v cs) (hw : Ints h w u) (hx : View h x q) (hl : cs.length < 1000000) (hu : u.length < 1000000) (hq : q.length < 1000000) (hb : ¬ (CostsOk cs ∧ WOk cs u ∧ Pl 0 cs.length q)) : CallP E 24 [v, w, x] h (fun r h' => (∃ e, r = .tuple ⟨[int 0, int e]⟩ ∧ ErrOf cs (WOk cs u ∧ Pl 0 cs.length q) e) ∧ Grows h h') := by
  refine enter24 (by simp) ?_
  conv => whnf
  refine CallP.mono (checkweights_any cs u v w h hv hw hl hu) ?_
  rintro v1 h1 ⟨⟨e, rfl, he⟩, hg⟩
  conv => whnf
  by_cases hne : e = 0
  rotate_left
  · refine cmpT hne ?_
    conv => whnf
    refine ⟨⟨e, rfl, fun h => he.1 h, fun hC hn => ?_, fun hC hp => absurd (he.2.2 hC hp.1) hne⟩, hg⟩
    by_cases hW : WOk cs u
    · exact absurd (he.2.2 hC hW) hne
    · exact he.2.1 hC hW
  subst hne
  have hC : CostsOk cs := Classical.byContradiction fun hn => by have := he.1 hn; omega
  have hW : WOk cs u := Classical.byContradiction fun hn => by have := he.2.1 hC hn; omega
  refine cmpF (by omega) ?_
  conv => whnf
  refine CallP.mono (checkplan_any cs q v x h1 (hv.ext hg) (hx.ext hg) hl hq) ?_
  rintro v2 h2 ⟨⟨e, rfl, he⟩, hg2⟩
  have hP : ¬ Pl 0 cs.length q := fun hp => hb ⟨hC, hW, hp⟩
  have := he.2.1 hC hP
  subst this
  conv => whnf
  refine cmpT (by omega) ?_
  conv => whnf
  exact ⟨⟨1, rfl, fun h => absurd hC h, fun _ _ => rfl, fun _ h => absurd h.2 hP⟩, hg.trans hg2⟩
theorem Prices_err (cs q : List Int) (v w : Value) (h : Hp) (hv : Ints h v cs) (hw : View h w q) (hl : cs.length < 1000000) (hq : q.length < 1000000) (hb : ¬ (CostsOk cs ∧ Pl 0 cs.length q)) : CallP E 25 [v, w] h (fun r h' => (∃ e, r = .tuple ⟨[.slice none 0 0, int e]⟩ ∧ ErrOf cs (Pl 0 cs.length q) e) ∧ Grows h h') := by
  refine enter25 (by simp) ?_
  conv => whnf
  refine CallP.mono (checkplan_any cs q v w h hv hw hl hq) ?_
  rintro v1 h1 ⟨⟨e, rfl, he⟩, hg⟩
  have hne : e ≠ 0 := by
    by_cases hC : CostsOk cs
    · by_cases hW : Pl 0 cs.length q
      · exact absurd ⟨hC, hW⟩ hb
      · have := he.2.1 hC hW; omega
    · have := he.1 hC; omega
  conv => whnf
  refine cmpT hne ?_
  conv => whnf
  exact ⟨⟨e, rfl, he⟩, hg⟩
theorem Answer_err (cs q : List Int) (v w : Value) (i : Int) (h : Hp) (hv : Ints h v cs) (hw : View h w q) (hl : cs.length < 1000000) (hq : q.length < 1000000) (hb : ¬ (CostsOk cs ∧ Pl 0 cs.length q ∧ 0 ≤ i ∧ i ≤ cs.length)) : CallP E 26 [v, w, int i] h (fun r h' => (∃ e, r = .tuple ⟨[.slice none 0 0, int e]⟩ ∧ ErrOf cs (Pl 0 cs.length q ∧ 0 ≤ i ∧ i ≤ cs.length) e) ∧ Grows h h') := by
  obtain ⟨a, cap, rfl, hcell⟩ := id hv
  refine enter26 (by simp) ?_
  conv => whnf
  refine CallP.mono (checkplan_any cs q _ w h hv hw hl hq) ?_
  rintro v1 h1 ⟨⟨e, rfl, he⟩, hg⟩
  conv => whnf
  by_cases hne : e = 0
  rotate_left
  · refine cmpT hne ?_
    conv => whnf
    refine ⟨⟨e, rfl, fun h => he.1 h, fun hC hn => ?_, fun hC hp => absurd (he.2.2 hC hp.1) hne⟩, hg⟩
    by_cases hW : Pl 0 cs.length q
    · exact absurd (he.2.2 hC hW) hne
    · exact he.2.1 hC hW
  subst hne
  have hC : CostsOk cs := Classical.byContradiction fun hn => by have := he.1 hn; omega
  have hP : Pl 0 cs.length q := Classical.byContradiction fun hn => by have := he.2.1 hC hn; omega
  have hi : ¬ (0 ≤ i ∧ i ≤ cs.length) := fun hi => hb ⟨hC, hP, hi⟩
  refine cmpF (by omega) ?_
  conv => whnf
  by_cases h0 : i < 0
  · refine cmpT h0 ?_
    conv => whnf
    exact ⟨⟨1, rfl, fun h => absurd hC h, fun _ _ => rfl, fun _ h => absurd h.2 hi⟩, hg⟩
  · refine cmpF h0 ?_
    conv => whnf
    refine cmpT (by omega) ?_
    conv => whnf
    exact ⟨⟨1, rfl, fun h => absurd hC h, fun _ _ => rfl, fun _ h => absurd h.2 hi⟩, hg⟩
end
end Go.Proofs.Yticmdpcahpimhaa
