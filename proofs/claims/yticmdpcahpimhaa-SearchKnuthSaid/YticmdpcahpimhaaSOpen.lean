/- Contracts of the functions that SKnuthM comes to. -/
import Derived.Test.YticmdpcahpimhaaSErr
set_option maxRecDepth 100000
set_option maxHeartbeats 1000000
set_option linter.unusedVariables false
set_option linter.unusedSectionVars false
set_option linter.unusedSimpArgs false
namespace Go.Rx
theorem Built.keep_ty {h0 h1 h h' : Hp} {e e' : TypeId} {s n : Nat} {v w : Value} {l : List Int} {cs : List Value} (k : Built h0 h e v l) (kw : BuiltC h1 h e' s w n cs) (hne : e ≠ e') (keep : ∀ r o, h.at r = some o → (∀ n c, w ≠ slc r 0 n c) → h'.at r = some o) : Built h0 h' e v l := by
  rcases k with ⟨rfl, rfl⟩ | ⟨r, rfl, h2, x, hr⟩
  · exact .inl ⟨rfl, rfl⟩
  · refine .inr ⟨r, rfl, h2, x, keep _ _ hr fun n' c ew => ?_⟩
    obtain ⟨_, ⟨rfl, _⟩ | ⟨r', rfl, _, x', hr'⟩⟩ := kw
    · cases ew
    · unfold slc at ew
      cases ew
      rw [hr] at hr'
      cases hr'
      exact hne rfl
theorem Built.keep_new {h0 hp h h' : Hp} {e : TypeId} {v w : Value} {l : List Int} (k : Built h0 hp e v l) (g : Grows hp h) (hw : ∀ r n c, w = slc r 0 n c → hp.next ≤ r) (keep : ∀ r o, h.at r = some o → (∀ n c, w ≠ slc r 0 n c) → h'.at r = some o) : Built h0 h' e v l := by
  rcases k with ⟨rfl, rfl⟩ | ⟨r, rfl, h2, x, hr⟩
  · exact .inl ⟨rfl, rfl⟩
  · refine .inr ⟨r, rfl, h2, x, keep _ _ (g.at_ _ _ hr) fun n' c ew => ?_⟩
    have := hw _ _ _ ew
    have := Hp.lt_of_at hr
    omega
theorem BuiltC.keep_new {h0 hp h h' : Hp} {e : TypeId} {s n : Nat} {v w : Value} {cs : List Value} (k : BuiltC h0 hp e s v n cs) (g : Grows hp h) (hw : ∀ r n c, w = slc r 0 n c → hp.next ≤ r) (keep : ∀ r o, h.at r = some o → (∀ n c, w ≠ slc r 0 n c) → h'.at r = some o) : BuiltC h0 h' e s v n cs := by
  obtain ⟨hl, ⟨rfl, rfl⟩ | ⟨r, rfl, h2, x, hr⟩⟩ := k
  · exact ⟨hl, .inl ⟨rfl, rfl⟩⟩
  · refine ⟨hl, .inr ⟨r, rfl, h2, x, keep _ _ (g.at_ _ _ hr) fun n' c ew => ?_⟩⟩
    have := hw _ _ _ ew
    have := Hp.lt_of_at hr
    omega
theorem slc_new {h : Hp} {a b : Nat} : ∀ r n c, slc h.next 0 a b = slc r 0 n c → h.next ≤ r := by
  intro r n c e
  unfold slc at e
  cases e
  exact Nat.le_refl _
/-- Slices of integers in a row. -/
def RowsB (h0 h : Hp) (vs : List Value) (L : List (List Int)) : Prop := vs.length = L.length ∧ ∀ k, (hk : k < L.length) → ∃ v, vs[k]? = some v ∧ Built h0 h 3 v L[k]
theorem RowsB.ext {h0 h h' : Hp} {vs : List Value} {L : List (List Int)} (g : Grows h h') (k : RowsB h0 h vs L) : RowsB h0 h' vs L :=
  ⟨k.1, fun j hj => let ⟨v, e, b⟩ := k.2 j hj; ⟨v, e, b.ext g⟩⟩
theorem RowsB.map {h0 h0' h h' : Hp} {vs : List Value} {L : List (List Int)} (f : ∀ v l, Built h0 h 3 v l → Built h0' h' 3 v l) (k : RowsB h0 h vs L) : RowsB h0' h' vs L :=
  ⟨k.1, fun j hj => let ⟨v, e, b⟩ := k.2 j hj; ⟨v, e, f _ _ b⟩⟩
theorem RowsB.nil {h0 h : Hp} : RowsB h0 h [] [] := ⟨rfl, fun k hk => by simp at hk⟩
theorem RowsB.snoc {h0 h : Hp} {vs : List Value} {L : List (List Int)} {v : Value} {l : List Int} (k : RowsB h0 h vs L) (b : Built h0 h 3 v l) : RowsB h0 h (vs ++ [v]) (L ++ [l]) := by
  refine ⟨by simp [k.1], fun j hj => ?_⟩
  by_cases e : j < L.length
  · obtain ⟨w, e1, e2⟩ := k.2 j e
    refine ⟨w, by rw [List.getElem?_append_left (by rw [k.1]; exact e)]; exact e1, ?_⟩
    rw [List.getElem_append_left e]; exact e2
  · have : j = L.length := by simp at hj; omega
    subst this
    refine ⟨v, by rw [← k.1]; simp, ?_⟩
    simpa using b
theorem Built.oneCell {h0 h : Hp} {e : TypeId} {v : Value} {l : List Int} (k : Built h0 h e v l) : Rx.oneCell v = true := by
  rcases k with ⟨rfl, rfl⟩ | ⟨r, rfl, _⟩ <;> rfl
theorem RowsB.ones {h0 h : Hp} {vs : List Value} {L : List (List Int)} (k : RowsB h0 h vs L) : vs.all oneCell = true := by
  rw [List.all_eq_true]
  intro v hv
  obtain ⟨j, hj, rfl⟩ := List.getElem_of_mem hv
  obtain ⟨w, e, b⟩ := k.2 j (by rw [← k.1]; exact hj)
  rw [List.getElem?_eq_getElem hj] at e
  cases e
  exact b.oneCell
theorem BuiltC.known {h0 h : Hp} {e : TypeId} {s n : Nat} {v : Value} {cs : List Value} (k : BuiltC h0 h e s v n cs) : ∃ a, v = .slice a n n ∧ ∀ j, j < n → ∃ r, a = some ⟨r, 0, none⟩ ∧ ∃ x, h.at r = some (.row e x cs) := by
  obtain ⟨hl, ⟨rfl, rfl⟩ | ⟨r, rfl, _, x, hr⟩⟩ := k
  · exact ⟨none, rfl, fun j hj => by omega⟩
  · exact ⟨_, rfl, fun j hj => ⟨r, rfl, x, hr⟩⟩
end Go.Rx
namespace Go.Proofs.Yticmdpcahpimhaa
open Go.Rx Go.RowKit
attribute [local irreducible] E idxN cellAt cellsAt storeAt callable helems hmoved lookIn findKey keyOk hentries Hp.at Hp.set Hp.lay arBits hupdated setAt CallP YieldP BoolOf IsWrap Rnd LoopP AppP CutP Int.tmod Int.tdiv Int.fdiv
theorem ans_fuel : ∀ (k k' a b : Nat) (q : List Int) (i : Nat), Pl a b q → b - a ≤ k → b - a ≤ k' → ans k a q i = ans k' a q i := by
  intro k
  induction k with
  | zero =>
    intro k' a b q i hp h1 h2
    have hle := hp.le
    have hl := hp.length
    have : q = [] := List.eq_nil_of_length_eq_zero (by omega)
    subst this
    rw [ans_nil, ans_nil]
  | succ k ih =>
    intro k' a b q i hp h1 h2
    cases hp with
    | nil => rw [ans_nil, ans_nil]
    | @node _ _ g q1 q2 l1 l2 p1 p2 =>
      obtain ⟨k', rfl⟩ : ∃ j, k' = j + 1 := ⟨k' - 1, by omega⟩
      rw [ans_node p1 p2, ans_node p1 p2, ih k' a g q1 i p1 (by omega) (by omega), ih k' (g + 1) b q2 i p2 (by omega) (by omega)]
/-- The gates that are opened for each piece. -/
def ansAll (a b : Nat) (q : List Int) : List (List Int) := (List.range (b - a + 1)).map fun i => ans 13 a q (a + i)
theorem ansAll_length (a b : Nat) (q : List Int) : (ansAll a b q).length = b - a + 1 := by simp [ansAll]
theorem ansAll_node {a b g : Nat} {q1 q2 : List Int} (hb : b ≤ 13) (l1 : a ≤ g) (l2 : g < b) (p1 : Pl a g q1) (p2 : Pl (g + 1) b q2) : ansAll a b ([(g : Int)] ++ q1 ++ q2) = (ansAll a g q1 ++ ansAll (g + 1) b q2).map fun l => (g : Int) :: l := by
  apply List.ext_getElem
  · simp [ansAll]; omega
  intro i h1 h2
  simp only [ansAll_length] at h1
  simp only [ansAll, List.getElem_map, List.getElem_range, List.getElem_append, List.length_map, List.length_range]
  rw [ans_node (k := 12) p1 p2]
  by_cases hi : i < g - a + 1
  · rw [if_pos (by omega), dif_pos hi, ans_fuel 12 13 a g q1 _ p1 (by omega) (by omega)]
  · rw [if_neg (by omega), dif_neg hi, ans_fuel 12 13 (g + 1) b q2 _ p2 (by omega) (by omega)]
    congr 2
    omega
theorem ansAll_len {a b c : Nat} {q : List Int} (hc : c ≤ 13) (hb : b ≤ c) (p : Pl a b q) : ∀ l ∈ ansAll a b q, l.length ≤ 13 := by
  intro l hl
  have hle := p.le
  obtain ⟨i, hi, rfl⟩ := List.mem_map.1 hl
  rw [List.mem_range] at hi
  have := (ans_ok 13 a b q (a + i) p (by omega) (by omega) (by omega)).len
  omega
theorem Pl_node_inv {a b : Nat} {q : List Int} (hab : a < b) (h : Pl a b q) : ∃ (g : Nat) (q1 q2 : List Int), q = (g : Int) :: (q1 ++ q2) ∧ a ≤ g ∧ g < b ∧ Pl a g q1 ∧ Pl (g + 1) b q2 := by
  cases h with
  | nil => omega
  | @node _ _ g q1 q2 h1 h2 l1 l2 => exact ⟨g, q1, q2, by simp, h1, h2, l1, l2⟩
def OpenRes (h h' : Hp) (q : List Int) (at' a b : Nat) (r : Value) : Prop :=
  (∃ q1 q2 v vs, q.drop at' = q1 ++ q2 ∧ Pl a b q1 ∧ r = .tuple ⟨[v, int (at' + q1.length : Nat), .bool true]⟩ ∧ BuiltC h h' 22 1 v (b - a + 1) vs ∧ RowsB h h' vs (ansAll a b q1)) ∨
  ((∀ q1 q2, q.drop at' = q1 ++ q2 → ¬ Pl a b q1) ∧ r = .tuple ⟨[.slice none 0 0, int at', .bool false]⟩)
section
variable [Unknowns]
attribute [local irreducible] SeqP
theorem opened_any (q : List Int) (v : Value) (hq : q.length < 1000000) : ∀ (n at' a b : Nat), b - a ≤ n → a ≤ b → b ≤ 13 → at' ≤ q.length → ∀ h, Ints h v q → CallP E 59 [v, int at', int a, int b] h (fun r h' => OpenRes h h' q at' a b r ∧ Grows h h') := by
  have base : ∀ (at' a : Nat) h, Ints h v q → CallP E 59 [v, int at', int a, int a] h (fun r h' => OpenRes h h' q at' a a r ∧ Grows h h') := by
    intro at' a h hv
    refine enter59 (by simp) ?_
    conv => whnf
    repeat (refine SeqP.go ?_; conv => whnf)
    refine cmpT rfl ?_
    conv => whnf
    repeat (refine SeqP.go ?_; conv => whnf)
    refine ⟨.inl ⟨[], q.drop at', _, [.slice none 0 0], rfl, .nil a, rfl, ⟨by simp, .inr ⟨h.next, ?_, Nat.le_refl _, true, Hp.at_lay_self _ _⟩⟩, ?_⟩, Grows.lay _ _⟩
    · show slc _ _ _ _ = slc _ _ _ _
      simp
    · refine ⟨by simp [ansAll], fun k hk => ⟨.slice none 0 0, ?_, .inl ⟨rfl, ?_⟩⟩⟩
      · simp [ansAll] at hk; subst hk; rfl
      · simp [ansAll, ans_nil]
  intro n
  induction n with
  | zero =>
    intro at' a b hn hab hb hat h hv
    have : a = b := by omega
    subst this
    exact base at' a h hv
  | succ n ih =>
    intro at' a b hn hab hb hat h hv
    by_cases hlt : a = b
    · subst hlt
      exact base at' a h hv
    have hab2 : a < b := by omega
    obtain ⟨av, cap, rfl, hc⟩ := id hv
    have none_of : ∀ {h' : Hp}, Grows h h' → (∀ q1 q2, q.drop at' = q1 ++ q2 → ¬ Pl a b q1) → OpenRes h h' q at' a b (.tuple ⟨[.slice none 0 0, int at', .bool false]⟩) ∧ Grows h h' := fun g hn => ⟨.inr ⟨hn, rfl⟩, g⟩
    refine enter59 (by simp) ?_
    conv => whnf
    repeat (refine SeqP.go ?_; conv => whnf)
    refine cmpF (by omega) ?_
    conv => whnf
    repeat (refine SeqP.go ?_; conv => whnf)
    by_cases hend : q.length ≤ at'
    · refine cmpT (by omega) ?_
      conv => whnf
      repeat (refine SeqP.go ?_; conv => whnf)
      refine none_of (.refl _) fun q1 q2 e hp => ?_
      have := hp.length
      rw [List.drop_of_length_le hend] at e
      have : q1 = [] := (List.append_eq_nil_iff.1 e.symm).1
      subst this
      rw [List.length_nil] at this
      omega
    have hat' : at' < q.length := by omega
    have hdrop := List.drop_eq_getElem_cons hat'
    obtain ⟨r, o, sp, rfl, hsp, hcell⟩ := hc at' hat'
    have head : ∀ q1 q2, q.drop at' = q1 ++ q2 → Pl a b q1 → ∃ (g : Nat) (qa qb : List Int), q[at'] = g ∧ q.drop (at' + 1) = qa ++ (qb ++ q2) ∧ a ≤ g ∧ g < b ∧ Pl a g qa ∧ Pl (g + 1) b qb := by
      intro q1 q2 e hp
      obtain ⟨g, qa, qb, rfl, h1, h2, pa, pb⟩ := Pl_node_inv hab2 hp
      rw [hdrop] at e
      simp only [List.cons_append, List.append_assoc] at e
      injection e with e1 e2
      exact ⟨g, qa, qb, e1, e2, h1, h2, pa, pb⟩
    refine cmpF (by omega) ?_
    conv => whnf
    repeat (refine SeqP.go ?_; conv => whnf)
    refine ⟨hsp, ⟨by omega, by omega⟩, ?_⟩
    conv => whnf
    refine ⟨_, hcell, ?_⟩
    conv => whnf
    by_cases hxa : q[at'] < (a : Int)
    · refine cmpT hxa ?_
      conv => whnf
      repeat (refine SeqP.go ?_; conv => whnf)
      refine none_of (.refl _) fun q1 q2 e hp => ?_
      obtain ⟨g, qa, qb, e1, -, h1, h2, -⟩ := head q1 q2 e hp
      omega
    refine cmpF hxa ?_
    conv => whnf
    refine ⟨hsp, ⟨by omega, by omega⟩, ?_⟩
    conv => whnf
    refine ⟨_, hcell, ?_⟩
    conv => whnf
    by_cases hxb : (b : Int) ≤ q[at']
    · refine cmpT hxb ?_
      conv => whnf
      repeat (refine SeqP.go ?_; conv => whnf)
      refine none_of (.refl _) fun q1 q2 e hp => ?_
      obtain ⟨g, qa, qb, e1, -, h1, h2, -⟩ := head q1 q2 e hp
      omega
    refine cmpF hxb ?_
    have hexg : ∃ g : Nat, q[at'] = g := ⟨q[at'].toNat, by omega⟩
    obtain ⟨g, hg⟩ := hexg
    have l1 : a ≤ g := by omega
    have l2 : g < b := by omega
    rw [hg] at hcell
    conv => whnf
    repeat (refine SeqP.go ?_; conv => whnf)
    refine ⟨hsp, ⟨by omega, by omega⟩, ?_⟩
    conv => whnf
    refine ⟨_, hcell, ?_⟩
    conv => whnf
    repeat (refine SeqP.go ?_; conv => whnf)
    refine ⟨((at' + 1 : Nat) : Int), wie (by omega) (by omega), ?_⟩
    conv => whnf
    refine CallP.mono (ih (at' + 1) a g (by omega) l1 (by omega) (by omega) h hv) ?_
    rintro v1 h1 ⟨hres, hg1⟩
    rcases hres with ⟨qa, qr, vl, vsl, ea, pa, rfl, bl, rl⟩ | ⟨hno, rfl⟩
    rotate_left
    · conv => whnf
      repeat (refine SeqP.go ?_; conv => whnf)
      refine none_of hg1 fun q1 q2 e hp => ?_
      obtain ⟨g', qa, qb, e1, e2, _, _, pa, pb⟩ := head q1 q2 e hp
      obtain rfl : g = g' := by omega
      exact hno qa _ e2 pa
    have hla := pa.length
    have hlen : (q.drop (at' + 1)).length = qa.length + qr.length := by rw [ea]; simp
    rw [List.length_drop] at hlen
    conv => whnf
    repeat (refine SeqP.go ?_; conv => whnf)
    refine ⟨((g + 1 : Nat) : Int), wie (by omega) (by omega), ?_⟩
    conv => whnf
    refine CallP.mono (ih (at' + 1 + qa.length) (g + 1) b (by omega) (by omega) hb (by omega) h1 (hv.ext hg1)) ?_
    rintro v2 h2 ⟨hres, hg2⟩
    have hg02 := hg1.trans hg2
    have edr : q.drop (at' + 1 + qa.length) = qr := by rw [← List.drop_drop, ea, List.drop_left]
    rcases hres with ⟨qb, qr2, vr, vsr, eb, pb, rfl, br, rr⟩ | ⟨hno, rfl⟩
    rotate_left
    · conv => whnf
      repeat (refine SeqP.go ?_; conv => whnf)
      refine none_of hg02 fun q1 q2 e hp => ?_
      obtain ⟨g', qa', qb, e1, e2, _, _, pa', pb⟩ := head q1 q2 e hp
      obtain rfl : g = g' := by omega
      have hl' := pa'.length
      rw [ea] at e2
      have : qa = qa' := (List.append_inj e2 (by omega)).1
      subst this
      have e3 := List.append_cancel_left e2
      exact hno qb q2 (by rw [edr, e3]) pb
    have bl2 := bl.ext hg2
    have rl2 := rl.ext hg2
    rw [edr] at eb
    have etot : q.drop at' = ([(g : Int)] ++ qa ++ qb) ++ qr2 := by
      rw [hdrop, hg, ea, eb]; simp
    have hnode := ansAll_node hb l1 l2 pa pb
    have hpl : Pl a b ([(g : Int)] ++ qa ++ qb) := .node l1 l2 pa pb
    have hbk1 := bl2.known
    have hbk2 := br.known
    obtain ⟨al, rfl, hal⟩ := hbk1
    obtain ⟨ar, rfl, har⟩ := hbk2
    have hrl1 := rl2.1
    have hrr1 := rr.1
    have hrl1 : vsl.length = g - a + 1 := hrl1.trans (ansAll_length _ _ _)
    have hrr1 : vsr.length = b - (g + 1) + 1 := hrr1.trans (ansAll_length _ _ _)
    have hexL : ∃ LL, ansAll a g qa ++ ansAll (g + 1) b qb = LL := ⟨_, rfl⟩
    obtain ⟨LL, hLL⟩ := hexL
    rw [hLL] at hnode
    have hlenL : ∀ i, (hi : i < LL.length) → LL[i].length ≤ 13 := by
      subst hLL
      intro i hi
      have hm := List.getElem_mem hi
      rcases List.mem_append.1 hm with hm | hm
      · exact ansAll_len hb (by omega) pa _ hm
      · exact ansAll_len hb (by omega) pb _ hm
    have hLLn : LL.length = b - a + 1 := by rw [← hLL]; simp [ansAll_length]; omega
    conv => whnf
    refine SeqP.go ?_
    conv => whnf
    refine SeqP.go ?_
    conv => whnf
    refine SeqP.go ?_
    conv => whnf
    refine SeqP.cut (α := Hp × Value × List Value) (fun x => [(18, x.2.1), (16, int (at' + 1 + qa.length + qb.length : Nat))]) (fun x h' => h' = x.1 ∧ Grows h2 x.1 ∧ BuiltC h2 x.1 22 1 x.2.1 (b - a + 1) x.2.2 ∧ RowsB h2 x.1 x.2.2 (LL.map fun l => (g : Int) :: l)) ?_ ?_
    rotate_left
    · rintro ⟨h9, vo, vs⟩ φ h' ⟨rfl, hg9, hb9, hr9⟩
      dsimp only at hg9 hb9 hr9 ⊢
      have hbk := hb9.known
      obtain ⟨ao, rfl, -⟩ := hbk
      conv => whnf
      repeat (refine SeqP.go ?_; conv => whnf)
      refine ⟨.inl ⟨_, qr2, _, vs, etot, hpl, ?_, hb9.back hg02.next, ?_⟩, hg02.trans hg9⟩
      · have e : at' + ([(g : Int)] ++ qa ++ qb).length = at' + 1 + qa.length + qb.length := by simp; omega
        rw [e]
        rfl
      · rw [hnode]
        exact hr9.map fun v l b => b.back hg02.next
    conv => whnf
    repeat (refine SeqP.go ?_; conv => whnf)
    refine loop_inv (α := Nat × Hp × Value × List Value) (fun x => [(19, int x.1), (18, x.2.2.1), (11, int g), (12, .slice al (g - a + 1) (g - a + 1)), (15, .slice ar (b - (g + 1) + 1) (b - (g + 1) + 1)), (16, int (at' + 1 + qa.length + qb.length : Nat))]) (fun x => x.2.1) (fun x => x.1 ≤ b - a + 1 ∧ Grows h2 x.2.1 ∧ BuiltC h2 x.2.1 22 1 x.2.2.1 x.1 x.2.2.2 ∧ RowsB h2 x.2.1 x.2.2.2 ((LL.take x.1).map fun l => (g : Int) :: l)) (fun x => b - a + 1 - x.1) (0, h2, .slice none 0 0, []) ⟨by simp, .refl _, BuiltC.nil, RowsB.nil⟩ ⟨rfl, rfl, rfl, rfl, rfl, rfl, trivial⟩ (Hp.Le.refl _) ?_
    rintro ⟨i, h3, vo, vs⟩ φ ⟨hi, hg3, hb3, hr3⟩
    dsimp only at hi hg3 hb3 hr3 ⊢
    conv => whnf
    repeat (refine SeqP.go ?_; conv => whnf)
    refine ⟨((b - a + 1 : Nat) : Int), wie (by omega) (by omega), ?_⟩
    conv => whnf
    repeat (refine SeqP.go ?_; conv => whnf)
    refine cmpB (fun hb1 => ?_) (fun hb1 => ?_)
    rotate_left
    · have : i = b - a + 1 := by omega
      subst this
      rw [List.take_of_length_le (by omega)] at hr3
      conv => whnf
      exact ⟨(h3, vo, vs), ⟨rfl, rfl, trivial⟩, ⟨rfl, hg3, hb3, hr3⟩, rfl⟩
    have hiL : i < LL.length := by omega
    conv => whnf
    refine SeqP.go ?_
    conv => whnf
    refine SeqP.go ?_
    conv => whnf
    refine SeqP.cut (α := Hp × Value) (fun x => [(20, x.2), (19, int i), (18, vo), (11, int g), (12, .slice al (g - a + 1) (g - a + 1)), (15, .slice ar (b - (g + 1) + 1) (b - (g + 1) + 1)), (16, int (at' + 1 + qa.length + qb.length : Nat))]) (fun x h' => h' = x.1 ∧ Grows h2 x.1 ∧ Built h2 x.1 3 x.2 ([(g : Int)] ++ LL[i]) ∧ ∀ r o, (h3.lay (.row 3 true [int g])).at r = some o → (∀ n c, slc h3.next 0 1 1 ≠ slc r 0 n c) → x.1.at r = some o) ?_ ?_
    · conv => whnf
      repeat (refine SeqP.go ?_; conv => whnf)
      by_cases hil : i < g - a + 1
      · refine cmpT (by omega) ?_
        have hx := hal i hil
        obtain ⟨r1, e1, x1, hr1⟩ := hx
        subst e1
        have hx := rl2.2 i (by rw [ansAll_length]; exact hil)
        obtain ⟨w, ew, bw⟩ := hx
        have hLi : LL[i] = (ansAll a g qa)[i]'(by rw [ansAll_length]; exact hil) := by
          subst hLL
          rw [List.getElem_append_left]
        rw [← hLi] at bw
        have hcl := (hg3.then_lay (.row 3 true [int g])).cell (cellAt_row hr1 ew)
        have hal' := ansAll_length a g qa
        conv => whnf
        refine ⟨rfl, ⟨by omega, by omega⟩, ?_⟩
        conv => whnf
        refine ⟨w, hcl, ?_⟩
        conv => whnf
        have bw' := bw.ext (hg3.then_lay (.row 3 true [int g]))
        refine AppP.ints (h0 := h2) (Built.lay1 hg3.next) (hg3.then_lay _) bw'.elems (by have := hlenL i hiL; simp; omega) ?_
        intro rv h4 hrv hg4 keep4
        conv => whnf
        exact ⟨(h4, rv), ⟨rfl, rfl, rfl, rfl, rfl, rfl, rfl, trivial⟩, ⟨rfl, hg4, hrv, keep4⟩, rfl⟩
      · refine cmpF (by omega) ?_
        have hir : i - (g - a + 1) < b - (g + 1) + 1 := by omega
        have hx := har _ hir
        obtain ⟨r1, e1, x1, hr1⟩ := hx
        subst e1
        have hx := rr.2 (i - (g - a + 1)) (by rw [ansAll_length]; exact hir)
        obtain ⟨w, ew, bw⟩ := hx
        have hLi : LL[i] = (ansAll (g + 1) b qb)[i - (g - a + 1)]'(by rw [ansAll_length]; exact hir) := by
          subst hLL
          rw [List.getElem_append_right (by rw [ansAll_length]; omega)]
          simp only [ansAll_length]
        rw [← hLi] at bw
        have hcl := (hg3.then_lay (.row 3 true [int g])).cell (cellAt_row hr1 ew)
        conv => whnf
        refine ⟨((i - (g - a + 1) : Nat) : Int), wie (by omega) (by omega), ?_⟩
        conv => whnf
        refine ⟨rfl, ⟨by omega, by omega⟩, ?_⟩
        conv => whnf
        refine ⟨w, hcl, ?_⟩
        conv => whnf
        have bw' := bw.ext (hg3.then_lay (.row 3 true [int g]))
        refine AppP.ints (h0 := h2) (Built.lay1 hg3.next) (hg3.then_lay _) bw'.elems (by have := hlenL i hiL; simp; omega) ?_
        intro rv h4 hrv hg4 keep4
        conv => whnf
        exact ⟨(h4, rv), ⟨rfl, rfl, rfl, rfl, rfl, rfl, rfl, trivial⟩, ⟨rfl, hg4, hrv, keep4⟩, rfl⟩
    rintro ⟨hx4, rv⟩ φ4 h4 ⟨rfl, hg4, hrv, keep4⟩
    dsimp only at hg4 hrv keep4 ⊢
    have hb4 := (hb3.keep_new (Grows.lay _ _) slc_new keep4).ext (Grows.lay h4 (.row 22 true [rv]))
    have hr4 : RowsB h2 (h4.lay (.row 22 true [rv])) vs _ := hr3.map (fun v l b => (b.keep_new (Grows.lay _ _) slc_new keep4).ext (Grows.lay h4 (.row 22 true [rv])))
    have hrv4 := hrv.ext (Grows.lay h4 (.row 22 true [rv]))
    have hel : ElemsC (h4.lay (.row 22 true [rv])) 1 (slc h4.next 0 1 1) 1 [rv] := BuiltC.elems (h0 := h4) (e := 22) (by simp [hrv.oneCell]) ⟨by simp, .inr ⟨h4.next, rfl, Nat.le_refl _, true, Hp.at_lay_self _ _⟩⟩
    have hrv' := hrv
    rcases hrv' with ⟨_, e⟩ | ⟨rr1, rfl, _, _⟩
    · simp at e
    conv => whnf
    repeat (refine SeqP.go ?_; conv => whnf)
    refine AppP.cells hb4 (hg4.then_lay _) hel (by omega) (by omega) ?_
    intro vo' h5 hb5 hg5 keep5
    conv => whnf
    refine ⟨_, wid (by omega), ?_⟩
    conv => whnf
    refine Rnd.mk (i + 1, h5, vo', vs ++ [_]) ⟨by show i + 1 ≤ _; omega, hg5, hb5, ?_⟩ (by show _ - (i + 1) < _ - i; omega) ⟨rfl, rfl, rfl, rfl, rfl, rfl, trivial⟩ (Hp.Le.refl _) rfl
    show RowsB h2 h5 _ ((LL.take (i + 1)).map fun l => (g : Int) :: l)
    rw [List.take_succ_eq_append_getElem hiL, List.map_append]
    exact (hr4.map (fun v l b => b.keep_ty hb4 (by decide) keep5)).snoc (hrv4.keep_ty hb4 (by decide) keep5)
end
end Go.Proofs.Yticmdpcahpimhaa
