/- Contracts of the functions that PKE comes to. -/
import Derived.Test.YtpiplaicnbapbaaPKD
set_option maxRecDepth 100000
set_option maxHeartbeats 2000000
set_option linter.unusedVariables false
set_option linter.unusedSectionVars false
set_option linter.unusedSimpArgs false
namespace Go.Proofs.Ytpiplaicnbapbaa
open Go.Rx Go.RowKit
def oR (r x : Nat) : Nat := if x = r then 1 else 0
theorem oR_le (r x : Nat) : oR r x ≤ 1 := by unfold oR; split <;> omega
def leOne (m r a b : Nat) : Q4 := ⟨a, b, ((a + b) % m : Nat), (m + oR r ((a + b) % m) : Nat)⟩
def leTail (m r a : Nat) : Q4 := ⟨a, (m + 1 - oR r a : Nat), a, (m + oR r a : Nat)⟩
def leRow (m r a j : Nat) : List Q4 := (List.range j).map fun i => leOne m r a (a + i)
def leUp (m r a : Nat) : List Q4 := (List.range a).flatMap fun a => leRow m r a (m - a) ++ [leTail m r a]
theorem leRow_succ (m r a j : Nat) : leRow m r a (j + 1) = leRow m r a j ++ [leOne m r a (a + j)] := by
  unfold leRow; rw [List.range_succ, List.map_append]; rfl
theorem leUp_succ (m r a : Nat) : leUp m r (a + 1) = leUp m r a ++ (leRow m r a (m - a) ++ [leTail m r a]) := by
  unfold leUp; rw [List.range_succ, List.flatMap_append]; simp
theorem leRow_len (m r a j : Nat) : (leRow m r a j).length = j := by unfold leRow; rw [List.length_map, List.length_range]
theorem leUp_len (m r : Nat) : ∀ a, (leUp m r a).length ≤ a * (m + 1)
  | 0 => by simp [leUp]
  | a + 1 => by
    rw [leUp_succ, List.length_append, List.length_append, leRow_len, List.length_singleton, Nat.add_mul]
    have := leUp_len m r a
    omega
def leOut (m r : Nat) : List Int := ((List.replicate (m + 2) 0).set r 1).set (m + 1) 1
theorem leOut_len (m r : Nat) : (leOut m r).length = m + 2 := by unfold leOut; rw [List.length_set, List.length_set, List.length_replicate]
theorem leOut_at {m r x : Nat} (hr : r < m) (hx : x < m) : (leOut m r)[x]'(by rw [leOut_len]; omega) = ((oR r x : Nat) : Int) := by
  unfold leOut oR
  rw [List.getElem_set, if_neg (by omega), List.getElem_set]
  by_cases e : r = x
  · rw [if_pos e, if_pos e.symm]; rfl
  · rw [if_neg e, if_neg (fun h => e h.symm), List.getElem_replicate]; rfl
theorem tmod3 {m a : Nat} (hm : 1 ≤ m) : (a : Int).tmod m = ((a % m : Nat) : Int) := by
  rw [Int.tmod_eq_emod_of_nonneg (by omega)]
  rfl
theorem sameL_all {l : List Value} (h : ∀ x ∈ l, sameV 3 x x = true) : sameL l l = true := by
  unfold sameL
  rw [Bool.and_eq_true]
  refine ⟨by rw [Nat.beq_eq], ?_⟩
  rw [List.all_eq_true]
  intro p hp
  obtain ⟨i, hi, rfl⟩ := List.getElem_of_mem hp
  rw [List.getElem_zip]
  exact h _ (List.getElem_mem _)
theorem sameL_rep (z : Int) (n : Nat) : sameL (times [int z] n) (times [int z] n) = true := by
  rw [rep_row]
  refine sameL_all fun x hx => ?_
  obtain ⟨y, -, rfl⟩ := List.mem_map.1 hx
  show eqI y y = true
  unfold eqI
  cases y <;> exact Nat.beq_refl _
theorem sameL_one (z : Int) : sameL [int z] [int z] = true := by
  have := sameL_rep z 1
  exact this
def leP (m r : Nat) : Prot := ⟨(m + 2 : Nat), leOut m r, [(1 % m : Nat)], leUp m r m⟩
attribute [local irreducible] E idxN cellAt cellsAt storeAt callable helems hmoved lookIn findKey keyOk hentries Hp.at Hp.set Hp.lay arBits hupdated setAt CallP YieldP BoolOf IsWrap Rnd LoopP AppP CutP Int.tmod Int.tdiv Int.fdiv
section
variable [Unknowns]
attribute [local irreducible] ResP sameAt finP
theorem leaves_spec (m r : Nat) (hm : 1 ≤ m ∧ m ≤ 3) (hr : r < m) (h : Hp) : CallP E 88 [int m, int r] h (fun v h' => PV h' v (leP m r) ∧ Grows h h') := by
  have nilE : nilS = .slice none 0 0 := rfl
  refine enter88 (by simp) ?_
  conv => whnf
  refine SeqP.cut (α := Unit) (fun _ => [(4, ptr h.next 0), (0, int m), (1, int r)]) (fun _ H => h.lay (.row 25 true [int 0, nilS, nilS, nilS]) = H) ?_ ?_
  · conv => whnf
    exact ⟨(), ⟨rfl, rfl, rfl, trivial⟩, rfl, rfl⟩
  rintro _ φ1 _ rfl
  have hexb : ∃ hb, h.lay (.row 25 true [int 0, nilS, nilS, nilS]) = hb := ⟨_, rfl⟩
  obtain ⟨hb, ehb⟩ := hexb
  have g0 : Grows h hb := ehb ▸ Grows.lay _ _
  have a0 : hb.at h.next = some (.row 25 true [int 0, nilS, nilS, nilS]) := ehb ▸ Hp.at_lay_self _ _
  rw [ehb]
  have hn0 : hb.next = h.next + 1 := by rw [← ehb, Hp.next_lay]
  clear ehb
  have e1m : (1 : Int).tmod m = ((1 % m : Nat) : Int) := tmod3 (a := 1) hm.1
  conv => whnf
  refine SeqP.cut (α := Nat × Value × Value × Hp) (fun s => [(5, ptr s.1 0), (4, ptr h.next 0), (0, int m), (1, int r)]) (fun s H => s.2.2.2 = H ∧ RZ hb s.2.2.2 25 s.1 s.2.1 s.2.2.1 (.slice none 0 0) (List.replicate (m + 2) 0) [(1 % m : Nat)] [] [int (m + 2 : Nat), s.2.1, s.2.2.1, .slice none 0 0]) ?_ ?_
  · conv => whnf
    refine ⟨((m + 2 : Nat) : Int), wie (by omega) (by omega), ?_⟩
    conv => whnf
    refine ⟨((m + 2 : Nat) : Int), wie (by omega) (by omega), ?_⟩
    conv => whnf
    refine ⟨⟨by omega, by omega, by omega, by omega⟩, ?_⟩
    conv => whnf
    refine ⟨by omega, ?_⟩
    conv => whnf
    refine ⟨rfl, _, storeAt_all (vs := [int (m + 2 : Nat), slc hb.next 0 (m + 2) (m + 2), slc _ 0 1 1, .slice none 0 0]) rfl rfl rfl, ?_⟩
    conv => whnf
    refine ⟨⟨by omega, by omega, by omega, by omega⟩, ?_⟩
    conv => whnf
    refine ⟨((m + 2 : Nat) : Int), wie (by omega) (by omega), ?_⟩
    conv => whnf
    refine ⟨((m + 2 : Nat) : Int), wie (by omega) (by omega), ?_⟩
    conv => whnf
    refine ⟨⟨by omega, by omega, by omega, by omega⟩, ?_⟩
    conv => whnf
    refine ⟨by omega, ?_⟩
    conv => whnf
    refine ⟨rfl, _, storeAt_all (vs := [int (m + 2 : Nat), slc hb.next 0 (m + 2) (m + 2), slc _ 0 1 1, .slice none 0 0]) rfl rfl rfl, ?_⟩
    conv => whnf
    refine ⟨?_, ?_⟩
    · repeat' (first | exact True.intro | (refine And.intro ?_ ?_ <;> (conv => whnf)))
      all_goals first
        | exact sameV_slice _ _ _
        | exact sameV_ptr3 _ _
        | exact sameL_rep _ _
        | exact rfl
        | exact Hp.at_lay_old _ (Hp.at_lay_old _ (Hp.at_lay_self _ _))
        | exact Hp.at_lay_old _ (Hp.at_lay_self _ _)
        | exact Hp.at_lay_self _ _
        | exact sameL_one _
    conv => whnf
    have hz := RZ.make (hb := hb) (tz := 25) (O := List.replicate (m + 2) 0) (S := [((1 % m : Nat) : Int)]) (cS := [int ((1 : Int).tmod m)]) (rep_row 0 (m + 2)) (by rw [e1m]; rfl) [int (m + 2 : Nat), slc hb.next 0 (m + 2) (m + 2), slc (hb.lay (.row 3 true (times [int 0] (m + 2)))).next 0 1 1, .slice none 0 0]
    rw [List.length_replicate] at hz
    exact ⟨(((hb.lay (.row 3 true (times [int 0] (m + 2)))).lay (.row 3 true [int ((1 : Int).tmod m)])).next, slc hb.next 0 (m + 2) (m + 2), slc (hb.lay (.row 3 true (times [int 0] (m + 2)))).next 0 1 1, _), ⟨rfl, rfl, rfl, rfl, trivial⟩, ⟨rfl, hz⟩, rfl⟩
  rintro ⟨Z, ov, sv, H1⟩ φ2 _ ⟨rfl, hz⟩
  dsimp only at hz ⊢
  have hws := hz.s.slice
  obtain ⟨asx, rfl, -⟩ := hws
  conv => whnf
  refine SeqP.cut (α := Value × Hp) (fun s => [(5, ptr Z 0), (4, ptr h.next 0), (0, int m)]) (fun s H => s.2 = H ∧ RZ hb s.2 25 Z s.1 (.slice asx [((1 % m : Nat) : Int)].length [((1 % m : Nat) : Int)].length) (.slice none 0 0) (leOut m r) [((1 % m : Nat) : Int)] [] [int (m + 2 : Nat), s.1, .slice asx [((1 % m : Nat) : Int)].length [((1 % m : Nat) : Int)].length, .slice none 0 0]) ?_ ?_
  · have hst := hz.o_set (i := r) (by rw [List.length_replicate]; omega) 1
    obtain ⟨r', x', eo, st, hz'⟩ := hst
    have hst2 := hz'.o_set (i := m + 1) (by rw [List.length_set, List.length_replicate]; omega) 1
    obtain ⟨r2, x2, eo2, st2, hz2⟩ := hst2
    subst eo
    have er : r' = r2 := by simpa [slc] using eo2
    subst er
    have wq : IsWrap .i64 ((m : Int) + 1) ((m + 1 : Nat) : Int) := wie (by omega) (by omega)
    unfold IsWrap at wq
    conv => whnf
    refine ⟨_, cellAt_row hz.z rfl, ?_⟩
    conv => whnf
    refine ⟨_, cellAt_row hz.z rfl, ?_⟩
    conv => whnf
    refine ⟨((m + 1 : Nat) : Int), wie (by omega) (by omega), ?_⟩
    conv => whnf
    refine ⟨rfl, ⟨by omega, by rw [List.length_replicate]; omega⟩, ?_⟩
    conv => whnf
    refine ⟨rfl, _, st, ?_⟩
    conv => whnf
    refine ⟨rfl, ⟨by omega, by rw [List.length_replicate]; omega⟩, ?_⟩
    conv => whnf
    refine ⟨rfl, _, st2, ?_⟩
    conv => whnf
    refine ⟨?_, ?_⟩
    · repeat' (first | exact True.intro | (refine And.intro ?_ ?_ <;> (conv => whnf)))
      all_goals first
        | exact sameAt_val (h2 := _) rfl (sameV_ptr3 _ _)
        | exact sameAt_val (h2 := _) (congrArg (hval _) (cellAt_row hz.z rfl)) (sameV_slice _ _ _)
        | exact sameAt_val (h2 := _) (congrArg (hval _) (cellAt_row hz'.z rfl)) (sameV_slice _ _ _)
        | exact sameAt_val (h2 := _) rfl (sameV_int _)
        | exact sameAt_val (h2 := _) (congrArg (fun x => HRes.val (.int .i64 x) _) wq.symm) (sameV_int _)
        | trace_state
    conv => whnf
    exact ⟨(slc r' 0 (List.replicate (m + 2) (0 : Int)).length (List.replicate (m + 2) (0 : Int)).length, _), ⟨rfl, rfl, rfl, trivial⟩, ⟨rfl, hz2⟩, rfl⟩
  clear hz
  rintro ⟨ov, H2⟩ φ3 _ ⟨rfl, hz⟩
  dsimp only at hz ⊢
  have hws := hz.o.slice
  obtain ⟨ao, rfl, -⟩ := hws
  have hoL := leOut_len m r
  conv => whnf
  refine SeqP.cut (α := Value × Hp) (fun s => [(5, ptr Z 0), (4, ptr h.next 0)]) (fun s H => s.2 = H ∧ RZ hb s.2 25 Z (.slice ao (leOut m r).length (leOut m r).length) (.slice asx [((1 % m : Nat) : Int)].length [((1 % m : Nat) : Int)].length) s.1 (leOut m r) [((1 % m : Nat) : Int)] (leUp m r m) [int (m + 2 : Nat), .slice ao (leOut m r).length (leOut m r).length, .slice asx [((1 % m : Nat) : Int)].length [((1 % m : Nat) : Int)].length, s.1]) ?_ ?_
  · conv => whnf
    repeat (refine SeqP.go ?_; conv => whnf)
    refine loop_inv (α := Nat × Value × Hp) (fun s => [(30, int s.1), (29, int m), (5, ptr Z 0), (4, ptr h.next 0), (0, int m)]) (fun s => s.2.2) (fun s => s.1 ≤ m ∧ RZ hb s.2.2 25 Z (.slice ao (leOut m r).length (leOut m r).length) (.slice asx [((1 % m : Nat) : Int)].length [((1 % m : Nat) : Int)].length) s.2.1 (leOut m r) [((1 % m : Nat) : Int)] (leUp m r s.1) [int (m + 2 : Nat), .slice ao (leOut m r).length (leOut m r).length, .slice asx [((1 % m : Nat) : Int)].length [((1 % m : Nat) : Int)].length, s.2.1]) (fun s => m - s.1) (0, .slice none 0 0, H2) ⟨Nat.zero_le _, hz⟩ ⟨rfl, rfl, rfl, rfl, rfl, trivial⟩ (Hp.Le.refl _) ?_
    clear hz
    rintro ⟨a, rv, H⟩ φ4 ⟨ha, hz⟩
    dsimp only at ha hz ⊢
    conv => whnf
    repeat (refine SeqP.go ?_; conv => whnf)
    refine cmpB (fun c1 => ?_) (fun c1 => ?_)
    rotate_left
    · have : a = m := by omega
      subst this
      conv => whnf
      repeat (refine SeqP.go ?_; conv => whnf)
      exact ⟨(_, H), ⟨rfl, rfl, trivial⟩, ⟨rfl, hz⟩, rfl⟩
    have han : a < m := by omega
    conv => whnf
    refine SeqP.go ?_
    conv => whnf
    refine SeqP.cut (α := Value × Hp) (fun s => [(30, int a), (29, int m), (5, ptr Z 0), (4, ptr h.next 0), (0, int m)]) (fun s H' => s.2 = H' ∧ RZ hb s.2 25 Z (.slice ao (leOut m r).length (leOut m r).length) (.slice asx [((1 % m : Nat) : Int)].length [((1 % m : Nat) : Int)].length) s.1 (leOut m r) [((1 % m : Nat) : Int)] (leUp m r (a + 1)) [int (m + 2 : Nat), .slice ao (leOut m r).length (leOut m r).length, .slice asx [((1 % m : Nat) : Int)].length [((1 % m : Nat) : Int)].length, s.1]) ?_ ?_
    rotate_left
    · rintro ⟨w', H'⟩ φ7 _ ⟨rfl, h1⟩
      dsimp only at h1 ⊢
      conv => whnf
      refine ⟨((a + 1 : Nat) : Int), wie (by omega) (by omega), ?_⟩
      conv => whnf
      exact Rnd.mk (a + 1, w', H') ⟨by show a + 1 ≤ m; omega, h1⟩ (by show m - (a + 1) < m - a; omega) ⟨rfl, rfl, rfl, rfl, rfl, trivial⟩ (Hp.Le.refl _) rfl
    have h15 : (leUp m r a).length ≤ 100 := by
      have h1 := leUp_len m r a
      have h3 : a * (m + 1) ≤ 4 * 4 := Nat.mul_le_mul (by omega) (by omega)
      omega
    conv => whnf
    refine SeqP.go ?_
    conv => whnf
    refine SeqP.cut (α := Value × Hp) (fun s => [(6, int a), (30, int a), (29, int m), (5, ptr Z 0), (4, ptr h.next 0), (0, int m)]) (fun s H' => s.2 = H' ∧ RZ hb s.2 25 Z (.slice ao (leOut m r).length (leOut m r).length) (.slice asx [((1 % m : Nat) : Int)].length [((1 % m : Nat) : Int)].length) s.1 (leOut m r) [((1 % m : Nat) : Int)] (leUp m r a ++ leRow m r a (m - a)) [int (m + 2 : Nat), .slice ao (leOut m r).length (leOut m r).length, .slice asx [((1 % m : Nat) : Int)].length [((1 % m : Nat) : Int)].length, s.1]) ?_ ?_
    · conv => whnf
      repeat (refine SeqP.go ?_; conv => whnf)
      refine loop_inv (α := Nat × Value × Hp) (fun s => [(7, int (a + s.1 : Nat)), (6, int a), (30, int a), (29, int m), (5, ptr Z 0), (4, ptr h.next 0), (0, int m)]) (fun s => s.2.2) (fun s => a + s.1 ≤ m ∧ RZ hb s.2.2 25 Z (.slice ao (leOut m r).length (leOut m r).length) (.slice asx [((1 % m : Nat) : Int)].length [((1 % m : Nat) : Int)].length) s.2.1 (leOut m r) [((1 % m : Nat) : Int)] (leUp m r a ++ leRow m r a s.1) [int (m + 2 : Nat), .slice ao (leOut m r).length (leOut m r).length, .slice asx [((1 % m : Nat) : Int)].length [((1 % m : Nat) : Int)].length, s.2.1]) (fun s => m - s.1) (0, rv, H) ⟨by show a + 0 ≤ m; omega, by show RZ _ _ _ _ _ _ _ _ _ (leUp m r a ++ []) _; rw [List.append_nil]; exact hz⟩ ⟨rfl, rfl, rfl, rfl, rfl, rfl, rfl, trivial⟩ (Hp.Le.refl _) ?_
      clear hz
      rintro ⟨j, rv, H⟩ φ5 ⟨hj, hz⟩
      dsimp only at hj hz ⊢
      have hwk := hz.r.slice
      obtain ⟨aw, rfl, -⟩ := hwk
      conv => whnf
      repeat (refine SeqP.go ?_; conv => whnf)
      refine cmpB (fun c2 => ?_) (fun c2 => ?_)
      rotate_left
      · have ej : j = m - a := by omega
        subst ej
        conv => whnf
        repeat (refine SeqP.go ?_; conv => whnf)
        exact ⟨(_, H), ⟨rfl, rfl, rfl, rfl, rfl, rfl, trivial⟩, ⟨rfl, hz⟩, rfl⟩
      have hjn : a + j < m := by omega
      have hQl : (leUp m r a ++ leRow m r a j).length ≤ 1000 := by
        rw [List.length_append, leRow_len]
        omega
      conv => whnf
      refine SeqP.cut (α := Value × Hp) (fun s => [(7, int (a + j : Nat)), (6, int a), (30, int a), (29, int m), (5, ptr Z 0), (4, ptr h.next 0), (0, int m)]) (fun s H' => s.2 = H' ∧ RZ hb s.2 25 Z (.slice ao (leOut m r).length (leOut m r).length) (.slice asx [((1 % m : Nat) : Int)].length [((1 % m : Nat) : Int)].length) s.1 (leOut m r) [((1 % m : Nat) : Int)] (leUp m r a ++ leRow m r a (j + 1)) [int (m + 2 : Nat), .slice ao (leOut m r).length (leOut m r).length, .slice asx [((1 % m : Nat) : Int)].length [((1 % m : Nat) : Int)].length, s.1]) ?_ ?_
      rotate_left
      · rintro ⟨w', H'⟩ φ7 _ ⟨rfl, h1⟩
        dsimp only at h1 ⊢
        conv => whnf
        refine ⟨((a + (j + 1) : Nat) : Int), wie (by omega) (by omega), ?_⟩
        conv => whnf
        exact Rnd.mk (j + 1, w', H') ⟨by show a + (j + 1) ≤ m; omega, h1⟩ (by show m - (j + 1) < m - j; omega) ⟨rfl, rfl, rfl, rfl, rfl, rfl, rfl, trivial⟩ (Hp.Le.refl _) rfl
      have hlm : (a + (a + j)) % m < m := Nat.mod_lt _ (by omega)
      have hol := oR_le r ((a + (a + j)) % m)
      have hexl : ∃ l, (a + (a + j)) % m = l := ⟨_, rfl⟩
      obtain ⟨l, el⟩ := hexl
      have e1 : leOne m r a (a + j) = ⟨a, (a + j : Nat), l, (m + oR r l : Nat)⟩ := by unfold leOne; rw [el]
      have etm : (((a + (a + j) : Nat) : Int)).tmod m = (l : Int) := by rw [tmod3 hm.1, el]
      rw [el] at hlm hol
      have hot : (leOut m r)[l]'(by rw [leOut_len]; omega) = ((oR r l : Nat) : Int) := leOut_at hr hlm
      have hc := (LV.of hz.o.b).ints
      obtain ⟨ao', co', ew, hcc⟩ := hc
      cases ew
      have hc := hcc l (by omega)
      obtain ⟨rr, oo, sp, ea, hsp, hci⟩ := hc
      rw [hot] at hci
      clear hcc
      subst ea
      conv => whnf
      refine SeqP.cut (α := Unit) (fun s => [(8, int l), (7, int (a + j : Nat)), (6, int a), (30, int a), (29, int m), (5, ptr Z 0), (4, ptr h.next 0), (0, int m)]) (fun s H' => H = H') ?_ ?_
      · conv => whnf
        repeat (refine SeqP.go ?_; conv => whnf)
        refine ⟨((a + (a + j) : Nat) : Int), wie (by omega) (by omega), ?_⟩
        conv => whnf
        refine ⟨by omega, ?_⟩
        conv => whnf
        exact ⟨(), ⟨congrArg int etm, rfl, rfl, rfl, rfl, rfl, rfl, rfl, trivial⟩, rfl, rfl⟩
      rintro _ φ6 _ rfl
      conv => whnf
      refine ⟨_, cellAt_row hz.z rfl, ?_⟩
      conv => whnf
      refine ⟨_, cellAt_row hz.z rfl, ?_⟩
      conv => whnf
      refine ⟨hsp, ⟨by omega, by omega⟩, ?_⟩
      conv => whnf
      refine ⟨int (oR r l : Nat), by rw [offAt_eq, Nat.add_comm]; simpa using hci, ?_⟩
      conv => whnf
      refine ⟨((m + oR r l : Nat) : Int), wie (by omega) (by omega), ?_⟩
      conv => whnf
      refine hz.r_app (z := ⟨a, (a + j : Nat), l, (m + oR r l : Nat)⟩) (by omega) ?_
      rintro rv' H' ⟨a', m', rfl⟩ hz'
      conv => whnf
      refine ⟨rfl, _, storeAt_row hz'.z (by simp) rfl, ?_⟩
      conv => whnf
      refine ⟨?_, ?_⟩
      · repeat' (first | exact True.intro | (refine And.intro ?_ ?_ <;> (conv => whnf)))
        all_goals first
          | exact sameAt_val (h2 := _) rfl (sameV_ptr3 _ _)
          | exact sameAt_val (h2 := _) (congrArg (hval _) (cellAt_row hz.z rfl)) (sameV_slice _ _ _)
          | exact sameAt_val (h2 := _) (congrArg (hval _) (cellAt_row (Hp.at_lay_old _ hz.z) rfl)) (sameV_slice _ _ _)
          | exact sameAt_val (h2 := _) (congrArg (hval _) (cellAt_row hz'.z rfl)) (sameV_slice _ _ _)
          | exact sameAt_val (h2 := _) rfl (sameV_slice _ _ _)
          | exact sameAt_val (h2 := _) rfl (sameV_int _)
          | trace_state
      rw [List.append_assoc, ← e1, ← leRow_succ] at hz'
      conv => whnf
      exact ⟨(_, _), ⟨rfl, rfl, rfl, rfl, rfl, rfl, rfl, trivial⟩, ⟨rfl, hz'.put _⟩, rfl⟩
    clear hz
    rintro ⟨rv, H3⟩ φ5 _ ⟨rfl, hz⟩
    dsimp only at hz ⊢
    have hwk := hz.r.slice
    obtain ⟨aw, rfl, -⟩ := hwk
    have hQl : (leUp m r a ++ leRow m r a (m - a)).length ≤ 1000 := by
      rw [List.length_append, leRow_len]
      omega
    have hol := oR_le r a
    have hot : (leOut m r)[a]'(by rw [leOut_len]; omega) = ((oR r a : Nat) : Int) := leOut_at hr han
    have hc := (LV.of hz.o.b).ints
    obtain ⟨ao', co', ew, hcc⟩ := hc
    cases ew
    have hc := hcc a (by omega)
    obtain ⟨rr, oo, sp, ea, hsp, hci⟩ := hc
    rw [hot] at hci
    clear hcc
    subst ea
    conv => whnf
    refine SeqP.cut (α := Unit) (fun s => [(9, int (m + 1 - oR r a : Nat)), (10, int (m + oR r a : Nat)), (6, int a), (30, int a), (29, int m), (5, ptr Z 0), (4, ptr h.next 0), (0, int m)]) (fun s H' => H3 = H') ?_ ?_
    · conv => whnf
      refine ⟨((m + 1 : Nat) : Int), wie (by omega) (by omega), ?_⟩
      conv => whnf
      refine ⟨_, cellAt_row hz.z rfl, ?_⟩
      conv => whnf
      refine ⟨hsp, ⟨by omega, by omega⟩, ?_⟩
      conv => whnf
      refine ⟨int (oR r a : Nat), by rw [offAt_eq, Nat.add_comm]; simpa using hci, ?_⟩
      conv => whnf
      refine ⟨((m + 1 - oR r a : Nat) : Int), wie (by omega) (by omega), ?_⟩
      conv => whnf
      refine ⟨_, cellAt_row hz.z rfl, ?_⟩
      conv => whnf
      refine ⟨hsp, ⟨by omega, by omega⟩, ?_⟩
      conv => whnf
      refine ⟨int (oR r a : Nat), by rw [offAt_eq, Nat.add_comm]; simpa using hci, ?_⟩
      conv => whnf
      refine ⟨((m + oR r a : Nat) : Int), wie (by omega) (by omega), ?_⟩
      conv => whnf
      exact ⟨(), ⟨rfl, rfl, rfl, rfl, rfl, rfl, rfl, rfl, trivial⟩, rfl, rfl⟩
    rintro _ φ6 _ rfl
    conv => whnf
    refine ⟨_, cellAt_row hz.z rfl, ?_⟩
    conv => whnf
    refine hz.r_app (z := leTail m r a) (by omega) ?_
    rintro rv' H' ⟨a', m', rfl⟩ hz'
    rw [List.append_assoc, ← leUp_succ] at hz'
    conv => whnf
    refine ⟨rfl, _, storeAt_row hz'.z (by simp) rfl, ?_⟩
    conv => whnf
    exact ⟨(_, _), ⟨rfl, rfl, rfl, rfl, rfl, trivial⟩, ⟨rfl, hz'.put _⟩, rfl⟩
  clear hz
  rintro ⟨rv, H3⟩ φ4 _ ⟨rfl, hz⟩
  dsimp only at hz ⊢
  have hws := hz.r.slice
  obtain ⟨ar, rfl, -⟩ := hws
  have a3 := hz.gr.at_ _ _ a0
  have hzr := hz.z
  have hexc : ∃ cs : List Value, cs = [int (m + 2 : Nat), .slice ao (leOut m r).length (leOut m r).length, .slice asx [((1 % m : Nat) : Int)].length [((1 % m : Nat) : Int)].length, .slice ar (leUp m r m).length (leUp m r m).length] := ⟨_, rfl⟩
  obtain ⟨cs, ecs⟩ := hexc
  rw [← ecs] at hzr
  have h1c : cs.all oneCell = true := by rw [ecs]; rfl
  have h4c : cs.length = 4 := by rw [ecs]; rfl
  have g1 : Grows h (H3.set h.next (.row 25 true cs)) := (g0.trans hz.gr).then_set _ (Nat.le_refl _)
  have hpv : PV (H3.set h.next (.row 25 true cs)) (.agg ⟨cs⟩) (leP m r) := by
    have lo : ∀ {e s n : Nat} {v : Value} {cs' : List Value}, BuiltC hb H3 e s v n cs' → BuiltC hb (H3.set h.next (.row 25 true cs)) e s v n cs' := by
      rintro e s n v cs' ⟨h1, h2⟩
      refine ⟨h1, ?_⟩
      rcases h2 with h2 | ⟨r, e1, h2, x, h3⟩
      · exact .inl h2
      · exact .inr ⟨r, e1, h2, x, by rw [Hp.at_set_ne _ (by omega)]; exact h3⟩
    refine ⟨_, _, _, by rw [ecs]; rfl, LV.of (lo hz.o).b, LV.of (lo hz.s).b, (lo hz.r).back (Nat.zero_le _)⟩
  conv => whnf
  repeat (refine SeqP.go ?_; conv => whnf)
  refine ⟨_, all_cells hzr h4c, ?_⟩
  conv => whnf
  refine ⟨h4c, _, storeAt_full (vs := cs) a3 (by rw [ecs]; rfl) h1c (by rw [ecs]; rfl), ?_⟩
  conv => whnf
  repeat (refine SeqP.go ?_; conv => whnf)
  obtain ⟨i25, t25, ag25, sz25⟩ := ty25
  exact leave_cell rfl t25 ag25 (by rw [sz25]; exact all_cells (Hp.at_set_self _ (Hp.lt_of_at a3)) h4c) ⟨hpv, g1⟩
end
end Go.Proofs.Ytpiplaicnbapbaa
namespace Go.Proofs.Ytpiplaicnbapbaa
open Go.Rx Go.RowKit
instance : DecidableRel QLess := fun x y => by unfold QLess; infer_instance
theorem rok_of {n : Int} {R : List Q4} (h : ∀ x ∈ R, QIn n x ∧ x.a ≤ x.b) (s : R.Pairwise QLess) : ROk n R R.length := fun k hk _ => by
  have h1 := h _ (List.getElem_mem hk)
  exact ⟨h1.1, h1.2, fun h0 => List.pairwise_iff_getElem.1 s (k - 1) k (by omega) hk (by omega)⟩
theorem atOk1 : POk (atP 1) := ⟨by decide, by decide, by decide, by decide, by decide, by decide, by decide, by decide, rok_of (by decide) (by decide)⟩
theorem atS1 : ∀ k, Cnt k 1 → Solves (atP 1) 2 ⟨[1], 1, 0⟩ k := by
  intro k hk on hw
  obtain ⟨e, h1, h2⟩ := cnt1 hk
  have hx : gl k 0 = 1 ∨ gl k 0 = 2 ∨ gl k 0 = 3 ∨ gl k 0 = 4 ∨ gl k 0 = 5 ∨ gl k 0 = 6 ∨ gl k 0 = 7 ∨ gl k 0 = 8 ∨ gl k 0 = 9 := by omega
  have eR : (atP 1).rules = [⟨0, 1, 1, 1⟩, ⟨1, 1, 1, 1⟩] := rfl
  have eO : (atP 1).out = [0, 1] := rfl
  rw [eR, eO]
  rcases hx with hx | hx | hx | hx | hx | hx | hx | hx | hx
  · rw [hx] at e
    subst e
    have ew : on = 1 := hw.1 (.inl ⟨by decide, by decide⟩)
    subst ew
    rw [show crs 2 (atP 1).start [1] ([1] : List Int).length = [0, 1] from by decide]
    exact at1_yes ⟨rfl, gl_mem (p := fun x => 0 ≤ x) (by decide) (by decide), by decide, by decide⟩ (by decide)
  · rw [hx] at e
    subst e
    have ew : on = 1 := hw.1 (.inl ⟨by decide, by decide⟩)
    subst ew
    rw [show crs 2 (atP 1).start [2] ([2] : List Int).length = [0, 2] from by decide]
    exact at1_yes ⟨rfl, gl_mem (p := fun x => 0 ≤ x) (by decide) (by decide), by decide, by decide⟩ (by decide)
  · rw [hx] at e
    subst e
    have ew : on = 1 := hw.1 (.inl ⟨by decide, by decide⟩)
    subst ew
    rw [show crs 2 (atP 1).start [3] ([3] : List Int).length = [0, 3] from by decide]
    exact at1_yes ⟨rfl, gl_mem (p := fun x => 0 ≤ x) (by decide) (by decide), by decide, by decide⟩ (by decide)
  · rw [hx] at e
    subst e
    have ew : on = 1 := hw.1 (.inl ⟨by decide, by decide⟩)
    subst ew
    rw [show crs 2 (atP 1).start [4] ([4] : List Int).length = [0, 4] from by decide]
    exact at1_yes ⟨rfl, gl_mem (p := fun x => 0 ≤ x) (by decide) (by decide), by decide, by decide⟩ (by decide)
  · rw [hx] at e
    subst e
    have ew : on = 1 := hw.1 (.inl ⟨by decide, by decide⟩)
    subst ew
    rw [show crs 2 (atP 1).start [5] ([5] : List Int).length = [0, 5] from by decide]
    exact at1_yes ⟨rfl, gl_mem (p := fun x => 0 ≤ x) (by decide) (by decide), by decide, by decide⟩ (by decide)
  · rw [hx] at e
    subst e
    have ew : on = 1 := hw.1 (.inl ⟨by decide, by decide⟩)
    subst ew
    rw [show crs 2 (atP 1).start [6] ([6] : List Int).length = [0, 6] from by decide]
    exact at1_yes ⟨rfl, gl_mem (p := fun x => 0 ≤ x) (by decide) (by decide), by decide, by decide⟩ (by decide)
  · rw [hx] at e
    subst e
    have ew : on = 1 := hw.1 (.inl ⟨by decide, by decide⟩)
    subst ew
    rw [show crs 2 (atP 1).start [7] ([7] : List Int).length = [0, 7] from by decide]
    exact at1_yes ⟨rfl, gl_mem (p := fun x => 0 ≤ x) (by decide) (by decide), by decide, by decide⟩ (by decide)
  · rw [hx] at e
    subst e
    have ew : on = 1 := hw.1 (.inl ⟨by decide, by decide⟩)
    subst ew
    rw [show crs 2 (atP 1).start [8] ([8] : List Int).length = [0, 8] from by decide]
    exact at1_yes ⟨rfl, gl_mem (p := fun x => 0 ≤ x) (by decide) (by decide), by decide, by decide⟩ (by decide)
  · rw [hx] at e
    subst e
    have ew : on = 1 := hw.1 (.inl ⟨by decide, by decide⟩)
    subst ew
    rw [show crs 2 (atP 1).start [9] ([9] : List Int).length = [0, 9] from by decide]
    exact at1_yes ⟨rfl, gl_mem (p := fun x => 0 ≤ x) (by decide) (by decide), by decide, by decide⟩ (by decide)
theorem atOk2 : POk (atP 2) := ⟨by decide, by decide, by decide, by decide, by decide, by decide, by decide, by decide, rok_of (by decide) (by decide)⟩
theorem atS2 : ∀ k, Cnt k 1 → Solves (atP 2) 3 ⟨[1], 2, 0⟩ k := by
  intro k hk on hw
  obtain ⟨e, h1, h2⟩ := cnt1 hk
  have hx : gl k 0 = 1 ∨ gl k 0 = 2 ∨ gl k 0 = 3 ∨ gl k 0 = 4 ∨ gl k 0 = 5 ∨ gl k 0 = 6 ∨ gl k 0 = 7 ∨ gl k 0 = 8 ∨ gl k 0 = 9 := by omega
  have eR : (atP 2).rules = [⟨0, 2, 2, 2⟩, ⟨1, 1, 2, 2⟩, ⟨1, 2, 2, 2⟩, ⟨2, 2, 2, 2⟩] := rfl
  have eO : (atP 2).out = [0, 0, 1] := rfl
  rw [eR, eO]
  rcases hx with hx | hx | hx | hx | hx | hx | hx | hx | hx
  · rw [hx] at e
    subst e
    have ew : on = 0 := hw.2 (by rintro (⟨h, h'⟩ | ⟨h, h'⟩) <;> revert h h' <;> decide)
    subst ew
    rw [show crs 3 (atP 2).start [1] ([1] : List Int).length = [0, 1, 0] from by decide]
    exact at2_no ⟨rfl, gl_mem (p := fun x => 0 ≤ x) (by decide) (by decide), by decide, by decide⟩ (by decide)
  · rw [hx] at e
    subst e
    have ew : on = 1 := hw.1 (.inl ⟨by decide, by decide⟩)
    subst ew
    rw [show crs 3 (atP 2).start [2] ([2] : List Int).length = [0, 2, 0] from by decide]
    exact at2_yes ⟨rfl, gl_mem (p := fun x => 0 ≤ x) (by decide) (by decide), by decide, by decide⟩ (by decide)
  · rw [hx] at e
    subst e
    have ew : on = 1 := hw.1 (.inl ⟨by decide, by decide⟩)
    subst ew
    rw [show crs 3 (atP 2).start [3] ([3] : List Int).length = [0, 3, 0] from by decide]
    exact at2_yes ⟨rfl, gl_mem (p := fun x => 0 ≤ x) (by decide) (by decide), by decide, by decide⟩ (by decide)
  · rw [hx] at e
    subst e
    have ew : on = 1 := hw.1 (.inl ⟨by decide, by decide⟩)
    subst ew
    rw [show crs 3 (atP 2).start [4] ([4] : List Int).length = [0, 4, 0] from by decide]
    exact at2_yes ⟨rfl, gl_mem (p := fun x => 0 ≤ x) (by decide) (by decide), by decide, by decide⟩ (by decide)
  · rw [hx] at e
    subst e
    have ew : on = 1 := hw.1 (.inl ⟨by decide, by decide⟩)
    subst ew
    rw [show crs 3 (atP 2).start [5] ([5] : List Int).length = [0, 5, 0] from by decide]
    exact at2_yes ⟨rfl, gl_mem (p := fun x => 0 ≤ x) (by decide) (by decide), by decide, by decide⟩ (by decide)
  · rw [hx] at e
    subst e
    have ew : on = 1 := hw.1 (.inl ⟨by decide, by decide⟩)
    subst ew
    rw [show crs 3 (atP 2).start [6] ([6] : List Int).length = [0, 6, 0] from by decide]
    exact at2_yes ⟨rfl, gl_mem (p := fun x => 0 ≤ x) (by decide) (by decide), by decide, by decide⟩ (by decide)
  · rw [hx] at e
    subst e
    have ew : on = 1 := hw.1 (.inl ⟨by decide, by decide⟩)
    subst ew
    rw [show crs 3 (atP 2).start [7] ([7] : List Int).length = [0, 7, 0] from by decide]
    exact at2_yes ⟨rfl, gl_mem (p := fun x => 0 ≤ x) (by decide) (by decide), by decide, by decide⟩ (by decide)
  · rw [hx] at e
    subst e
    have ew : on = 1 := hw.1 (.inl ⟨by decide, by decide⟩)
    subst ew
    rw [show crs 3 (atP 2).start [8] ([8] : List Int).length = [0, 8, 0] from by decide]
    exact at2_yes ⟨rfl, gl_mem (p := fun x => 0 ≤ x) (by decide) (by decide), by decide, by decide⟩ (by decide)
  · rw [hx] at e
    subst e
    have ew : on = 1 := hw.1 (.inl ⟨by decide, by decide⟩)
    subst ew
    rw [show crs 3 (atP 2).start [9] ([9] : List Int).length = [0, 9, 0] from by decide]
    exact at2_yes ⟨rfl, gl_mem (p := fun x => 0 ≤ x) (by decide) (by decide), by decide, by decide⟩ (by decide)
theorem atOk3 : POk (atP 3) := ⟨by decide, by decide, by decide, by decide, by decide, by decide, by decide, by decide, rok_of (by decide) (by decide)⟩
theorem atS3 : ∀ k, Cnt k 1 → Solves (atP 3) 4 ⟨[1], 3, 0⟩ k := by
  intro k hk on hw
  obtain ⟨e, h1, h2⟩ := cnt1 hk
  have hx : gl k 0 = 1 ∨ gl k 0 = 2 ∨ gl k 0 = 3 ∨ gl k 0 = 4 ∨ gl k 0 = 5 ∨ gl k 0 = 6 ∨ gl k 0 = 7 ∨ gl k 0 = 8 ∨ gl k 0 = 9 := by omega
  have eR : (atP 3).rules = [⟨0, 3, 3, 3⟩, ⟨1, 1, 2, 0⟩, ⟨1, 2, 3, 3⟩, ⟨1, 3, 3, 3⟩, ⟨2, 2, 3, 3⟩, ⟨2, 3, 3, 3⟩, ⟨3, 3, 3, 3⟩] := rfl
  have eO : (atP 3).out = [0, 0, 0, 1] := rfl
  rw [eR, eO]
  rcases hx with hx | hx | hx | hx | hx | hx | hx | hx | hx
  · rw [hx] at e
    subst e
    have ew : on = 0 := hw.2 (by rintro (⟨h, h'⟩ | ⟨h, h'⟩) <;> revert h h' <;> decide)
    subst ew
    rw [show crs 4 (atP 3).start [1] ([1] : List Int).length = [0, 1, 0, 0] from by decide]
    exact at3_no ⟨rfl, gl_mem (p := fun x => 0 ≤ x) (by decide) (by decide), by decide, by decide⟩ (by decide)
  · rw [hx] at e
    subst e
    have ew : on = 0 := hw.2 (by rintro (⟨h, h'⟩ | ⟨h, h'⟩) <;> revert h h' <;> decide)
    subst ew
    rw [show crs 4 (atP 3).start [2] ([2] : List Int).length = [0, 2, 0, 0] from by decide]
    exact at3_no ⟨rfl, gl_mem (p := fun x => 0 ≤ x) (by decide) (by decide), by decide, by decide⟩ (by decide)
  · rw [hx] at e
    subst e
    have ew : on = 1 := hw.1 (.inl ⟨by decide, by decide⟩)
    subst ew
    rw [show crs 4 (atP 3).start [3] ([3] : List Int).length = [0, 3, 0, 0] from by decide]
    exact at3_yes ⟨rfl, gl_mem (p := fun x => 0 ≤ x) (by decide) (by decide), by decide, by decide⟩ (by decide)
  · rw [hx] at e
    subst e
    have ew : on = 1 := hw.1 (.inl ⟨by decide, by decide⟩)
    subst ew
    rw [show crs 4 (atP 3).start [4] ([4] : List Int).length = [0, 4, 0, 0] from by decide]
    exact at3_yes ⟨rfl, gl_mem (p := fun x => 0 ≤ x) (by decide) (by decide), by decide, by decide⟩ (by decide)
  · rw [hx] at e
    subst e
    have ew : on = 1 := hw.1 (.inl ⟨by decide, by decide⟩)
    subst ew
    rw [show crs 4 (atP 3).start [5] ([5] : List Int).length = [0, 5, 0, 0] from by decide]
    exact at3_yes ⟨rfl, gl_mem (p := fun x => 0 ≤ x) (by decide) (by decide), by decide, by decide⟩ (by decide)
  · rw [hx] at e
    subst e
    have ew : on = 1 := hw.1 (.inl ⟨by decide, by decide⟩)
    subst ew
    rw [show crs 4 (atP 3).start [6] ([6] : List Int).length = [0, 6, 0, 0] from by decide]
    exact at3_yes ⟨rfl, gl_mem (p := fun x => 0 ≤ x) (by decide) (by decide), by decide, by decide⟩ (by decide)
  · rw [hx] at e
    subst e
    have ew : on = 1 := hw.1 (.inl ⟨by decide, by decide⟩)
    subst ew
    rw [show crs 4 (atP 3).start [7] ([7] : List Int).length = [0, 7, 0, 0] from by decide]
    exact at3_yes ⟨rfl, gl_mem (p := fun x => 0 ≤ x) (by decide) (by decide), by decide, by decide⟩ (by decide)
  · rw [hx] at e
    subst e
    have ew : on = 1 := hw.1 (.inl ⟨by decide, by decide⟩)
    subst ew
    rw [show crs 4 (atP 3).start [8] ([8] : List Int).length = [0, 8, 0, 0] from by decide]
    exact at3_yes ⟨rfl, gl_mem (p := fun x => 0 ≤ x) (by decide) (by decide), by decide, by decide⟩ (by decide)
  · rw [hx] at e
    subst e
    have ew : on = 1 := hw.1 (.inl ⟨by decide, by decide⟩)
    subst ew
    rw [show crs 4 (atP 3).start [9] ([9] : List Int).length = [0, 9, 0, 0] from by decide]
    exact at3_yes ⟨rfl, gl_mem (p := fun x => 0 ≤ x) (by decide) (by decide), by decide, by decide⟩ (by decide)
theorem atOk4 : POk (atP 4) := ⟨by decide, by decide, by decide, by decide, by decide, by decide, by decide, by decide, rok_of (by decide) (by decide)⟩
theorem atS4 : ∀ k, Cnt k 1 → Solves (atP 4) 5 ⟨[1], 4, 0⟩ k := by
  intro k hk on hw
  obtain ⟨e, h1, h2⟩ := cnt1 hk
  have hx : gl k 0 = 1 ∨ gl k 0 = 2 ∨ gl k 0 = 3 ∨ gl k 0 = 4 ∨ gl k 0 = 5 ∨ gl k 0 = 6 ∨ gl k 0 = 7 ∨ gl k 0 = 8 ∨ gl k 0 = 9 := by omega
  have eR : (atP 4).rules = [⟨0, 4, 4, 4⟩, ⟨1, 1, 2, 0⟩, ⟨1, 2, 3, 0⟩, ⟨1, 3, 4, 4⟩, ⟨1, 4, 4, 4⟩, ⟨2, 2, 4, 4⟩, ⟨2, 3, 4, 4⟩, ⟨2, 4, 4, 4⟩, ⟨3, 3, 4, 4⟩, ⟨3, 4, 4, 4⟩, ⟨4, 4, 4, 4⟩] := rfl
  have eO : (atP 4).out = [0, 0, 0, 0, 1] := rfl
  rw [eR, eO]
  rcases hx with hx | hx | hx | hx | hx | hx | hx | hx | hx
  · rw [hx] at e
    subst e
    have ew : on = 0 := hw.2 (by rintro (⟨h, h'⟩ | ⟨h, h'⟩) <;> revert h h' <;> decide)
    subst ew
    rw [show crs 5 (atP 4).start [1] ([1] : List Int).length = [0, 1, 0, 0, 0] from by decide]
    exact at4_no ⟨rfl, gl_mem (p := fun x => 0 ≤ x) (by decide) (by decide), by decide, by decide⟩ (by decide)
  · rw [hx] at e
    subst e
    have ew : on = 0 := hw.2 (by rintro (⟨h, h'⟩ | ⟨h, h'⟩) <;> revert h h' <;> decide)
    subst ew
    rw [show crs 5 (atP 4).start [2] ([2] : List Int).length = [0, 2, 0, 0, 0] from by decide]
    exact at4_no ⟨rfl, gl_mem (p := fun x => 0 ≤ x) (by decide) (by decide), by decide, by decide⟩ (by decide)
  · rw [hx] at e
    subst e
    have ew : on = 0 := hw.2 (by rintro (⟨h, h'⟩ | ⟨h, h'⟩) <;> revert h h' <;> decide)
    subst ew
    rw [show crs 5 (atP 4).start [3] ([3] : List Int).length = [0, 3, 0, 0, 0] from by decide]
    exact at4_no ⟨rfl, gl_mem (p := fun x => 0 ≤ x) (by decide) (by decide), by decide, by decide⟩ (by decide)
  · rw [hx] at e
    subst e
    have ew : on = 1 := hw.1 (.inl ⟨by decide, by decide⟩)
    subst ew
    rw [show crs 5 (atP 4).start [4] ([4] : List Int).length = [0, 4, 0, 0, 0] from by decide]
    exact at4_yes ⟨rfl, gl_mem (p := fun x => 0 ≤ x) (by decide) (by decide), by decide, by decide⟩ (by decide)
  · rw [hx] at e
    subst e
    have ew : on = 1 := hw.1 (.inl ⟨by decide, by decide⟩)
    subst ew
    rw [show crs 5 (atP 4).start [5] ([5] : List Int).length = [0, 5, 0, 0, 0] from by decide]
    exact at4_yes ⟨rfl, gl_mem (p := fun x => 0 ≤ x) (by decide) (by decide), by decide, by decide⟩ (by decide)
  · rw [hx] at e
    subst e
    have ew : on = 1 := hw.1 (.inl ⟨by decide, by decide⟩)
    subst ew
    rw [show crs 5 (atP 4).start [6] ([6] : List Int).length = [0, 6, 0, 0, 0] from by decide]
    exact at4_yes ⟨rfl, gl_mem (p := fun x => 0 ≤ x) (by decide) (by decide), by decide, by decide⟩ (by decide)
  · rw [hx] at e
    subst e
    have ew : on = 1 := hw.1 (.inl ⟨by decide, by decide⟩)
    subst ew
    rw [show crs 5 (atP 4).start [7] ([7] : List Int).length = [0, 7, 0, 0, 0] from by decide]
    exact at4_yes ⟨rfl, gl_mem (p := fun x => 0 ≤ x) (by decide) (by decide), by decide, by decide⟩ (by decide)
  · rw [hx] at e
    subst e
    have ew : on = 1 := hw.1 (.inl ⟨by decide, by decide⟩)
    subst ew
    rw [show crs 5 (atP 4).start [8] ([8] : List Int).length = [0, 8, 0, 0, 0] from by decide]
    exact at4_yes ⟨rfl, gl_mem (p := fun x => 0 ≤ x) (by decide) (by decide), by decide, by decide⟩ (by decide)
  · rw [hx] at e
    subst e
    have ew : on = 1 := hw.1 (.inl ⟨by decide, by decide⟩)
    subst ew
    rw [show crs 5 (atP 4).start [9] ([9] : List Int).length = [0, 9, 0, 0, 0] from by decide]
    exact at4_yes ⟨rfl, gl_mem (p := fun x => 0 ≤ x) (by decide) (by decide), by decide, by decide⟩ (by decide)
theorem leOk10 : POk (leP 1 0) := ⟨by decide, by decide, by decide, by decide, by decide, by decide, by decide, by decide, rok_of (by decide) (by decide)⟩
theorem leS10 : ∀ k, Cnt k 1 → Solves (leP 1 0) 3 ⟨[1], 0, 1⟩ k := by
  intro k hk on hw
  obtain ⟨e, h1, h2⟩ := cnt1 hk
  have hx : gl k 0 = 1 ∨ gl k 0 = 2 ∨ gl k 0 = 3 ∨ gl k 0 = 4 ∨ gl k 0 = 5 ∨ gl k 0 = 6 ∨ gl k 0 = 7 ∨ gl k 0 = 8 ∨ gl k 0 = 9 := by omega
  have eR : (leP 1 0).rules = [⟨0, 0, 0, 2⟩, ⟨0, 1, 0, 2⟩] := rfl
  have eO : (leP 1 0).out = [1, 0, 1] := rfl
  rw [eR, eO]
  rcases hx with hx | hx | hx | hx | hx | hx | hx | hx | hx
  · rw [hx] at e
    subst e
    have ew : on = 1 := hw.1 (.inr ⟨by decide, by decide⟩)
    subst ew
    rw [show crs 3 (leP 1 0).start [1] ([1] : List Int).length = [1, 0, 0] from by decide]
    exact le10_1 ⟨rfl, gl_mem (p := fun x => 0 ≤ x) (by decide) (by decide), by decide, by decide⟩ (by decide)
  · rw [hx] at e
    subst e
    have ew : on = 1 := hw.1 (.inr ⟨by decide, by decide⟩)
    subst ew
    rw [show crs 3 (leP 1 0).start [2] ([2] : List Int).length = [2, 0, 0] from by decide]
    exact le10_1 ⟨rfl, gl_mem (p := fun x => 0 ≤ x) (by decide) (by decide), by decide, by decide⟩ (by decide)
  · rw [hx] at e
    subst e
    have ew : on = 1 := hw.1 (.inr ⟨by decide, by decide⟩)
    subst ew
    rw [show crs 3 (leP 1 0).start [3] ([3] : List Int).length = [3, 0, 0] from by decide]
    exact le10_1 ⟨rfl, gl_mem (p := fun x => 0 ≤ x) (by decide) (by decide), by decide, by decide⟩ (by decide)
  · rw [hx] at e
    subst e
    have ew : on = 1 := hw.1 (.inr ⟨by decide, by decide⟩)
    subst ew
    rw [show crs 3 (leP 1 0).start [4] ([4] : List Int).length = [4, 0, 0] from by decide]
    exact le10_1 ⟨rfl, gl_mem (p := fun x => 0 ≤ x) (by decide) (by decide), by decide, by decide⟩ (by decide)
  · rw [hx] at e
    subst e
    have ew : on = 1 := hw.1 (.inr ⟨by decide, by decide⟩)
    subst ew
    rw [show crs 3 (leP 1 0).start [5] ([5] : List Int).length = [5, 0, 0] from by decide]
    exact le10_1 ⟨rfl, gl_mem (p := fun x => 0 ≤ x) (by decide) (by decide), by decide, by decide⟩ (by decide)
  · rw [hx] at e
    subst e
    have ew : on = 1 := hw.1 (.inr ⟨by decide, by decide⟩)
    subst ew
    rw [show crs 3 (leP 1 0).start [6] ([6] : List Int).length = [6, 0, 0] from by decide]
    exact le10_1 ⟨rfl, gl_mem (p := fun x => 0 ≤ x) (by decide) (by decide), by decide, by decide⟩ (by decide)
  · rw [hx] at e
    subst e
    have ew : on = 1 := hw.1 (.inr ⟨by decide, by decide⟩)
    subst ew
    rw [show crs 3 (leP 1 0).start [7] ([7] : List Int).length = [7, 0, 0] from by decide]
    exact le10_1 ⟨rfl, gl_mem (p := fun x => 0 ≤ x) (by decide) (by decide), by decide, by decide⟩ (by decide)
  · rw [hx] at e
    subst e
    have ew : on = 1 := hw.1 (.inr ⟨by decide, by decide⟩)
    subst ew
    rw [show crs 3 (leP 1 0).start [8] ([8] : List Int).length = [8, 0, 0] from by decide]
    exact le10_1 ⟨rfl, gl_mem (p := fun x => 0 ≤ x) (by decide) (by decide), by decide, by decide⟩ (by decide)
  · rw [hx] at e
    subst e
    have ew : on = 1 := hw.1 (.inr ⟨by decide, by decide⟩)
    subst ew
    rw [show crs 3 (leP 1 0).start [9] ([9] : List Int).length = [9, 0, 0] from by decide]
    exact le10_1 ⟨rfl, gl_mem (p := fun x => 0 ≤ x) (by decide) (by decide), by decide, by decide⟩ (by decide)
theorem leOk20 : POk (leP 2 0) := ⟨by decide, by decide, by decide, by decide, by decide, by decide, by decide, by decide, rok_of (by decide) (by decide)⟩
theorem leS20 : ∀ k, Cnt k 1 → Solves (leP 2 0) 4 ⟨[1], 0, 2⟩ k := by
  intro k hk on hw
  obtain ⟨e, h1, h2⟩ := cnt1 hk
  have hx : gl k 0 = 1 ∨ gl k 0 = 2 ∨ gl k 0 = 3 ∨ gl k 0 = 4 ∨ gl k 0 = 5 ∨ gl k 0 = 6 ∨ gl k 0 = 7 ∨ gl k 0 = 8 ∨ gl k 0 = 9 := by omega
  have eR : (leP 2 0).rules = [⟨0, 0, 0, 3⟩, ⟨0, 1, 1, 2⟩, ⟨0, 2, 0, 3⟩, ⟨1, 1, 0, 3⟩, ⟨1, 3, 1, 2⟩] := rfl
  have eO : (leP 2 0).out = [1, 0, 0, 1] := rfl
  rw [eR, eO]
  rcases hx with hx | hx | hx | hx | hx | hx | hx | hx | hx
  · rw [hx] at e
    subst e
    have ew : on = 0 := hw.2 (by rintro (⟨h, h'⟩ | ⟨h, h'⟩) <;> revert h h' <;> decide)
    subst ew
    rw [show crs 4 (leP 2 0).start [1] ([1] : List Int).length = [0, 1, 0, 0] from by decide]
    exact le20_0 ⟨rfl, gl_mem (p := fun x => 0 ≤ x) (by decide) (by decide), by decide, by decide⟩ (by decide)
  · rw [hx] at e
    subst e
    have ew : on = 1 := hw.1 (.inr ⟨by decide, by decide⟩)
    subst ew
    rw [show crs 4 (leP 2 0).start [2] ([2] : List Int).length = [0, 2, 0, 0] from by decide]
    exact le20_1 ⟨rfl, gl_mem (p := fun x => 0 ≤ x) (by decide) (by decide), by decide, by decide⟩ (by decide)
  · rw [hx] at e
    subst e
    have ew : on = 0 := hw.2 (by rintro (⟨h, h'⟩ | ⟨h, h'⟩) <;> revert h h' <;> decide)
    subst ew
    rw [show crs 4 (leP 2 0).start [3] ([3] : List Int).length = [0, 3, 0, 0] from by decide]
    exact le20_0 ⟨rfl, gl_mem (p := fun x => 0 ≤ x) (by decide) (by decide), by decide, by decide⟩ (by decide)
  · rw [hx] at e
    subst e
    have ew : on = 1 := hw.1 (.inr ⟨by decide, by decide⟩)
    subst ew
    rw [show crs 4 (leP 2 0).start [4] ([4] : List Int).length = [0, 4, 0, 0] from by decide]
    exact le20_1 ⟨rfl, gl_mem (p := fun x => 0 ≤ x) (by decide) (by decide), by decide, by decide⟩ (by decide)
  · rw [hx] at e
    subst e
    have ew : on = 0 := hw.2 (by rintro (⟨h, h'⟩ | ⟨h, h'⟩) <;> revert h h' <;> decide)
    subst ew
    rw [show crs 4 (leP 2 0).start [5] ([5] : List Int).length = [0, 5, 0, 0] from by decide]
    exact le20_0 ⟨rfl, gl_mem (p := fun x => 0 ≤ x) (by decide) (by decide), by decide, by decide⟩ (by decide)
  · rw [hx] at e
    subst e
    have ew : on = 1 := hw.1 (.inr ⟨by decide, by decide⟩)
    subst ew
    rw [show crs 4 (leP 2 0).start [6] ([6] : List Int).length = [0, 6, 0, 0] from by decide]
    exact le20_1 ⟨rfl, gl_mem (p := fun x => 0 ≤ x) (by decide) (by decide), by decide, by decide⟩ (by decide)
  · rw [hx] at e
    subst e
    have ew : on = 0 := hw.2 (by rintro (⟨h, h'⟩ | ⟨h, h'⟩) <;> revert h h' <;> decide)
    subst ew
    rw [show crs 4 (leP 2 0).start [7] ([7] : List Int).length = [0, 7, 0, 0] from by decide]
    exact le20_0 ⟨rfl, gl_mem (p := fun x => 0 ≤ x) (by decide) (by decide), by decide, by decide⟩ (by decide)
  · rw [hx] at e
    subst e
    have ew : on = 1 := hw.1 (.inr ⟨by decide, by decide⟩)
    subst ew
    rw [show crs 4 (leP 2 0).start [8] ([8] : List Int).length = [0, 8, 0, 0] from by decide]
    exact le20_1 ⟨rfl, gl_mem (p := fun x => 0 ≤ x) (by decide) (by decide), by decide, by decide⟩ (by decide)
  · rw [hx] at e
    subst e
    have ew : on = 0 := hw.2 (by rintro (⟨h, h'⟩ | ⟨h, h'⟩) <;> revert h h' <;> decide)
    subst ew
    rw [show crs 4 (leP 2 0).start [9] ([9] : List Int).length = [0, 9, 0, 0] from by decide]
    exact le20_0 ⟨rfl, gl_mem (p := fun x => 0 ≤ x) (by decide) (by decide), by decide, by decide⟩ (by decide)
theorem leOk21 : POk (leP 2 1) := ⟨by decide, by decide, by decide, by decide, by decide, by decide, by decide, by decide, rok_of (by decide) (by decide)⟩
theorem leS21 : ∀ k, Cnt k 1 → Solves (leP 2 1) 4 ⟨[1], 1, 2⟩ k := by
  intro k hk on hw
  obtain ⟨e, h1, h2⟩ := cnt1 hk
  have hx : gl k 0 = 1 ∨ gl k 0 = 2 ∨ gl k 0 = 3 ∨ gl k 0 = 4 ∨ gl k 0 = 5 ∨ gl k 0 = 6 ∨ gl k 0 = 7 ∨ gl k 0 = 8 ∨ gl k 0 = 9 := by omega
  have eR : (leP 2 1).rules = [⟨0, 0, 0, 2⟩, ⟨0, 1, 1, 3⟩, ⟨0, 3, 0, 2⟩, ⟨1, 1, 0, 2⟩, ⟨1, 2, 1, 3⟩] := rfl
  have eO : (leP 2 1).out = [0, 1, 0, 1] := rfl
  rw [eR, eO]
  rcases hx with hx | hx | hx | hx | hx | hx | hx | hx | hx
  · rw [hx] at e
    subst e
    have ew : on = 1 := hw.1 (.inr ⟨by decide, by decide⟩)
    subst ew
    rw [show crs 4 (leP 2 1).start [1] ([1] : List Int).length = [0, 1, 0, 0] from by decide]
    exact le21_1 ⟨rfl, gl_mem (p := fun x => 0 ≤ x) (by decide) (by decide), by decide, by decide⟩ (by decide)
  · rw [hx] at e
    subst e
    have ew : on = 0 := hw.2 (by rintro (⟨h, h'⟩ | ⟨h, h'⟩) <;> revert h h' <;> decide)
    subst ew
    rw [show crs 4 (leP 2 1).start [2] ([2] : List Int).length = [0, 2, 0, 0] from by decide]
    exact le21_0 ⟨rfl, gl_mem (p := fun x => 0 ≤ x) (by decide) (by decide), by decide, by decide⟩ (by decide)
  · rw [hx] at e
    subst e
    have ew : on = 1 := hw.1 (.inr ⟨by decide, by decide⟩)
    subst ew
    rw [show crs 4 (leP 2 1).start [3] ([3] : List Int).length = [0, 3, 0, 0] from by decide]
    exact le21_1 ⟨rfl, gl_mem (p := fun x => 0 ≤ x) (by decide) (by decide), by decide, by decide⟩ (by decide)
  · rw [hx] at e
    subst e
    have ew : on = 0 := hw.2 (by rintro (⟨h, h'⟩ | ⟨h, h'⟩) <;> revert h h' <;> decide)
    subst ew
    rw [show crs 4 (leP 2 1).start [4] ([4] : List Int).length = [0, 4, 0, 0] from by decide]
    exact le21_0 ⟨rfl, gl_mem (p := fun x => 0 ≤ x) (by decide) (by decide), by decide, by decide⟩ (by decide)
  · rw [hx] at e
    subst e
    have ew : on = 1 := hw.1 (.inr ⟨by decide, by decide⟩)
    subst ew
    rw [show crs 4 (leP 2 1).start [5] ([5] : List Int).length = [0, 5, 0, 0] from by decide]
    exact le21_1 ⟨rfl, gl_mem (p := fun x => 0 ≤ x) (by decide) (by decide), by decide, by decide⟩ (by decide)
  · rw [hx] at e
    subst e
    have ew : on = 0 := hw.2 (by rintro (⟨h, h'⟩ | ⟨h, h'⟩) <;> revert h h' <;> decide)
    subst ew
    rw [show crs 4 (leP 2 1).start [6] ([6] : List Int).length = [0, 6, 0, 0] from by decide]
    exact le21_0 ⟨rfl, gl_mem (p := fun x => 0 ≤ x) (by decide) (by decide), by decide, by decide⟩ (by decide)
  · rw [hx] at e
    subst e
    have ew : on = 1 := hw.1 (.inr ⟨by decide, by decide⟩)
    subst ew
    rw [show crs 4 (leP 2 1).start [7] ([7] : List Int).length = [0, 7, 0, 0] from by decide]
    exact le21_1 ⟨rfl, gl_mem (p := fun x => 0 ≤ x) (by decide) (by decide), by decide, by decide⟩ (by decide)
  · rw [hx] at e
    subst e
    have ew : on = 0 := hw.2 (by rintro (⟨h, h'⟩ | ⟨h, h'⟩) <;> revert h h' <;> decide)
    subst ew
    rw [show crs 4 (leP 2 1).start [8] ([8] : List Int).length = [0, 8, 0, 0] from by decide]
    exact le21_0 ⟨rfl, gl_mem (p := fun x => 0 ≤ x) (by decide) (by decide), by decide, by decide⟩ (by decide)
  · rw [hx] at e
    subst e
    have ew : on = 1 := hw.1 (.inr ⟨by decide, by decide⟩)
    subst ew
    rw [show crs 4 (leP 2 1).start [9] ([9] : List Int).length = [0, 9, 0, 0] from by decide]
    exact le21_1 ⟨rfl, gl_mem (p := fun x => 0 ≤ x) (by decide) (by decide), by decide, by decide⟩ (by decide)
theorem leOk30 : POk (leP 3 0) := ⟨by decide, by decide, by decide, by decide, by decide, by decide, by decide, by decide, rok_of (by decide) (by decide)⟩
theorem leS30 : ∀ k, Cnt k 1 → Solves (leP 3 0) 5 ⟨[1], 0, 3⟩ k := by
  intro k hk on hw
  obtain ⟨e, h1, h2⟩ := cnt1 hk
  have hx : gl k 0 = 1 ∨ gl k 0 = 2 ∨ gl k 0 = 3 ∨ gl k 0 = 4 ∨ gl k 0 = 5 ∨ gl k 0 = 6 ∨ gl k 0 = 7 ∨ gl k 0 = 8 ∨ gl k 0 = 9 := by omega
  have eR : (leP 3 0).rules = [⟨0, 0, 0, 4⟩, ⟨0, 1, 1, 3⟩, ⟨0, 2, 2, 3⟩, ⟨0, 3, 0, 4⟩, ⟨1, 1, 2, 3⟩, ⟨1, 2, 0, 4⟩, ⟨1, 4, 1, 3⟩, ⟨2, 2, 1, 3⟩, ⟨2, 4, 2, 3⟩] := rfl
  have eO : (leP 3 0).out = [1, 0, 0, 0, 1] := rfl
  rw [eR, eO]
  rcases hx with hx | hx | hx | hx | hx | hx | hx | hx | hx
  · rw [hx] at e
    subst e
    have ew : on = 0 := hw.2 (by rintro (⟨h, h'⟩ | ⟨h, h'⟩) <;> revert h h' <;> decide)
    subst ew
    rw [show crs 5 (leP 3 0).start [1] ([1] : List Int).length = [0, 1, 0, 0, 0] from by decide]
    exact le30_0 ⟨rfl, gl_mem (p := fun x => 0 ≤ x) (by decide) (by decide), by decide, by decide⟩ (by decide)
  · rw [hx] at e
    subst e
    have ew : on = 0 := hw.2 (by rintro (⟨h, h'⟩ | ⟨h, h'⟩) <;> revert h h' <;> decide)
    subst ew
    rw [show crs 5 (leP 3 0).start [2] ([2] : List Int).length = [0, 2, 0, 0, 0] from by decide]
    exact le30_0 ⟨rfl, gl_mem (p := fun x => 0 ≤ x) (by decide) (by decide), by decide, by decide⟩ (by decide)
  · rw [hx] at e
    subst e
    have ew : on = 1 := hw.1 (.inr ⟨by decide, by decide⟩)
    subst ew
    rw [show crs 5 (leP 3 0).start [3] ([3] : List Int).length = [0, 3, 0, 0, 0] from by decide]
    exact le30_1 ⟨rfl, gl_mem (p := fun x => 0 ≤ x) (by decide) (by decide), by decide, by decide⟩ (by decide)
  · rw [hx] at e
    subst e
    have ew : on = 0 := hw.2 (by rintro (⟨h, h'⟩ | ⟨h, h'⟩) <;> revert h h' <;> decide)
    subst ew
    rw [show crs 5 (leP 3 0).start [4] ([4] : List Int).length = [0, 4, 0, 0, 0] from by decide]
    exact le30_0 ⟨rfl, gl_mem (p := fun x => 0 ≤ x) (by decide) (by decide), by decide, by decide⟩ (by decide)
  · rw [hx] at e
    subst e
    have ew : on = 0 := hw.2 (by rintro (⟨h, h'⟩ | ⟨h, h'⟩) <;> revert h h' <;> decide)
    subst ew
    rw [show crs 5 (leP 3 0).start [5] ([5] : List Int).length = [0, 5, 0, 0, 0] from by decide]
    exact le30_0 ⟨rfl, gl_mem (p := fun x => 0 ≤ x) (by decide) (by decide), by decide, by decide⟩ (by decide)
  · rw [hx] at e
    subst e
    have ew : on = 1 := hw.1 (.inr ⟨by decide, by decide⟩)
    subst ew
    rw [show crs 5 (leP 3 0).start [6] ([6] : List Int).length = [0, 6, 0, 0, 0] from by decide]
    exact le30_1 ⟨rfl, gl_mem (p := fun x => 0 ≤ x) (by decide) (by decide), by decide, by decide⟩ (by decide)
  · rw [hx] at e
    subst e
    have ew : on = 0 := hw.2 (by rintro (⟨h, h'⟩ | ⟨h, h'⟩) <;> revert h h' <;> decide)
    subst ew
    rw [show crs 5 (leP 3 0).start [7] ([7] : List Int).length = [0, 7, 0, 0, 0] from by decide]
    exact le30_0 ⟨rfl, gl_mem (p := fun x => 0 ≤ x) (by decide) (by decide), by decide, by decide⟩ (by decide)
  · rw [hx] at e
    subst e
    have ew : on = 0 := hw.2 (by rintro (⟨h, h'⟩ | ⟨h, h'⟩) <;> revert h h' <;> decide)
    subst ew
    rw [show crs 5 (leP 3 0).start [8] ([8] : List Int).length = [0, 8, 0, 0, 0] from by decide]
    exact le30_0 ⟨rfl, gl_mem (p := fun x => 0 ≤ x) (by decide) (by decide), by decide, by decide⟩ (by decide)
  · rw [hx] at e
    subst e
    have ew : on = 1 := hw.1 (.inr ⟨by decide, by decide⟩)
    subst ew
    rw [show crs 5 (leP 3 0).start [9] ([9] : List Int).length = [0, 9, 0, 0, 0] from by decide]
    exact le30_1 ⟨rfl, gl_mem (p := fun x => 0 ≤ x) (by decide) (by decide), by decide, by decide⟩ (by decide)
theorem leOk31 : POk (leP 3 1) := ⟨by decide, by decide, by decide, by decide, by decide, by decide, by decide, by decide, rok_of (by decide) (by decide)⟩
theorem leS31 : ∀ k, Cnt k 1 → Solves (leP 3 1) 5 ⟨[1], 1, 3⟩ k := by
  intro k hk on hw
  obtain ⟨e, h1, h2⟩ := cnt1 hk
  have hx : gl k 0 = 1 ∨ gl k 0 = 2 ∨ gl k 0 = 3 ∨ gl k 0 = 4 ∨ gl k 0 = 5 ∨ gl k 0 = 6 ∨ gl k 0 = 7 ∨ gl k 0 = 8 ∨ gl k 0 = 9 := by omega
  have eR : (leP 3 1).rules = [⟨0, 0, 0, 3⟩, ⟨0, 1, 1, 4⟩, ⟨0, 2, 2, 3⟩, ⟨0, 4, 0, 3⟩, ⟨1, 1, 2, 3⟩, ⟨1, 2, 0, 3⟩, ⟨1, 3, 1, 4⟩, ⟨2, 2, 1, 4⟩, ⟨2, 4, 2, 3⟩] := rfl
  have eO : (leP 3 1).out = [0, 1, 0, 0, 1] := rfl
  rw [eR, eO]
  rcases hx with hx | hx | hx | hx | hx | hx | hx | hx | hx
  · rw [hx] at e
    subst e
    have ew : on = 1 := hw.1 (.inr ⟨by decide, by decide⟩)
    subst ew
    rw [show crs 5 (leP 3 1).start [1] ([1] : List Int).length = [0, 1, 0, 0, 0] from by decide]
    exact le31_1 ⟨rfl, gl_mem (p := fun x => 0 ≤ x) (by decide) (by decide), by decide, by decide⟩ (by decide)
  · rw [hx] at e
    subst e
    have ew : on = 0 := hw.2 (by rintro (⟨h, h'⟩ | ⟨h, h'⟩) <;> revert h h' <;> decide)
    subst ew
    rw [show crs 5 (leP 3 1).start [2] ([2] : List Int).length = [0, 2, 0, 0, 0] from by decide]
    exact le31_0 ⟨rfl, gl_mem (p := fun x => 0 ≤ x) (by decide) (by decide), by decide, by decide⟩ (by decide)
  · rw [hx] at e
    subst e
    have ew : on = 0 := hw.2 (by rintro (⟨h, h'⟩ | ⟨h, h'⟩) <;> revert h h' <;> decide)
    subst ew
    rw [show crs 5 (leP 3 1).start [3] ([3] : List Int).length = [0, 3, 0, 0, 0] from by decide]
    exact le31_0 ⟨rfl, gl_mem (p := fun x => 0 ≤ x) (by decide) (by decide), by decide, by decide⟩ (by decide)
  · rw [hx] at e
    subst e
    have ew : on = 1 := hw.1 (.inr ⟨by decide, by decide⟩)
    subst ew
    rw [show crs 5 (leP 3 1).start [4] ([4] : List Int).length = [0, 4, 0, 0, 0] from by decide]
    exact le31_1 ⟨rfl, gl_mem (p := fun x => 0 ≤ x) (by decide) (by decide), by decide, by decide⟩ (by decide)
  · rw [hx] at e
    subst e
    have ew : on = 0 := hw.2 (by rintro (⟨h, h'⟩ | ⟨h, h'⟩) <;> revert h h' <;> decide)
    subst ew
    rw [show crs 5 (leP 3 1).start [5] ([5] : List Int).length = [0, 5, 0, 0, 0] from by decide]
    exact le31_0 ⟨rfl, gl_mem (p := fun x => 0 ≤ x) (by decide) (by decide), by decide, by decide⟩ (by decide)
  · rw [hx] at e
    subst e
    have ew : on = 0 := hw.2 (by rintro (⟨h, h'⟩ | ⟨h, h'⟩) <;> revert h h' <;> decide)
    subst ew
    rw [show crs 5 (leP 3 1).start [6] ([6] : List Int).length = [0, 6, 0, 0, 0] from by decide]
    exact le31_0 ⟨rfl, gl_mem (p := fun x => 0 ≤ x) (by decide) (by decide), by decide, by decide⟩ (by decide)
  · rw [hx] at e
    subst e
    have ew : on = 1 := hw.1 (.inr ⟨by decide, by decide⟩)
    subst ew
    rw [show crs 5 (leP 3 1).start [7] ([7] : List Int).length = [0, 7, 0, 0, 0] from by decide]
    exact le31_1 ⟨rfl, gl_mem (p := fun x => 0 ≤ x) (by decide) (by decide), by decide, by decide⟩ (by decide)
  · rw [hx] at e
    subst e
    have ew : on = 0 := hw.2 (by rintro (⟨h, h'⟩ | ⟨h, h'⟩) <;> revert h h' <;> decide)
    subst ew
    rw [show crs 5 (leP 3 1).start [8] ([8] : List Int).length = [0, 8, 0, 0, 0] from by decide]
    exact le31_0 ⟨rfl, gl_mem (p := fun x => 0 ≤ x) (by decide) (by decide), by decide, by decide⟩ (by decide)
  · rw [hx] at e
    subst e
    have ew : on = 0 := hw.2 (by rintro (⟨h, h'⟩ | ⟨h, h'⟩) <;> revert h h' <;> decide)
    subst ew
    rw [show crs 5 (leP 3 1).start [9] ([9] : List Int).length = [0, 9, 0, 0, 0] from by decide]
    exact le31_0 ⟨rfl, gl_mem (p := fun x => 0 ≤ x) (by decide) (by decide), by decide, by decide⟩ (by decide)
theorem leOk32 : POk (leP 3 2) := ⟨by decide, by decide, by decide, by decide, by decide, by decide, by decide, by decide, rok_of (by decide) (by decide)⟩
theorem leS32 : ∀ k, Cnt k 1 → Solves (leP 3 2) 5 ⟨[1], 2, 3⟩ k := by
  intro k hk on hw
  obtain ⟨e, h1, h2⟩ := cnt1 hk
  have hx : gl k 0 = 1 ∨ gl k 0 = 2 ∨ gl k 0 = 3 ∨ gl k 0 = 4 ∨ gl k 0 = 5 ∨ gl k 0 = 6 ∨ gl k 0 = 7 ∨ gl k 0 = 8 ∨ gl k 0 = 9 := by omega
  have eR : (leP 3 2).rules = [⟨0, 0, 0, 3⟩, ⟨0, 1, 1, 3⟩, ⟨0, 2, 2, 4⟩, ⟨0, 4, 0, 3⟩, ⟨1, 1, 2, 4⟩, ⟨1, 2, 0, 3⟩, ⟨1, 4, 1, 3⟩, ⟨2, 2, 1, 3⟩, ⟨2, 3, 2, 4⟩] := rfl
  have eO : (leP 3 2).out = [0, 0, 1, 0, 1] := rfl
  rw [eR, eO]
  rcases hx with hx | hx | hx | hx | hx | hx | hx | hx | hx
  · rw [hx] at e
    subst e
    have ew : on = 0 := hw.2 (by rintro (⟨h, h'⟩ | ⟨h, h'⟩) <;> revert h h' <;> decide)
    subst ew
    rw [show crs 5 (leP 3 2).start [1] ([1] : List Int).length = [0, 1, 0, 0, 0] from by decide]
    exact le32_0 ⟨rfl, gl_mem (p := fun x => 0 ≤ x) (by decide) (by decide), by decide, by decide⟩ (by decide)
  · rw [hx] at e
    subst e
    have ew : on = 1 := hw.1 (.inr ⟨by decide, by decide⟩)
    subst ew
    rw [show crs 5 (leP 3 2).start [2] ([2] : List Int).length = [0, 2, 0, 0, 0] from by decide]
    exact le32_1 ⟨rfl, gl_mem (p := fun x => 0 ≤ x) (by decide) (by decide), by decide, by decide⟩ (by decide)
  · rw [hx] at e
    subst e
    have ew : on = 0 := hw.2 (by rintro (⟨h, h'⟩ | ⟨h, h'⟩) <;> revert h h' <;> decide)
    subst ew
    rw [show crs 5 (leP 3 2).start [3] ([3] : List Int).length = [0, 3, 0, 0, 0] from by decide]
    exact le32_0 ⟨rfl, gl_mem (p := fun x => 0 ≤ x) (by decide) (by decide), by decide, by decide⟩ (by decide)
  · rw [hx] at e
    subst e
    have ew : on = 0 := hw.2 (by rintro (⟨h, h'⟩ | ⟨h, h'⟩) <;> revert h h' <;> decide)
    subst ew
    rw [show crs 5 (leP 3 2).start [4] ([4] : List Int).length = [0, 4, 0, 0, 0] from by decide]
    exact le32_0 ⟨rfl, gl_mem (p := fun x => 0 ≤ x) (by decide) (by decide), by decide, by decide⟩ (by decide)
  · rw [hx] at e
    subst e
    have ew : on = 1 := hw.1 (.inr ⟨by decide, by decide⟩)
    subst ew
    rw [show crs 5 (leP 3 2).start [5] ([5] : List Int).length = [0, 5, 0, 0, 0] from by decide]
    exact le32_1 ⟨rfl, gl_mem (p := fun x => 0 ≤ x) (by decide) (by decide), by decide, by decide⟩ (by decide)
  · rw [hx] at e
    subst e
    have ew : on = 0 := hw.2 (by rintro (⟨h, h'⟩ | ⟨h, h'⟩) <;> revert h h' <;> decide)
    subst ew
    rw [show crs 5 (leP 3 2).start [6] ([6] : List Int).length = [0, 6, 0, 0, 0] from by decide]
    exact le32_0 ⟨rfl, gl_mem (p := fun x => 0 ≤ x) (by decide) (by decide), by decide, by decide⟩ (by decide)
  · rw [hx] at e
    subst e
    have ew : on = 0 := hw.2 (by rintro (⟨h, h'⟩ | ⟨h, h'⟩) <;> revert h h' <;> decide)
    subst ew
    rw [show crs 5 (leP 3 2).start [7] ([7] : List Int).length = [0, 7, 0, 0, 0] from by decide]
    exact le32_0 ⟨rfl, gl_mem (p := fun x => 0 ≤ x) (by decide) (by decide), by decide, by decide⟩ (by decide)
  · rw [hx] at e
    subst e
    have ew : on = 1 := hw.1 (.inr ⟨by decide, by decide⟩)
    subst ew
    rw [show crs 5 (leP 3 2).start [8] ([8] : List Int).length = [0, 8, 0, 0, 0] from by decide]
    exact le32_1 ⟨rfl, gl_mem (p := fun x => 0 ≤ x) (by decide) (by decide), by decide, by decide⟩ (by decide)
  · rw [hx] at e
    subst e
    have ew : on = 0 := hw.2 (by rintro (⟨h, h'⟩ | ⟨h, h'⟩) <;> revert h h' <;> decide)
    subst ew
    rw [show crs 5 (leP 3 2).start [9] ([9] : List Int).length = [0, 9, 0, 0, 0] from by decide]
    exact le32_0 ⟨rfl, gl_mem (p := fun x => 0 ≤ x) (by decide) (by decide), by decide, by decide⟩ (by decide)
theorem majOk : POk (majP) := ⟨by decide, by decide, by decide, by decide, by decide, by decide, by decide, by decide, rok_of (by decide) (by decide)⟩
theorem majS : ∀ k, Cnt k 2 → Solves majP 4 ⟨[1, -1], 1, 0⟩ k := by
  intro k hk on hw
  obtain ⟨e, h1, h2, h3, h4⟩ := cnt2 hk
  have hex : ∃ x, gl k 0 = x := ⟨_, rfl⟩
  obtain ⟨x, hx⟩ := hex
  have hey : ∃ y, gl k 1 = y := ⟨_, rfl⟩
  obtain ⟨y, hy⟩ := hey
  rw [hx, hy] at e h3 h4
  rw [hx] at h1
  rw [hy] at h2
  clear hx hy hk
  subst e
  have ec : crs 4 majP.start [x, y] ([x, y] : List Int).length = [0 + x, 0 + y, 0, 0] := rfl
  have ed : dotN [1, -1] [x, y] 2 = x - y := by
    show 0 + 1 * x + -1 * y = _
    omega
  have hc : CrOk 4 [0 + x, 0 + y, 0, 0] := by
    refine ⟨rfl, gl_mem (p := fun z => 0 ≤ z) (fun z hz => ?_) (by decide), ?_, ?_⟩
    · simp only [List.mem_cons, List.not_mem_nil, or_false] at hz
      omega
    · show 1 ≤ 0 + x + (0 + y + (0 + (0 + 0)))
      omega
    · show 0 + x + (0 + y + (0 + (0 + 0))) ≤ 9
      omega
  rw [ec]
  by_cases ht : 1 ≤ x - y
  · have ew : on = 1 := hw.1 (.inl ⟨rfl, by show (1 : Int) ≤ dotN [1, -1] [x, y] 2; omega⟩)
    subst ew
    exact maj_1 hc (by show 0 + y < 0 + x; omega)
  · have ew : on = 0 := hw.2 (by
      rintro (⟨-, h⟩ | ⟨h, -⟩)
      · have h : (1 : Int) ≤ dotN [1, -1] [x, y] 2 := h
        omega
      · exact h rfl)
    subst ew
    exact maj_0 hc (by show 0 + x ≤ 0 + y ∧ 1 ≤ 0 + y + 0; omega)
end Go.Proofs.Ytpiplaicnbapbaa
namespace Go.Proofs.Ytpiplaicnbapbaa
open Go.Rx Go.RowKit
theorem at_all {m : Nat} (hm : 1 ≤ m ∧ m ≤ 4) : POk (atP m) ∧ ∀ k, Cnt k 1 → Solves (atP m) (m + 1) ⟨[1], (m : Int), 0⟩ k := by
  have : m = 1 ∨ m = 2 ∨ m = 3 ∨ m = 4 := by omega
  rcases this with rfl | rfl | rfl | rfl
  · exact ⟨atOk1, atS1⟩
  · exact ⟨atOk2, atS2⟩
  · exact ⟨atOk3, atS3⟩
  · exact ⟨atOk4, atS4⟩
theorem le_all {m r : Nat} (hm : 1 ≤ m ∧ m ≤ 3) (hr : r < m) : POk (leP m r) ∧ ∀ k, Cnt k 1 → Solves (leP m r) (m + 2) ⟨[1], (r : Int), (m : Int)⟩ k := by
  have : (m = 1 ∧ r = 0) ∨ (m = 2 ∧ r = 0) ∨ (m = 2 ∧ r = 1) ∨ (m = 3 ∧ r = 0) ∨ (m = 3 ∧ r = 1) ∨ (m = 3 ∧ r = 2) := by omega
  rcases this with ⟨rfl, rfl⟩ | ⟨rfl, rfl⟩ | ⟨rfl, rfl⟩ | ⟨rfl, rfl⟩ | ⟨rfl, rfl⟩ | ⟨rfl, rfl⟩
  · exact ⟨leOk10, leS10⟩
  · exact ⟨leOk20, leS20⟩
  · exact ⟨leOk21, leS21⟩
  · exact ⟨leOk30, leS30⟩
  · exact ⟨leOk31, leS31⟩
  · exact ⟨leOk32, leS32⟩
theorem PV.set25 {H : Hp} {D : Nat} {x : Bool} {cs : List Value} {o : Rx.Obj} {v : Value} {p : Prot} (hD : H.at D = some (.row 25 x cs)) (k : PV H v p) : PV (H.set D o) v p := by
  obtain ⟨vo, vs, vr, e, h1, h2, h3⟩ := k
  have b : ∀ {v : Value} {l : List Int}, LV H v l → LV (H.set D o) v l := by
    rintro v l (h | ⟨r, e, h, x, hr⟩)
    · exact .inl h
    · exact .inr ⟨r, e, h, x, by rw [Hp.at_set_ne _ (fun e2 => by subst e2; rw [hD] at hr; cases hr)]; exact hr⟩
  refine ⟨vo, vs, vr, e, b h1, b h2, ?_⟩
  obtain ⟨h4, h5⟩ := h3
  refine ⟨h4, ?_⟩
  rcases h5 with h | ⟨r, e, h, x, hr⟩
  · exact .inl h
  · exact .inr ⟨r, e, h, x, by rw [Hp.at_set_ne _ (fun e2 => by subst e2; rw [hD] at hr; cases hr)]; exact hr⟩
attribute [local irreducible] E idxN cellAt cellsAt storeAt callable helems hmoved lookIn findKey keyOk hentries Hp.at Hp.set Hp.lay arBits hupdated setAt CallP YieldP BoolOf IsWrap Rnd LoopP AppP CutP Int.tmod Int.tdiv Int.fdiv
section
variable [Unknowns]
attribute [local irreducible] ResP sameAt finP
theorem AtLeast_spec (m : Nat) (hm : 1 ≤ m ∧ m ≤ 4) (h : Hp) : CallP E 56 [int m] h (fun v h' => (∃ w, v = .tuple ⟨[w, int 0]⟩ ∧ PV h' w (atP m)) ∧ Grows h h') := by
  have a0 : (h.lay (.row 25 true [int 0, nilS, nilS, nilS])).at h.next = some (.row 25 true [int 0, nilS, nilS, nilS]) := Hp.at_lay_self _ _
  refine enter56 (by simp) ?_
  conv => whnf
  refine SeqP.go ?_
  conv => whnf
  refine SeqP.cut (α := Hp) (fun s => [(2, ptr h.next 0), (0, int m)]) (fun s H => s = H ∧ s.at h.next = some (.row 25 true [int 0, nilS, nilS, nilS]) ∧ Grows h s) ?_ ?_
  · conv => whnf
    repeat (refine SeqP.go ?_; conv => whnf)
    refine CallP.mono (within_spec 1 4 _ [(m : Int)] _ (one_ints _ _) (by simp)) ?_
    rintro r1 _ ⟨er, rfl⟩
    rw [decide_eq_true (by intro x hx; rw [List.mem_singleton.1 hx]; omega)] at er
    subst er
    conv => whnf
    repeat (refine SeqP.go ?_; conv => whnf)
    exact ⟨_, ⟨rfl, rfl, trivial⟩, ⟨rfl, Hp.at_lay_old _ a0, (Grows.lay _ _).then_lay _⟩, rfl⟩
  rintro H1 φ1 _ ⟨rfl, a1, g1⟩
  conv => whnf
  repeat (refine SeqP.go ?_; conv => whnf)
  refine CallP.mono (atLeast_spec m hm _) ?_
  rintro v H2 ⟨hx, g2⟩
  obtain ⟨v1, v2, v3, rfl, e1, e2, e3⟩ := id hx
  obtain ⟨w1, rfl⟩ := e1.known
  obtain ⟨w2, rfl⟩ := e2.known
  obtain ⟨w3, rfl, -⟩ := e3.slice
  unfold pval at hx ⊢
  have a2 := g2.at_ _ _ a1
  conv => whnf
  refine ⟨rfl, _, storeAt_full (vs := [int (atP m).n, .slice w1 (atP m).out.length (atP m).out.length, .slice w2 (atP m).start.length (atP m).start.length, .slice w3 (atP m).rules.length (atP m).rules.length]) a2 rfl rfl rfl, ?_⟩
  conv => whnf
  repeat (refine SeqP.go ?_; conv => whnf)
  obtain ⟨i25, t25, ag25, sz25⟩ := ty25
  exact leave_cell2 rfl rfl rfl t25 ag25 (by rw [sz25]; exact all_cells (Hp.at_set_self _ (Hp.lt_of_at a2)) rfl) ⟨⟨_, rfl, hx.set25 a2⟩, (g1.trans g2).then_set _ (Nat.le_refl _)⟩
theorem Leaves_spec (m r : Nat) (hm : 1 ≤ m ∧ m ≤ 3) (hr : r < m) (h : Hp) : CallP E 57 [int m, int r] h (fun v h' => (∃ w, v = .tuple ⟨[w, int 0]⟩ ∧ PV h' w (leP m r)) ∧ Grows h h') := by
  have a0 : (h.lay (.row 25 true [int 0, nilS, nilS, nilS])).at h.next = some (.row 25 true [int 0, nilS, nilS, nilS]) := Hp.at_lay_self _ _
  refine enter57 (by simp) ?_
  conv => whnf
  refine SeqP.go ?_
  conv => whnf
  refine SeqP.cut (α := Hp) (fun s => [(4, ptr h.next 0), (0, int m), (1, int r)]) (fun s H => s = H ∧ s.at h.next = some (.row 25 true [int 0, nilS, nilS, nilS]) ∧ Grows h s) ?_ ?_
  · conv => whnf
    repeat (refine SeqP.go ?_; conv => whnf)
    refine CallP.mono (within_spec 1 3 _ [(m : Int)] _ (one_ints _ _) (by simp)) ?_
    rintro r1 _ ⟨er, rfl⟩
    rw [decide_eq_true (by intro x hx; rw [List.mem_singleton.1 hx]; omega)] at er
    subst er
    conv => whnf
    refine ⟨(m : Int) - 1, wid (by omega), ?_⟩
    conv => whnf
    refine CallP.mono (within_spec 0 ((m : Int) - 1) _ [(r : Int)] _ (one_ints _ _) (by simp)) ?_
    rintro r1 _ ⟨er, rfl⟩
    rw [decide_eq_true (by intro x hx; rw [List.mem_singleton.1 hx]; omega)] at er
    subst er
    conv => whnf
    repeat (refine SeqP.go ?_; conv => whnf)
    exact ⟨_, ⟨rfl, rfl, rfl, trivial⟩, ⟨rfl, Hp.at_lay_old _ (Hp.at_lay_old _ a0), ((Grows.lay _ _).then_lay _).then_lay _⟩, rfl⟩
  rintro H1 φ1 _ ⟨rfl, a1, g1⟩
  conv => whnf
  repeat (refine SeqP.go ?_; conv => whnf)
  refine CallP.mono (leaves_spec m r hm hr _) ?_
  rintro v H2 ⟨hx, g2⟩
  obtain ⟨v1, v2, v3, rfl, e1, e2, e3⟩ := id hx
  obtain ⟨w1, rfl⟩ := e1.known
  obtain ⟨w2, rfl⟩ := e2.known
  obtain ⟨w3, rfl, -⟩ := e3.slice
  unfold pval at hx ⊢
  have a2 := g2.at_ _ _ a1
  conv => whnf
  refine ⟨rfl, _, storeAt_full (vs := [int (leP m r).n, .slice w1 (leP m r).out.length (leP m r).out.length, .slice w2 (leP m r).start.length (leP m r).start.length, .slice w3 (leP m r).rules.length (leP m r).rules.length]) a2 rfl rfl rfl, ?_⟩
  conv => whnf
  repeat (refine SeqP.go ?_; conv => whnf)
  obtain ⟨i25, t25, ag25, sz25⟩ := ty25
  exact leave_cell2 rfl rfl rfl t25 ag25 (by rw [sz25]; exact all_cells (Hp.at_set_self _ (Hp.lt_of_at a2)) rfl) ⟨⟨_, rfl, hx.set25 a2⟩, (g1.trans g2).then_set _ (Nat.le_refl _)⟩
end
end Go.Proofs.Ytpiplaicnbapbaa
namespace Go.Proofs.Ytpiplaicnbapbaa
open Go.Rx Go.RowKit
def noP : Value := pval 0 (.slice none 0 0) (.slice none 0 0) (.slice none 0 0)
attribute [local irreducible] E idxN cellAt cellsAt storeAt callable helems hmoved lookIn findKey keyOk hentries Hp.at Hp.set Hp.lay arBits hupdated setAt CallP YieldP BoolOf IsWrap Rnd LoopP AppP CutP Int.tmod Int.tdiv Int.fdiv
section
variable [Unknowns]
attribute [local irreducible] ResP sameAt finP
theorem AtLeast_bad (m : Int) (wm : InR m) (hm : ¬ (1 ≤ m ∧ m ≤ 4)) (h : Hp) : CallP E 56 [int m] h (fun v h' => v = .tuple ⟨[noP, int 1]⟩ ∧ Grows h h') := by
  have a0 : (h.lay (.row 25 true [int 0, nilS, nilS, nilS])).at h.next = some (.row 25 true [int 0, nilS, nilS, nilS]) := Hp.at_lay_self _ _
  refine enter56 (by simp) ?_
  conv => whnf
  refine SeqP.go ?_
  conv => whnf
  refine SeqP.go ?_
  conv => whnf
  repeat (refine SeqP.go ?_; conv => whnf)
  refine CallP.mono (within_spec 1 4 _ [(m : Int)] _ (one_ints _ _) (by simp)) ?_
  rintro r1 _ ⟨er, rfl⟩
  rw [decide_eq_false (by intro h; have := h m (by simp); omega)] at er
  subst er
  have a1 := Hp.at_lay_old (.row 3 true [int m]) a0
  conv => whnf
  repeat (refine SeqP.go ?_; conv => whnf)
  refine ⟨rfl, _, storeAt_full (vs := [int 0, nilS, nilS, nilS]) a1 rfl rfl rfl, ?_⟩
  conv => whnf
  repeat (refine SeqP.go ?_; conv => whnf)
  obtain ⟨i25, t25, ag25, sz25⟩ := ty25
  exact leave_cell2 rfl rfl rfl t25 ag25 (by rw [sz25]; exact all_cells (Hp.at_set_self _ (Hp.lt_of_at a1)) rfl) ⟨rfl, ((Grows.lay _ _).then_lay _).then_set _ (Nat.le_refl _)⟩
theorem Leaves_bad (m r : Int) (wm : InR m) (wr : InR r) (hm : ¬ ((1 ≤ m ∧ m ≤ 3) ∧ 0 ≤ r ∧ r < m)) (h : Hp) : CallP E 57 [int m, int r] h (fun v h' => v = .tuple ⟨[noP, int 1]⟩ ∧ Grows h h') := by
  have a0 : (h.lay (.row 25 true [int 0, nilS, nilS, nilS])).at h.next = some (.row 25 true [int 0, nilS, nilS, nilS]) := Hp.at_lay_self _ _
  refine enter57 (by simp) ?_
  conv => whnf
  refine SeqP.go ?_
  conv => whnf
  refine SeqP.go ?_
  conv => whnf
  repeat (refine SeqP.go ?_; conv => whnf)
  refine CallP.mono (within_spec 1 3 _ [(m : Int)] _ (one_ints _ _) (by simp)) ?_
  rintro r1 _ ⟨er, rfl⟩
  have a1 := Hp.at_lay_old (.row 3 true [int m]) a0
  obtain ⟨i25, t25, ag25, sz25⟩ := ty25
  by_cases h3 : 1 ≤ m ∧ m ≤ 3
  · rw [decide_eq_true (by intro x hx; rw [List.mem_singleton.1 hx]; omega)] at er
    subst er
    have a2 := Hp.at_lay_old (.row 3 true [int r]) a1
    conv => whnf
    refine ⟨m - 1, wid (by omega), ?_⟩
    conv => whnf
    refine CallP.mono (within_spec 0 (m - 1) _ [(r : Int)] _ (one_ints _ _) (by simp)) ?_
    rintro r1 _ ⟨er, rfl⟩
    rw [decide_eq_false (by intro h; have := h r (by simp); omega)] at er
    subst er
    conv => whnf
    repeat (refine SeqP.go ?_; conv => whnf)
    refine ⟨rfl, _, storeAt_full (vs := [int 0, nilS, nilS, nilS]) a2 rfl rfl rfl, ?_⟩
    conv => whnf
    repeat (refine SeqP.go ?_; conv => whnf)
    exact leave_cell2 rfl rfl rfl t25 ag25 (by rw [sz25]; exact all_cells (Hp.at_set_self _ (Hp.lt_of_at a2)) rfl) ⟨rfl, (((Grows.lay _ _).then_lay _).then_lay _).then_set _ (Nat.le_refl _)⟩
  · rw [decide_eq_false (by intro h; have := h m (by simp); omega)] at er
    subst er
    conv => whnf
    repeat (refine SeqP.go ?_; conv => whnf)
    refine ⟨rfl, _, storeAt_full (vs := [int 0, nilS, nilS, nilS]) a1 rfl rfl rfl, ?_⟩
    conv => whnf
    repeat (refine SeqP.go ?_; conv => whnf)
    exact leave_cell2 rfl rfl rfl t25 ag25 (by rw [sz25]; exact all_cells (Hp.at_set_self _ (Hp.lt_of_at a1)) rfl) ⟨rfl, ((Grows.lay _ _).then_lay _).then_set _ (Nat.le_refl _)⟩
end
end Go.Proofs.Ytpiplaicnbapbaa
namespace Go.Proofs.Ytpiplaicnbapbaa
open Go.Rx Go.RowKit
theorem under86 : Try.prog.underlying 86 = some (.array 3 3) := Try.underlying86
theorem three_arg {ts : List Tr} (hy : TyT Try.prog 86 ts) : ∃ a b c : Int, InR a ∧ InR b ∧ InR c ∧ ∀ h v, AbsT h v (.ag ts) → v = .agg ⟨[int a, int b, int c]⟩ := by
  obtain ⟨hl, hx⟩ := ty_array under86 hy
  have hl : ts.length = 3 := hl.trans (by kernel_rfl)
  have f0 := hx 0 (by omega)
  have f1 := hx 1 (by omega)
  have f2 := hx 2 (by omega)
  rw [cells3] at f0 f1 f2
  match ts, hl with
  | [t0, t1, t2], _ =>
  obtain ⟨a, e0, r0⟩ := ty_num under3 f0
  obtain ⟨b, e1, r1⟩ := ty_num under3 f1
  obtain ⟨c, e2, r2⟩ := ty_num under3 f2
  cases e0
  cases e1
  cases e2
  refine ⟨a, b, c, r0, r1, r2, fun h v k => ?_⟩
  obtain ⟨vs, rfl, hvl, hk⟩ := ag_inv k
  match vs, hvl with
  | [v0, v1, v2], _ =>
    have k0 := hk 0 v0 _ rfl rfl
    have k1 := hk 1 v1 _ rfl rfl
    have k2 := hk 2 v2 _ rfl rfl
    cases k0
    cases k1
    cases k2
    rfl
theorem LV.setT {H : Hp} {D t : Nat} {x : Bool} {cs : List Value} {o : Rx.Obj} {v : Value} {l : List Int} (hD : H.at D = some (.row t x cs)) (ht : t ≠ 3) (k : LV H v l) : LV (H.set D o) v l := by
  rcases k with h | ⟨r, e, h, x, hr⟩
  · exact .inl h
  · exact .inr ⟨r, e, h, x, by rw [Hp.at_set_ne _ (fun e2 => by subst e2; rw [hD] at hr; cases hr; exact ht rfl)]; exact hr⟩
theorem POk.own {p : Prot} (h : POk p) : (⟨p.n, p.out.take 6, p.start.take 3, p.rules.take 16⟩ : Prot) = p := by
  have h1 := h.outl
  have h2 := h.n5
  have h3 := h.st2
  have h4 := h.rl
  rw [List.take_of_length_le (by omega), List.take_of_length_le (by omega), List.take_of_length_le (by omega)]
theorem want_yes {p : Prot} {n : Nat} {q : Quest} {k : List Int} {b : Bool} (hs : Solves p n q k) (hb : ∀ on, Want q k on → BoolOf b (DeciC p.rules p.out on (crs n p.start k k.length))) : b = true := by
  obtain ⟨on, hw⟩ := want_ex q k
  exact (hb on hw).2 (hs on hw)
attribute [local irreducible] E idxN cellAt cellsAt storeAt callable helems hmoved lookIn findKey keyOk hentries Hp.at Hp.set Hp.lay arBits hupdated setAt CallP YieldP BoolOf IsWrap Rnd LoopP AppP CutP Int.tmod Int.tdiv Int.fdiv
section
variable [Unknowns]
attribute [local irreducible] ResP sameAt
theorem makes_law (a0 : Int) (w0 : InR a0) (a1 : Int) (w1 : InR a1) (ts2 : List Tr) (hy2 : TyT Try.prog 86 ts2) : ∀ h vs, AllT h vs [.num a0, .num a1, .ag ts2] → CallP E 11 vs h (fun r _ => r = .bool true) := by
  intro h vs hvs
  match vs, hvs with
  | [v0, v1, v2], hvs =>
  obtain ⟨k0, k1, k2, -⟩ := hvs
  cases k0
  cases k1
  obtain ⟨x0, x1, x2, r0, r1, r2, hx⟩ := three_arg hy2
  have ev := hx h v2 k2
  subst ev
  refine enter11 (by simp) ?_
  conv => whnf
  refine SeqP.go ?_
  conv => whnf
  have hB0 : (h.lay (.row 86 true [int x0, int x1, int x2])).at h.next = some (.row 86 true [int x0, int x1, int x2]) := Hp.at_lay_self _ _
  refine SeqP.cut (α := Option Addr × Int × Hp) (fun s => [(7, .slice s.1 1 1), (5, ptr h.next 0), (0, int a0), (1, int a1)]) (fun s H => s.2.2 = H ∧ (1 ≤ s.2.1 ∧ s.2.1 ≤ 9) ∧ LV s.2.2 (.slice s.1 1 1) [s.2.1] ∧ s.2.2.at h.next = some (.row 86 true [int x0, int x1, int x2])) ?_ ?_
  · have hux := u64_of x1
    obtain ⟨u, u0, u1, hu⟩ := hux
    have e1 := tmod_bd u0 (show (0 : Int) < 9 by omega)
    have hexk : ∃ k : Int, u.tmod 9 = k := ⟨_, rfl⟩
    obtain ⟨k, ek⟩ := hexk
    rw [ek] at e1
    conv => whnf
    refine ⟨⟨by omega, by omega⟩, ?_⟩
    conv => whnf
    refine ⟨_, cellAt_row hB0 rfl, ?_⟩
    conv => whnf
    refine ⟨u, hu, ?_⟩
    conv => whnf
    refine ⟨by omega, ?_⟩
    conv => whnf
    refine ⟨k, wie ek (by omega), ?_⟩
    conv => whnf
    refine ⟨1 + k, wid (by omega), ?_⟩
    conv => whnf
    exact ⟨(some ⟨_, 0, none⟩, 1 + k, _), ⟨rfl, rfl, rfl, rfl, trivial⟩, ⟨rfl, ⟨by show 1 ≤ 1 + k; omega, by show 1 + k ≤ 9; omega⟩, .inr ⟨_, rfl, Nat.zero_le _, true, Hp.at_lay_self _ _⟩, Hp.at_lay_old _ hB0⟩, rfl⟩
  rintro ⟨ak, k1, H0⟩ φ1 _ ⟨rfl, hk1, hkv, hB⟩
  dsimp only at hk1 hkv hB ⊢
  have hC1 : Cnt [k1] 1 := ⟨rfl, fun x hx => by rw [List.mem_singleton.1 hx]; omega, by show 1 ≤ k1 + 0; omega, by show k1 + 0 ≤ 9; omega⟩
  have lv1 : ∀ (H : Hp) (n : Int), LV (H.lay (.row 3 true [int n])) (slc H.next 0 1 1) [n] := fun H n => .inr ⟨H.next, rfl, Nat.zero_le _, true, Hp.at_lay_self _ _⟩
  conv => whnf
  refine SeqP.cut (α := Int × Hp) (fun s => [(5, ptr h.next 0)]) (fun s H => s.2 = H ∧ s.2.at h.next = some (.row 86 true [int s.1, int x1, int x2])) ?_ ?_
  · conv => whnf
    repeat (refine SeqP.go ?_; conv => whnf)
    refine loop_inv (α := Nat × Int × Int × Int × Hp) (fun s => [(8, int s.1), (0, int s.2.1), (1, int s.2.2.1), (7, .slice ak 1 1), (5, ptr h.next 0)]) (fun s => s.2.2.2.2) (fun s => s.1 ≤ 2 ∧ InR s.2.1 ∧ InR s.2.2.1 ∧ InR s.2.2.2.1 ∧ s.2.2.2.2.at h.next = some (.row 86 true [int s.2.2.2.1, int x1, int x2]) ∧ LV s.2.2.2.2 (.slice ak 1 1) [k1]) (fun s => 2 - s.1) (0, a0, a1, x0, H0) ⟨Nat.zero_le _, w0, w1, r0, hB, hkv⟩ ⟨rfl, rfl, rfl, rfl, rfl, trivial⟩ (Hp.Le.refl _) ?_
    clear hB hkv
    rintro ⟨i, M, m, o, H⟩ φ2 ⟨hi, hM, hm, ho, hB, hkv⟩
    dsimp only at hi hM hm ho hB hkv ⊢
    conv => whnf
    repeat (refine SeqP.go ?_; conv => whnf)
    refine cmpB (fun c1 => ?_) (fun c1 => ?_)
    rotate_left
    · conv => whnf
      exact ⟨(o, H), ⟨rfl, trivial⟩, ⟨rfl, hB⟩, rfl⟩
    conv => whnf
    refine SeqP.cut (α := Int × Int × Int × Hp) (fun s => [(8, int i), (0, int s.1), (1, int s.2.1), (7, .slice ak 1 1), (5, ptr h.next 0)]) (fun s H' => s.2.2.2 = H' ∧ InR s.1 ∧ InR s.2.1 ∧ InR s.2.2.1 ∧ s.2.2.2.at h.next = some (.row 86 true [int s.2.2.1, int x1, int x2]) ∧ LV s.2.2.2 (.slice ak 1 1) [k1]) ?_ ?_
    rotate_left
    · rintro ⟨M', m', o', H'⟩ φ7 _ ⟨rfl, q1, q2, q3, q4, q5⟩
      dsimp only at q1 q2 q3 q4 q5 ⊢
      conv => whnf
      refine ⟨((i + 1 : Nat) : Int), wie (by omega) (by omega), ?_⟩
      conv => whnf
      exact Rnd.mk (i + 1, M', m', o', H') ⟨by show i + 1 ≤ 2; omega, q1, q2, q3, q4, q5⟩ (by show 2 - (i + 1) < 2 - i; omega) ⟨rfl, rfl, rfl, rfl, rfl, trivial⟩ (Hp.Le.refl _) rfl
    unfold InR at hM hm ho
    conv => whnf
    refine SeqP.cut (α := List Value × Int × Hp × Nat) (fun s => [(9, ptr s.2.2.2 0), (10, int s.2.1), (8, int i), (0, int M), (1, int m), (7, .slice ak 1 1), (5, ptr h.next 0)]) (fun s H' => s.2.2.1 = H' ∧ Grows H s.2.2.1 ∧ s.2.2.1.at s.2.2.2 = some (.row 25 true s.1) ∧ s.1.length = 4 ∧ ((1 ≤ M ∧ M ≤ 4) ∧ s.2.1 = 0 ∧ PV s.2.2.1 (.agg ⟨s.1⟩) (atP M.toNat) ∨ ¬ (1 ≤ M ∧ M ≤ 4) ∧ s.2.1 = 1 ∧ s.1 = [int 0, .slice none 0 0, .slice none 0 0, .slice none 0 0])) ?_ ?_
    · by_cases hgood : 1 ≤ M ∧ M ≤ 4
      · have hMc : ∃ M' : Nat, M = (M' : Int) := ⟨M.toNat, by omega⟩
        obtain ⟨M', rfl⟩ := hMc
        conv => whnf
        refine CallP.mono (AtLeast_spec M' (by omega) _) ?_
        rintro r1 H1 ⟨⟨w, rfl, hx⟩, g1⟩
        obtain ⟨v1, v2, v3, rfl, e1, e2, e3⟩ := id hx
        obtain ⟨w1, rfl⟩ := e1.known
        obtain ⟨w2, rfl⟩ := e2.known
        obtain ⟨w3, rfl, -⟩ := e3.slice
        unfold pval at hx ⊢
        conv => whnf
        refine ⟨rfl, _, storeAt_all (vs := [int (atP M').n, .slice w1 (atP M').out.length (atP M').out.length, .slice w2 (atP M').start.length (atP M').start.length, .slice w3 (atP M').rules.length (atP M').rules.length]) rfl rfl rfl, ?_⟩
        conv => whnf
        exact ⟨([int (atP M').n, .slice w1 (atP M').out.length (atP M').out.length, .slice w2 (atP M').start.length (atP M').start.length, .slice w3 (atP M').rules.length (atP M').rules.length], 0, _, H1.next), ⟨rfl, rfl, rfl, rfl, rfl, rfl, rfl, trivial⟩, ⟨rfl, g1.then_lay _, Hp.at_lay_self _ _, rfl, .inl ⟨hgood, rfl, hx.ext (Grows.lay _ _)⟩⟩, rfl⟩
      · conv => whnf
        refine CallP.mono (AtLeast_bad M hM hgood _) ?_
        rintro r1 H1 ⟨rfl, g1⟩
        unfold noP pval
        conv => whnf
        refine ⟨rfl, _, storeAt_all (vs := [int 0, .slice none 0 0, .slice none 0 0, .slice none 0 0]) rfl rfl rfl, ?_⟩
        conv => whnf
        exact ⟨([int 0, .slice none 0 0, .slice none 0 0, .slice none 0 0], 1, _, H1.next), ⟨rfl, rfl, rfl, rfl, rfl, rfl, rfl, trivial⟩, ⟨rfl, g1.then_lay _, Hp.at_lay_self _ _, rfl, .inr ⟨hgood, rfl, rfl⟩⟩, rfl⟩
    rintro ⟨bs, e, H1, X⟩ φ3 _ ⟨rfl, g1, hX, hbs, hcase⟩
    dsimp only at g1 hX hbs hcase ⊢
    conv => whnf
    refine SeqP.cut (α := Hp) (fun s => [(8, int i), (0, int M), (1, int m), (7, .slice ak 1 1), (5, ptr h.next 0)]) (fun s H' => s = H' ∧ Grows H s) ?_ ?_
    · rcases hcase with ⟨hgood, rfl, hpv⟩ | ⟨hgood, rfl, rfl⟩
      rotate_left
      · conv => whnf
        repeat (refine SeqP.go ?_; conv => whnf)
        refine cmpB (fun c2 => ?_) (fun c2 => ?_)
        · conv => whnf
          repeat (refine SeqP.go ?_; conv => whnf)
          refine cmpF (by omega) ?_
          conv => whnf
          refine ⟨_, cellAt_row hX rfl, ?_⟩
          conv => whnf
          refine cmpF (by omega) ?_
          conv => whnf
          refine ⟨_, cellAt_row hX rfl, ?_⟩
          conv => whnf
          refine ⟨_, cellAt_row hX rfl, ?_⟩
          conv => whnf
          refine ⟨0, wid (by omega), ?_⟩
          conv => whnf
          refine ⟨_, cellAt_row hX rfl, ?_⟩
          conv => whnf
          refine ⟨0, wid (by omega), ?_⟩
          conv => whnf
          refine cmpF (by omega) ?_
          conv => whnf
          repeat (refine SeqP.go ?_; conv => whnf)
          exact ⟨H1, ⟨rfl, rfl, rfl, rfl, rfl, trivial⟩, ⟨rfl, g1⟩, rfl⟩
        conv => whnf
        refine cmpT (by omega) ?_
        conv => whnf
        repeat (refine SeqP.go ?_; conv => whnf)
        refine cmpF (by omega) ?_
        conv => whnf
        refine ⟨_, cellAt_row hX rfl, ?_⟩
        conv => whnf
        refine cmpF (by omega) ?_
        conv => whnf
        refine ⟨_, cellAt_row hX rfl, ?_⟩
        conv => whnf
        refine ⟨_, cellAt_row hX rfl, ?_⟩
        conv => whnf
        refine ⟨0, wid (by omega), ?_⟩
        conv => whnf
        refine ⟨_, cellAt_row hX rfl, ?_⟩
        conv => whnf
        refine ⟨0, wid (by omega), ?_⟩
        conv => whnf
        refine cmpF (by omega) ?_
        conv => whnf
        repeat (refine SeqP.go ?_; conv => whnf)
        exact ⟨H1, ⟨rfl, rfl, rfl, rfl, rfl, trivial⟩, ⟨rfl, g1⟩, rfl⟩
      have hall := at_all (m := M.toNat) (by omega)
      obtain ⟨okA, slA⟩ := hall
      have hq := slA [k1] hC1
      have hown := okA.own
      obtain ⟨bx', ebx, hbx, b0, ⟨za, y2, j1⟩, ⟨zb, y3, j2⟩, ⟨zc, y4, j3⟩, -⟩ := hpv.box
      cases ebx
      conv => whnf
      repeat (refine SeqP.go ?_; conv => whnf)
      refine cmpF (by omega) ?_
      conv => whnf
      refine cmpF (by omega) ?_
      conv => whnf
      refine SeqP.cut (α := List Value × Hp × Nat) (fun s => [(11, ptr s.2.2 0), (9, ptr X 0), (10, int 0), (8, int i), (0, int M), (1, int m), (7, .slice ak 1 1), (5, ptr h.next 0)]) (fun s H' => s.2.1 = H' ∧ Grows H1 s.2.1 ∧ s.2.1.at s.2.2 = some (.row 26 true s.1) ∧ s.1.length = 4 ∧ PV s.2.1 (.agg ⟨s.1⟩) (atP M.toNat)) ?_ ?_
      · conv => whnf
        refine ⟨bs, all_cells hX hbs, ?_⟩
        conv => whnf
        refine CallP.mono (ownX_spec _ _ _ (PX.of hpv) (by have := okA.outl; have := okA.n5; omega) (by have := okA.st2; omega) (by have := okA.rl; omega)) ?_
        rintro r1 H5 ⟨hx, g2⟩
        rw [hown] at hx
        obtain ⟨v1, v2, v3, rfl, e1, e2, e3⟩ := id hx
        obtain ⟨w1, rfl⟩ := e1.known
        obtain ⟨w2, rfl⟩ := e2.known
        obtain ⟨w3, rfl, -⟩ := e3.slice
        unfold pval at hx ⊢
        conv => whnf
        refine ⟨rfl, _, storeAt_all (vs := [int (atP M.toNat).n, .slice w1 (atP M.toNat).out.length (atP M.toNat).out.length, .slice w2 (atP M.toNat).start.length (atP M.toNat).start.length, .slice w3 (atP M.toNat).rules.length (atP M.toNat).rules.length]) rfl rfl rfl, ?_⟩
        conv => whnf
        exact ⟨([int (atP M.toNat).n, .slice w1 (atP M.toNat).out.length (atP M.toNat).out.length, .slice w2 (atP M.toNat).start.length (atP M.toNat).start.length, .slice w3 (atP M.toNat).rules.length (atP M.toNat).rules.length], _, H5.next), ⟨rfl, rfl, rfl, rfl, rfl, rfl, rfl, rfl, trivial⟩, ⟨rfl, g2.then_lay _, Hp.at_lay_self _ _, rfl, hx.ext (Grows.lay _ _)⟩, rfl⟩
      rintro ⟨bo, H5, V⟩ φ4 _ ⟨rfl, g2, hV, hbo, hpo⟩
      dsimp only at g2 hV hbo hpo ⊢
      have hX5 := g2.at_ _ _ hX
      conv => whnf
      repeat (refine SeqP.go ?_; conv => whnf)
      refine cmpF (by omega) ?_
      conv => whnf
      refine ⟨bo, all_cells hV hbo, ?_⟩
      conv => whnf
      refine CallP.mono (RCheck_spec _ _ _ hpo (by have := okA.outl; have := okA.n5; omega) (by have := okA.st2; omega) (by have := okA.rl; omega)) ?_
      rintro r1 H6 ⟨⟨b, rfl, hb⟩, g3⟩
      have eb := bo_same hb (bo_yes okA)
      subst eb
      conv => whnf
      refine ⟨_, cellAt_row (g3.at_ _ _ hX5) y3, ?_⟩
      conv => whnf
      refine cmpF (by show ¬ ((atP M.toNat).start.length : Int) ≠ 1; rw [show (atP M.toNat).start.length = 1 from rfl]; omega) ?_
      conv => whnf
      refine ⟨bo, all_cells (g3.at_ _ _ hV) hbo, ?_⟩
      conv => whnf
      refine CallP.mono (RRight_spec RReached_ok _ _ _ (atP M.toNat) ⟨[1], M, 0⟩ [k1] (M.toNat + 1) _ ((hpo.ext g3).ext (Grows.lay _ _)) ⟨_, rfl, lv1 _ _⟩ ((((hkv.ext g1).ext g2).ext g3).ext (Grows.lay _ _)).ints okA rfl ⟨by show 1 ≤ 1; omega, by show 1 ≤ 2; omega, by intro x hx; have hx := List.mem_singleton.1 hx; omega, by show (-9 : Int) ≤ M ∧ M ≤ 9; omega, by show (0 : Int) ≤ 0 ∧ (0 : Int) ≤ 9; omega⟩ rfl hC1) ?_
      rintro r2 H7 ⟨⟨b, rfl, hb⟩, g4⟩
      have hqs : Solves (atP M.toNat) (M.toNat + 1) ⟨[1], M, 0⟩ [k1] := by
        have e1 : ((M.toNat : Nat) : Int) = M := by omega
        rw [e1] at hq
        exact hq
      have eb : b = true := want_yes hqs hb
      subst eb
      conv => whnf
      repeat (refine SeqP.go ?_; conv => whnf)
      exact ⟨H7, ⟨rfl, rfl, rfl, rfl, rfl, trivial⟩, ⟨rfl, ((g1.trans g2).trans g3).trans ((Grows.lay _ _).trans g4)⟩, rfl⟩
    rintro H2 φ3 _ ⟨rfl, gA⟩
    clear hX hbs hcase g1
    have hB2 := gA.at_ _ _ hB
    conv => whnf
    refine SeqP.cut (α := Unit) (fun s => [(12, int o), (8, int i), (0, int M), (1, int m), (7, .slice ak 1 1), (5, ptr h.next 0)]) (fun s H' => H2 = H') ?_ ?_
    · conv => whnf
      refine ⟨⟨by omega, by omega⟩, ?_⟩
      conv => whnf
      refine ⟨_, cellAt_row hB2 rfl, ?_⟩
      conv => whnf
      exact ⟨(), ⟨rfl, rfl, rfl, rfl, rfl, rfl, trivial⟩, rfl, rfl⟩
    rintro _ φ4 _ rfl
    conv => whnf
    refine SeqP.cut (α := List Value × Int × Hp × Nat) (fun s => [(13, ptr s.2.2.2 0), (14, int s.2.1), (12, int o), (8, int i), (0, int M), (1, int m), (7, .slice ak 1 1), (5, ptr h.next 0)]) (fun s H' => s.2.2.1 = H' ∧ Grows H2 s.2.2.1 ∧ s.2.2.1.at s.2.2.2 = some (.row 25 true s.1) ∧ s.1.length = 4 ∧ (((1 ≤ m ∧ m ≤ 3) ∧ 0 ≤ o ∧ o < m) ∧ s.2.1 = 0 ∧ PV s.2.2.1 (.agg ⟨s.1⟩) (leP m.toNat o.toNat) ∨ ¬ ((1 ≤ m ∧ m ≤ 3) ∧ 0 ≤ o ∧ o < m) ∧ s.2.1 = 1 ∧ s.1 = [int 0, .slice none 0 0, .slice none 0 0, .slice none 0 0])) ?_ ?_
    · by_cases hgood : (1 ≤ m ∧ m ≤ 3) ∧ 0 ≤ o ∧ o < m
      · have hMc : ∃ m' : Nat, m = (m' : Int) := ⟨m.toNat, by omega⟩
        obtain ⟨m', rfl⟩ := hMc
        have hMc : ∃ o' : Nat, o = (o' : Int) := ⟨o.toNat, by omega⟩
        obtain ⟨o', rfl⟩ := hMc
        conv => whnf
        refine CallP.mono (Leaves_spec m' o' (by omega) (by omega) _) ?_
        rintro r1 H1 ⟨⟨w, rfl, hx⟩, g1⟩
        obtain ⟨v1, v2, v3, rfl, e1, e2, e3⟩ := id hx
        obtain ⟨w1, rfl⟩ := e1.known
        obtain ⟨w2, rfl⟩ := e2.known
        obtain ⟨w3, rfl, -⟩ := e3.slice
        unfold pval at hx ⊢
        conv => whnf
        refine ⟨rfl, _, storeAt_all (vs := [int (leP m' o').n, .slice w1 (leP m' o').out.length (leP m' o').out.length, .slice w2 (leP m' o').start.length (leP m' o').start.length, .slice w3 (leP m' o').rules.length (leP m' o').rules.length]) rfl rfl rfl, ?_⟩
        conv => whnf
        exact ⟨([int (leP m' o').n, .slice w1 (leP m' o').out.length (leP m' o').out.length, .slice w2 (leP m' o').start.length (leP m' o').start.length, .slice w3 (leP m' o').rules.length (leP m' o').rules.length], 0, _, H1.next), ⟨rfl, rfl, rfl, rfl, rfl, rfl, rfl, rfl, trivial⟩, ⟨rfl, g1.then_lay _, Hp.at_lay_self _ _, rfl, .inl ⟨hgood, rfl, hx.ext (Grows.lay _ _)⟩⟩, rfl⟩
      · conv => whnf
        refine CallP.mono (Leaves_bad m o hm ho hgood _) ?_
        rintro r1 H1 ⟨rfl, g1⟩
        unfold noP pval
        conv => whnf
        refine ⟨rfl, _, storeAt_all (vs := [int 0, .slice none 0 0, .slice none 0 0, .slice none 0 0]) rfl rfl rfl, ?_⟩
        conv => whnf
        exact ⟨([int 0, .slice none 0 0, .slice none 0 0, .slice none 0 0], 1, _, H1.next), ⟨rfl, rfl, rfl, rfl, rfl, rfl, rfl, rfl, trivial⟩, ⟨rfl, g1.then_lay _, Hp.at_lay_self _ _, rfl, .inr ⟨hgood, rfl, rfl⟩⟩, rfl⟩
    rintro ⟨bs, e, H3, X⟩ φ3 _ ⟨rfl, g1, hX, hbs, hcase⟩
    dsimp only at g1 hX hbs hcase ⊢
    conv => whnf
    refine SeqP.cut (α := Hp) (fun s => [(12, int o), (8, int i), (0, int M), (1, int m), (7, .slice ak 1 1), (5, ptr h.next 0)]) (fun s H' => s = H' ∧ Grows H2 s) ?_ ?_
    · rcases hcase with ⟨hgood, rfl, hpv⟩ | ⟨hgood, rfl, rfl⟩
      rotate_left
      · conv => whnf
        repeat (refine SeqP.go ?_; conv => whnf)
        refine cmpB (fun c2 => ?_) (fun c2 => ?_)
        · conv => whnf
          repeat (refine SeqP.go ?_; conv => whnf)
          refine cmpF (by omega) ?_
          conv => whnf
          refine ⟨_, cellAt_row hX rfl, ?_⟩
          conv => whnf
          refine cmpF (by omega) ?_
          conv => whnf
          refine ⟨_, cellAt_row hX rfl, ?_⟩
          conv => whnf
          refine ⟨_, cellAt_row hX rfl, ?_⟩
          conv => whnf
          refine ⟨0, wid (by omega), ?_⟩
          conv => whnf
          refine ⟨_, cellAt_row hX rfl, ?_⟩
          conv => whnf
          refine ⟨0, wid (by omega), ?_⟩
          conv => whnf
          refine cmpF (by omega) ?_
          conv => whnf
          repeat (refine SeqP.go ?_; conv => whnf)
          exact ⟨H3, ⟨rfl, rfl, rfl, rfl, rfl, rfl, trivial⟩, ⟨rfl, g1⟩, rfl⟩
        conv => whnf
        refine cmpB (fun c3 => ?_) (fun c3 => ?_)
        · conv => whnf
          repeat (refine SeqP.go ?_; conv => whnf)
          refine cmpF (by omega) ?_
          conv => whnf
          refine ⟨_, cellAt_row hX rfl, ?_⟩
          conv => whnf
          refine cmpF (by omega) ?_
          conv => whnf
          refine ⟨_, cellAt_row hX rfl, ?_⟩
          conv => whnf
          refine ⟨_, cellAt_row hX rfl, ?_⟩
          conv => whnf
          refine ⟨0, wid (by omega), ?_⟩
          conv => whnf
          refine ⟨_, cellAt_row hX rfl, ?_⟩
          conv => whnf
          refine ⟨0, wid (by omega), ?_⟩
          conv => whnf
          refine cmpF (by omega) ?_
          conv => whnf
          repeat (refine SeqP.go ?_; conv => whnf)
          exact ⟨H3, ⟨rfl, rfl, rfl, rfl, rfl, rfl, trivial⟩, ⟨rfl, g1⟩, rfl⟩
        conv => whnf
        refine cmpB (fun c4 => ?_) (fun c4 => ?_)
        · conv => whnf
          repeat (refine SeqP.go ?_; conv => whnf)
          refine cmpF (by omega) ?_
          conv => whnf
          refine ⟨_, cellAt_row hX rfl, ?_⟩
          conv => whnf
          refine cmpF (by omega) ?_
          conv => whnf
          refine ⟨_, cellAt_row hX rfl, ?_⟩
          conv => whnf
          refine ⟨_, cellAt_row hX rfl, ?_⟩
          conv => whnf
          refine ⟨0, wid (by omega), ?_⟩
          conv => whnf
          refine ⟨_, cellAt_row hX rfl, ?_⟩
          conv => whnf
          refine ⟨0, wid (by omega), ?_⟩
          conv => whnf
          refine cmpF (by omega) ?_
          conv => whnf
          repeat (refine SeqP.go ?_; conv => whnf)
          exact ⟨H3, ⟨rfl, rfl, rfl, rfl, rfl, rfl, trivial⟩, ⟨rfl, g1⟩, rfl⟩
        conv => whnf
        refine cmpT (by omega) ?_
        conv => whnf
        repeat (refine SeqP.go ?_; conv => whnf)
        refine cmpF (by omega) ?_
        conv => whnf
        refine ⟨_, cellAt_row hX rfl, ?_⟩
        conv => whnf
        refine cmpF (by omega) ?_
        conv => whnf
        refine ⟨_, cellAt_row hX rfl, ?_⟩
        conv => whnf
        refine ⟨_, cellAt_row hX rfl, ?_⟩
        conv => whnf
        refine ⟨0, wid (by omega), ?_⟩
        conv => whnf
        refine ⟨_, cellAt_row hX rfl, ?_⟩
        conv => whnf
        refine ⟨0, wid (by omega), ?_⟩
        conv => whnf
        refine cmpF (by omega) ?_
        conv => whnf
        repeat (refine SeqP.go ?_; conv => whnf)
        exact ⟨H3, ⟨rfl, rfl, rfl, rfl, rfl, rfl, trivial⟩, ⟨rfl, g1⟩, rfl⟩
      have hall := le_all (m := m.toNat) (r := o.toNat) (by omega) (by omega)
      obtain ⟨okA, slA⟩ := hall
      have hq := slA [k1] hC1
      have hown := okA.own
      obtain ⟨bx', ebx, hbx, b0, ⟨za, y2, j1⟩, ⟨zb, y3, j2⟩, ⟨zc, y4, j3⟩, -⟩ := hpv.box
      cases ebx
      conv => whnf
      repeat (refine SeqP.go ?_; conv => whnf)
      refine cmpF (by omega) ?_
      conv => whnf
      refine cmpF (by omega) ?_
      conv => whnf
      refine cmpF (by omega) ?_
      conv => whnf
      refine cmpF (by omega) ?_
      conv => whnf
      refine SeqP.cut (α := List Value × Hp × Nat) (fun s => [(15, ptr s.2.2 0), (13, ptr X 0), (14, int 0), (12, int o), (8, int i), (0, int M), (1, int m), (7, .slice ak 1 1), (5, ptr h.next 0)]) (fun s H' => s.2.1 = H' ∧ Grows H3 s.2.1 ∧ s.2.1.at s.2.2 = some (.row 26 true s.1) ∧ s.1.length = 4 ∧ PV s.2.1 (.agg ⟨s.1⟩) (leP m.toNat o.toNat)) ?_ ?_
      · conv => whnf
        refine ⟨bs, all_cells hX hbs, ?_⟩
        conv => whnf
        refine CallP.mono (ownX_spec _ _ _ (PX.of hpv) (by have := okA.outl; have := okA.n5; omega) (by have := okA.st2; omega) (by have := okA.rl; omega)) ?_
        rintro r1 H5 ⟨hx, g2⟩
        rw [hown] at hx
        obtain ⟨v1, v2, v3, rfl, e1, e2, e3⟩ := id hx
        obtain ⟨w1, rfl⟩ := e1.known
        obtain ⟨w2, rfl⟩ := e2.known
        obtain ⟨w3, rfl, -⟩ := e3.slice
        unfold pval at hx ⊢
        conv => whnf
        refine ⟨rfl, _, storeAt_all (vs := [int (leP m.toNat o.toNat).n, .slice w1 (leP m.toNat o.toNat).out.length (leP m.toNat o.toNat).out.length, .slice w2 (leP m.toNat o.toNat).start.length (leP m.toNat o.toNat).start.length, .slice w3 (leP m.toNat o.toNat).rules.length (leP m.toNat o.toNat).rules.length]) rfl rfl rfl, ?_⟩
        conv => whnf
        exact ⟨([int (leP m.toNat o.toNat).n, .slice w1 (leP m.toNat o.toNat).out.length (leP m.toNat o.toNat).out.length, .slice w2 (leP m.toNat o.toNat).start.length (leP m.toNat o.toNat).start.length, .slice w3 (leP m.toNat o.toNat).rules.length (leP m.toNat o.toNat).rules.length], _, H5.next), ⟨rfl, rfl, rfl, rfl, rfl, rfl, rfl, rfl, rfl, trivial⟩, ⟨rfl, g2.then_lay _, Hp.at_lay_self _ _, rfl, hx.ext (Grows.lay _ _)⟩, rfl⟩
      rintro ⟨bo, H5, V⟩ φ4 _ ⟨rfl, g2, hV, hbo, hpo⟩
      dsimp only at g2 hV hbo hpo ⊢
      have hX5 := g2.at_ _ _ hX
      conv => whnf
      repeat (refine SeqP.go ?_; conv => whnf)
      refine cmpF (by omega) ?_
      conv => whnf
      refine ⟨bo, all_cells hV hbo, ?_⟩
      conv => whnf
      refine CallP.mono (RCheck_spec _ _ _ hpo (by have := okA.outl; have := okA.n5; omega) (by have := okA.st2; omega) (by have := okA.rl; omega)) ?_
      rintro r1 H6 ⟨⟨b, rfl, hb⟩, g3⟩
      have eb := bo_same hb (bo_yes okA)
      subst eb
      conv => whnf
      refine ⟨_, cellAt_row (g3.at_ _ _ hX5) y3, ?_⟩
      conv => whnf
      refine cmpF (by show ¬ ((leP m.toNat o.toNat).start.length : Int) ≠ 1; rw [show (leP m.toNat o.toNat).start.length = 1 from rfl]; omega) ?_
      conv => whnf
      refine ⟨bo, all_cells (g3.at_ _ _ hV) hbo, ?_⟩
      conv => whnf
      refine CallP.mono (RRight_spec RReached_ok _ _ _ (leP m.toNat o.toNat) ⟨[1], o, m⟩ [k1] (m.toNat + 2) _ ((hpo.ext g3).ext (Grows.lay _ _)) ⟨_, rfl, lv1 _ _⟩ ((((hkv.ext (gA.trans g1)).ext g2).ext g3).ext (Grows.lay _ _)).ints okA rfl ⟨by show 1 ≤ 1; omega, by show 1 ≤ 2; omega, by intro x hx; have hx := List.mem_singleton.1 hx; omega, by show (-9 : Int) ≤ o ∧ o ≤ 9; omega, by show (0 : Int) ≤ m ∧ m ≤ 9; omega⟩ rfl hC1) ?_
      rintro r2 H7 ⟨⟨b, rfl, hb⟩, g4⟩
      have hqs : Solves (leP m.toNat o.toNat) (m.toNat + 2) ⟨[1], o, m⟩ [k1] := by
        have e1 : ((m.toNat : Nat) : Int) = m := by omega
        have e2 : ((o.toNat : Nat) : Int) = o := by omega
        rw [e1, e2] at hq
        exact hq
      have eb : b = true := want_yes hqs hb
      subst eb
      conv => whnf
      repeat (refine SeqP.go ?_; conv => whnf)
      exact ⟨H7, ⟨rfl, rfl, rfl, rfl, rfl, rfl, trivial⟩, ⟨rfl, ((g1.trans g2).trans g3).trans ((Grows.lay _ _).trans g4)⟩, rfl⟩
    rintro H4 φ5 _ ⟨rfl, gB⟩
    clear hX hbs hcase g1
    have hB4 := gB.at_ _ _ hB2
    have hkv4 := (hkv.ext gA).ext gB
    have hux := u64_of M
    obtain ⟨u, u0, u1, hu⟩ := hux
    have e1 := tmod_bd u0 (show (0 : Int) < 4 by omega)
    have hexk : ∃ k : Int, u.tmod 4 = k := ⟨_, rfl⟩
    obtain ⟨k, ek⟩ := hexk
    rw [ek] at e1
    have hux := u64_of m
    obtain ⟨u', u0', u1', hu'⟩ := hux
    have e1' := tmod_bd u0' (show (0 : Int) < 3 by omega)
    have hexk : ∃ k : Int, u'.tmod 3 = k := ⟨_, rfl⟩
    obtain ⟨k', ek'⟩ := hexk
    rw [ek'] at e1'
    have hux := u64_of o
    obtain ⟨u2, u02, u12, hu2⟩ := hux
    have e12 := tmod_bd u02 (show (0 : Int) < 1 + k' by omega)
    have hexk : ∃ k : Int, u2.tmod (1 + k') = k := ⟨_, rfl⟩
    obtain ⟨k2, ek2⟩ := hexk
    rw [ek2] at e12
    conv => whnf
    refine SeqP.cut (α := Unit) (fun s => [(8, int i), (0, int (1 + k)), (1, int m), (7, .slice ak 1 1), (5, ptr h.next 0)]) (fun s H' => H4 = H') ?_ ?_
    · conv => whnf
      refine ⟨u, hu, ?_⟩
      conv => whnf
      refine ⟨by omega, ?_⟩
      conv => whnf
      refine ⟨k, wie ek (by omega), ?_⟩
      conv => whnf
      refine ⟨1 + k, wid (by omega), ?_⟩
      conv => whnf
      exact ⟨(), ⟨rfl, rfl, rfl, rfl, rfl, trivial⟩, rfl, rfl⟩
    rintro _ φ6 _ rfl
    conv => whnf
    refine SeqP.cut (α := Unit) (fun s => [(8, int i), (0, int (1 + k)), (1, int (1 + k')), (7, .slice ak 1 1), (5, ptr h.next 0)]) (fun s H' => H4 = H') ?_ ?_
    · conv => whnf
      refine ⟨u', hu', ?_⟩
      conv => whnf
      refine ⟨by omega, ?_⟩
      conv => whnf
      refine ⟨k', wie ek' (by omega), ?_⟩
      conv => whnf
      refine ⟨1 + k', wid (by omega), ?_⟩
      conv => whnf
      exact ⟨(), ⟨rfl, rfl, rfl, rfl, rfl, trivial⟩, rfl, rfl⟩
    rintro _ φ7 _ rfl
    conv => whnf
    refine ⟨⟨by omega, by omega⟩, ?_⟩
    conv => whnf
    refine ⟨_, cellAt_row hB4 rfl, ?_⟩
    conv => whnf
    refine ⟨u2, hu2, ?_⟩
    conv => whnf
    refine ⟨1 + k', u64_id (by omega), ?_⟩
    conv => whnf
    refine ⟨by omega, ?_⟩
    conv => whnf
    refine ⟨k2, wie ek2 (by omega), ?_⟩
    conv => whnf
    refine ⟨⟨by omega, by omega⟩, ?_⟩
    conv => whnf
    refine ⟨rfl, _, storeAt_off (i := 0) hB4 (by simp) rfl, ?_⟩
    conv => whnf
    exact ⟨(1 + k, 1 + k', k2, _), ⟨rfl, rfl, rfl, rfl, rfl, trivial⟩, ⟨rfl, by show -9223372036854775808 ≤ (1 + k) ∧ (1 + k) < 9223372036854775808; omega, by show -9223372036854775808 ≤ (1 + k') ∧ (1 + k') < 9223372036854775808; omega, by show -9223372036854775808 ≤ k2 ∧ k2 < 9223372036854775808; omega, Hp.at_set_self _ (Hp.lt_of_at hB4), LV.setT hB4 (by decide) hkv4⟩, rfl⟩
  clear hB hkv
  rintro ⟨o, H1⟩ φ2 _ ⟨rfl, hB⟩
  dsimp only at hB ⊢
  conv => whnf
  refine SeqP.cut (α := Value × List Int × Hp) (fun s => [(16, s.1)]) (fun s H => s.2.2 = H ∧ LV s.2.2 s.1 s.2.1 ∧ CrOk 2 s.2.1) ?_ ?_
  · conv => whnf
    refine ⟨⟨by omega, by omega⟩, ?_⟩
    conv => whnf
    refine ⟨_, cellAt_row hB rfl, ?_⟩
    conv => whnf
    refine ⟨⟨by omega, by omega⟩, ?_⟩
    conv => whnf
    refine ⟨_, cellAt_row hB rfl, ?_⟩
    conv => whnf
    have hl2 : LV (H1.lay (.row 3 true [int x1, int x2])) (slc H1.next 0 2 2) [x1, x2] := .inr ⟨H1.next, rfl, Nat.zero_le _, true, Hp.at_lay_self _ _⟩
    refine CallP.mono (gathered_spec _ [x1, x2] _ hl2.ints (by simp) 2 9 (by omega) (by omega) (by omega) (by omega)) ?_
    rintro r4 H4 ⟨c, hc1, hc2, hc3, hc4, hc5, g4⟩
    conv => whnf
    exact ⟨(r4, c, H4), ⟨rfl, trivial⟩, ⟨rfl, LV.of hc1, ⟨hc2, gl_mem (p := fun x => 0 ≤ x) hc3 (by omega), hc4, by show c.sum ≤ 9; omega⟩⟩, rfl⟩
  rintro ⟨cv, c, H2⟩ φ3 _ ⟨rfl, hcv, hcr⟩
  dsimp only at hcv hcr ⊢
  have hkk := hcv.known
  obtain ⟨acv, rfl⟩ := hkk
  have hC2 : Cnt c 2 := hcr.cnt
  conv => whnf
  refine SeqP.cut (α := List Value × Hp × Nat) (fun s => [(17, ptr s.2.2 0), (16, .slice acv c.length c.length)]) (fun s H' => s.2.1 = H' ∧ Grows H2 s.2.1 ∧ s.2.1.at s.2.2 = some (.row 25 true s.1) ∧ s.1.length = 4 ∧ PV s.2.1 (.agg ⟨s.1⟩) majP) ?_ ?_
  · conv => whnf
    refine CallP.mono (majority_spec _) ?_
    rintro r1 H3 ⟨hpn, g1⟩
    have hx := hpn.pv
    obtain ⟨v1, v2, v3, rfl, e1, e2, e3⟩ := id hx
    obtain ⟨w1, rfl⟩ := e1.known
    obtain ⟨w2, rfl⟩ := e2.known
    obtain ⟨w3, rfl, -⟩ := e3.slice
    unfold pval at hx ⊢
    conv => whnf
    refine ⟨rfl, _, storeAt_all (vs := [int majP.n, .slice w1 majP.out.length majP.out.length, .slice w2 majP.start.length majP.start.length, .slice w3 majP.rules.length majP.rules.length]) rfl rfl rfl, ?_⟩
    conv => whnf
    exact ⟨([int majP.n, .slice w1 majP.out.length majP.out.length, .slice w2 majP.start.length majP.start.length, .slice w3 majP.rules.length majP.rules.length], _, H3.next), ⟨rfl, rfl, trivial⟩, ⟨rfl, g1.then_lay _, Hp.at_lay_self _ _, rfl, hx.ext (Grows.lay _ _)⟩, rfl⟩
  rintro ⟨bs, H3, X⟩ φ4 _ ⟨rfl, g1, hX, hbs, hpv⟩
  dsimp only at g1 hX hbs hpv ⊢
  obtain ⟨bx', ebx, hbx, b0, ⟨za, y2, j1⟩, ⟨zb, y3, j2⟩, ⟨zc, y4, j3⟩, -⟩ := hpv.box
  cases ebx
  conv => whnf
  refine SeqP.cut (α := List Value × Hp × Nat) (fun s => [(18, ptr s.2.2 0), (17, ptr X 0), (16, .slice acv c.length c.length)]) (fun s H' => s.2.1 = H' ∧ Grows H3 s.2.1 ∧ s.2.1.at s.2.2 = some (.row 26 true s.1) ∧ s.1.length = 4 ∧ PV s.2.1 (.agg ⟨s.1⟩) majP) ?_ ?_
  · conv => whnf
    refine ⟨bs, all_cells hX hbs, ?_⟩
    conv => whnf
    refine CallP.mono (ownX_spec _ _ _ (PX.of hpv) (by decide) (by decide) (by decide)) ?_
    rintro r1 H5 ⟨hx, g2⟩
    rw [majOk.own] at hx
    obtain ⟨v1, v2, v3, rfl, e1, e2, e3⟩ := id hx
    obtain ⟨w1, rfl⟩ := e1.known
    obtain ⟨w2, rfl⟩ := e2.known
    obtain ⟨w3, rfl, -⟩ := e3.slice
    unfold pval at hx ⊢
    conv => whnf
    refine ⟨rfl, _, storeAt_all (vs := [int majP.n, .slice w1 majP.out.length majP.out.length, .slice w2 majP.start.length majP.start.length, .slice w3 majP.rules.length majP.rules.length]) rfl rfl rfl, ?_⟩
    conv => whnf
    exact ⟨([int majP.n, .slice w1 majP.out.length majP.out.length, .slice w2 majP.start.length majP.start.length, .slice w3 majP.rules.length majP.rules.length], _, H5.next), ⟨rfl, rfl, rfl, trivial⟩, ⟨rfl, g2.then_lay _, Hp.at_lay_self _ _, rfl, hx.ext (Grows.lay _ _)⟩, rfl⟩
  rintro ⟨bo, H5, V⟩ φ5 _ ⟨rfl, g2, hV, hbo, hpo⟩
  dsimp only at g2 hV hbo hpo ⊢
  have hX5 := g2.at_ _ _ hX
  conv => whnf
  repeat (refine SeqP.go ?_; conv => whnf)
  refine ⟨bo, all_cells hV hbo, ?_⟩
  conv => whnf
  refine CallP.mono (RCheck_spec _ _ _ hpo (by decide) (by decide) (by decide)) ?_
  rintro r1 H6 ⟨⟨b, rfl, hb⟩, g3⟩
  have eb := bo_same hb (bo_yes majOk)
  subst eb
  conv => whnf
  refine ⟨_, cellAt_row (g3.at_ _ _ hX5) y3, ?_⟩
  conv => whnf
  refine cmpT rfl ?_
  conv => whnf
  refine ⟨bo, all_cells (g3.at_ _ _ hV) hbo, ?_⟩
  conv => whnf
  refine CallP.mono (RRight_spec RReached_ok _ _ _ majP ⟨[1, -1], 1, 0⟩ c 4 _ ((hpo.ext g3).ext (Grows.lay _ (.row 3 true [int 1, int (-1)]))) ⟨_, rfl, .inr ⟨H6.next, rfl, Nat.zero_le _, true, Hp.at_lay_self _ _⟩⟩ ((((hcv.ext g1).ext g2).ext g3).ext (Grows.lay _ _)).ints majOk rfl ⟨by decide, by decide, by decide, by decide, by decide⟩ rfl hC2) ?_
  rintro r2 H7 ⟨⟨b, rfl, hb⟩, g4⟩
  have eb : b = true := want_yes (majS c hC2) hb
  subst eb
  conv => whnf
  refine memo27 ?_
  conv => whnf
  repeat (refine SeqP.go ?_; conv => whnf)
  rfl
end
end Go.Proofs.Ytpiplaicnbapbaa
