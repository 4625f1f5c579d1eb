/- Contracts of the functions that PME comes to. -/
import Derived.Test.YtpiplaicnbapbaaPMD
set_option maxRecDepth 100000
set_option maxHeartbeats 2000000
set_option linter.unusedVariables false
set_option linter.unusedSectionVars false
set_option linter.unusedSimpArgs false
namespace Go.Proofs.Ytpiplaicnbapbaa
open Go.Rx Go.RowKit
def oR (r x : Nat) : Nat := if x = r then 1 else 0
theorem oR_le (r x : Nat) : oR r x ≤ 1 := by unfold oR; split <;> omega
def leOne (m r a b : Nat) : Q4 := ⟨a, b, ((a + b) % m : Nat), (m + oR r ((a + b) % m) : Nat)⟩
def leTail (m r a : Nat) : Q4 := ⟨a, (m + 1 - oR r a : Nat), a, (m + oR r a : Nat)⟩
def leRow (m r a j : Nat) : List Q4 := (List.range j).map fun i => leOne m r a (a + i)
def leUp (m r a : Nat) : List Q4 := (List.range a).flatMap fun a => leRow m r a (m - a) ++ [leTail m r a]
theorem leRow_succ (m r a j : Nat) : leRow m r a (j + 1) = leRow m r a j ++ [leOne m r a (a + j)] := by
  unfold leRow; rw [List.range_succ, List.map_append]; rfl
theorem leUp_succ (m r a : Nat) : leUp m r (a + 1) = leUp m r a ++ (leRow m r a (m - a) ++ [leTail m r a]) := by
  unfold leUp; rw [List.range_succ, List.flatMap_append]; simp
theorem leRow_len (m r a j : Nat) : (leRow m r a j).length = j := by unfold leRow; rw [List.length_map, List.length_range]
theorem leUp_len (m r : Nat) : ∀ a, (leUp m r a).length ≤ a * (m + 1)
  | 0 => by simp [leUp]
  | a + 1 => by
    rw [leUp_succ, List.length_append, List.length_append, leRow_len, List.length_singleton, Nat.add_mul]
    have := leUp_len m r a
    omega
def leOut (m r : Nat) : List Int := ((List.replicate (m + 2) 0).set r 1).set (m + 1) 1
theorem leOut_len (m r : Nat) : (leOut m r).length = m + 2 := by unfold leOut; rw [List.length_set, List.length_set, List.length_replicate]
theorem leOut_at {m r x : Nat} (hr : r < m) (hx : x < m) : (leOut m r)[x]'(by rw [leOut_len]; omega) = ((oR r x : Nat) : Int) := by
  unfold leOut oR
  rw [List.getElem_set, if_neg (by omega), List.getElem_set]
  by_cases e : r = x
  · rw [if_pos e, if_pos e.symm]; rfl
  · rw [if_neg e, if_neg (fun h => e h.symm), List.getElem_replicate]; rfl
theorem tmod3 {m a : Nat} (hm : 1 ≤ m) : (a : Int).tmod m = ((a % m : Nat) : Int) := by
  rw [Int.tmod_eq_emod_of_nonneg (by omega)]
  rfl
theorem sameL_all {l : List Value} (h : ∀ x ∈ l, sameV 3 x x = true) : sameL l l = true := by
  unfold sameL
  rw [Bool.and_eq_true]
  refine ⟨by rw [Nat.beq_eq], ?_⟩
  rw [List.all_eq_true]
  intro p hp
  obtain ⟨i, hi, rfl⟩ := List.getElem_of_mem hp
  rw [List.getElem_zip]
  exact h _ (List.getElem_mem _)
theorem sameL_rep (z : Int) (n : Nat) : sameL (times [int z] n) (times [int z] n) = true := by
  rw [rep_row]
  refine sameL_all fun x hx => ?_
  obtain ⟨y, -, rfl⟩ := List.mem_map.1 hx
  show eqI y y = true
  unfold eqI
  cases y <;> exact Nat.beq_refl _
theorem sameL_one (z : Int) : sameL [int z] [int z] = true := by
  have := sameL_rep z 1
  exact this
def leP (m r : Nat) : Prot := ⟨(m + 2 : Nat), leOut m r, [(1 % m : Nat)], leUp m r m⟩
attribute [local irreducible] E idxN cellAt cellsAt storeAt callable helems hmoved lookIn findKey keyOk hentries Hp.at Hp.set Hp.lay arBits hupdated setAt CallP YieldP BoolOf IsWrap Rnd LoopP AppP CutP Int.tmod Int.tdiv Int.fdiv
section
variable [Unknowns]
attribute [local irreducible] ResP sameAt finP
theorem leaves_spec (m r : Nat) (hm : 1 ≤ m ∧ m ≤ 3) (hr : r < m) (h : Hp) : CallP E 88 [int m, int r] h (fun v h' => PV h' v (leP m r) ∧ Grows h h') := by
  have nilE : nilS = .slice none 0 0 := rfl
  refine enter88 (by simp) ?_
  conv => whnf
  refine SeqP.cut (α := Unit) (fun _ => [(4, ptr h.next 0), (0, int m), (1, int r)]) (fun _ H => h.lay (.row 25 true [int 0, nilS, nilS, nilS]) = H) ?_ ?_
  · conv => whnf
    exact ⟨(), ⟨rfl, rfl, rfl, trivial⟩, rfl, rfl⟩
  rintro _ φ1 _ rfl
  have hexb : ∃ hb, h.lay (.row 25 true [int 0, nilS, nilS, nilS]) = hb := ⟨_, rfl⟩
  obtain ⟨hb, ehb⟩ := hexb
  have g0 : Grows h hb := ehb ▸ Grows.lay _ _
  have a0 : hb.at h.next = some (.row 25 true [int 0, nilS, nilS, nilS]) := ehb ▸ Hp.at_lay_self _ _
  rw [ehb]
  have hn0 : hb.next = h.next + 1 := by rw [← ehb, Hp.next_lay]
  clear ehb
  have e1m : (1 : Int).tmod m = ((1 % m : Nat) : Int) := tmod3 (a := 1) hm.1
  conv => whnf
  refine SeqP.cut (α := Nat × Value × Value × Hp) (fun s => [(5, ptr s.1 0), (4, ptr h.next 0), (0, int m), (1, int r)]) (fun s H => s.2.2.2 = H ∧ RZ hb s.2.2.2 25 s.1 s.2.1 s.2.2.1 (.slice none 0 0) (List.replicate (m + 2) 0) [(1 % m : Nat)] [] [int (m + 2 : Nat), s.2.1, s.2.2.1, .slice none 0 0]) ?_ ?_
  · conv => whnf
    refine ⟨((m + 2 : Nat) : Int), wie (by omega) (by omega), ?_⟩
    conv => whnf
    refine ⟨((m + 2 : Nat) : Int), wie (by omega) (by omega), ?_⟩
    conv => whnf
    refine ⟨⟨by omega, by omega, by omega, by omega⟩, ?_⟩
    conv => whnf
    refine ⟨by omega, ?_⟩
    conv => whnf
    refine ⟨rfl, _, storeAt_all (vs := [int (m + 2 : Nat), slc hb.next 0 (m + 2) (m + 2), slc _ 0 1 1, .slice none 0 0]) rfl rfl rfl, ?_⟩
    conv => whnf
    refine ⟨⟨by omega, by omega, by omega, by omega⟩, ?_⟩
    conv => whnf
    refine ⟨((m + 2 : Nat) : Int), wie (by omega) (by omega), ?_⟩
    conv => whnf
    refine ⟨((m + 2 : Nat) : Int), wie (by omega) (by omega), ?_⟩
    conv => whnf
    refine ⟨⟨by omega, by omega, by omega, by omega⟩, ?_⟩
    conv => whnf
    refine ⟨by omega, ?_⟩
    conv => whnf
    refine ⟨rfl, _, storeAt_all (vs := [int (m + 2 : Nat), slc hb.next 0 (m + 2) (m + 2), slc _ 0 1 1, .slice none 0 0]) rfl rfl rfl, ?_⟩
    conv => whnf
    refine ⟨?_, ?_⟩
    · repeat' (first | exact True.intro | (refine And.intro ?_ ?_ <;> (conv => whnf)))
      all_goals first
        | exact sameV_slice _ _ _
        | exact sameV_ptr3 _ _
        | exact sameL_rep _ _
        | exact rfl
        | exact Hp.at_lay_old _ (Hp.at_lay_old _ (Hp.at_lay_self _ _))
        | exact Hp.at_lay_old _ (Hp.at_lay_self _ _)
        | exact Hp.at_lay_self _ _
        | exact sameL_one _
    conv => whnf
    have hz := RZ.make (hb := hb) (tz := 25) (O := List.replicate (m + 2) 0) (S := [((1 % m : Nat) : Int)]) (cS := [int ((1 : Int).tmod m)]) (rep_row 0 (m + 2)) (by rw [e1m]; rfl) [int (m + 2 : Nat), slc hb.next 0 (m + 2) (m + 2), slc (hb.lay (.row 3 true (times [int 0] (m + 2)))).next 0 1 1, .slice none 0 0]
    rw [List.length_replicate] at hz
    exact ⟨(((hb.lay (.row 3 true (times [int 0] (m + 2)))).lay (.row 3 true [int ((1 : Int).tmod m)])).next, slc hb.next 0 (m + 2) (m + 2), slc (hb.lay (.row 3 true (times [int 0] (m + 2)))).next 0 1 1, _), ⟨rfl, rfl, rfl, rfl, trivial⟩, ⟨rfl, hz⟩, rfl⟩
  rintro ⟨Z, ov, sv, H1⟩ φ2 _ ⟨rfl, hz⟩
  dsimp only at hz ⊢
  have hws := hz.s.slice
  obtain ⟨asx, rfl, -⟩ := hws
  conv => whnf
  refine SeqP.cut (α := Value × Hp) (fun s => [(5, ptr Z 0), (4, ptr h.next 0), (0, int m)]) (fun s H => s.2 = H ∧ RZ hb s.2 25 Z s.1 (.slice asx [((1 % m : Nat) : Int)].length [((1 % m : Nat) : Int)].length) (.slice none 0 0) (leOut m r) [((1 % m : Nat) : Int)] [] [int (m + 2 : Nat), s.1, .slice asx [((1 % m : Nat) : Int)].length [((1 % m : Nat) : Int)].length, .slice none 0 0]) ?_ ?_
  · have hst := hz.o_set (i := r) (by rw [List.length_replicate]; omega) 1
    obtain ⟨r', x', eo, st, hz'⟩ := hst
    have hst2 := hz'.o_set (i := m + 1) (by rw [List.length_set, List.length_replicate]; omega) 1
    obtain ⟨r2, x2, eo2, st2, hz2⟩ := hst2
    subst eo
    have er : r' = r2 := by simpa [slc] using eo2
    subst er
    have wq : IsWrap .i64 ((m : Int) + 1) ((m + 1 : Nat) : Int) := wie (by omega) (by omega)
    unfold IsWrap at wq
    conv => whnf
    refine ⟨_, cellAt_row hz.z rfl, ?_⟩
    conv => whnf
    refine ⟨_, cellAt_row hz.z rfl, ?_⟩
    conv => whnf
    refine ⟨((m + 1 : Nat) : Int), wie (by omega) (by omega), ?_⟩
    conv => whnf
    refine ⟨rfl, ⟨by omega, by rw [List.length_replicate]; omega⟩, ?_⟩
    conv => whnf
    refine ⟨rfl, _, st, ?_⟩
    conv => whnf
    refine ⟨rfl, ⟨by omega, by rw [List.length_replicate]; omega⟩, ?_⟩
    conv => whnf
    refine ⟨rfl, _, st2, ?_⟩
    conv => whnf
    refine ⟨?_, ?_⟩
    · repeat' (first | exact True.intro | (refine And.intro ?_ ?_ <;> (conv => whnf)))
      all_goals first
        | exact sameAt_val (h2 := _) rfl (sameV_ptr3 _ _)
        | exact sameAt_val (h2 := _) (congrArg (hval _) (cellAt_row hz.z rfl)) (sameV_slice _ _ _)
        | exact sameAt_val (h2 := _) (congrArg (hval _) (cellAt_row hz'.z rfl)) (sameV_slice _ _ _)
        | exact sameAt_val (h2 := _) rfl (sameV_int _)
        | exact sameAt_val (h2 := _) (congrArg (fun x => HRes.val (.int .i64 x) _) wq.symm) (sameV_int _)
        | trace_state
    conv => whnf
    exact ⟨(slc r' 0 (List.replicate (m + 2) (0 : Int)).length (List.replicate (m + 2) (0 : Int)).length, _), ⟨rfl, rfl, rfl, trivial⟩, ⟨rfl, hz2⟩, rfl⟩
  clear hz
  rintro ⟨ov, H2⟩ φ3 _ ⟨rfl, hz⟩
  dsimp only at hz ⊢
  have hws := hz.o.slice
  obtain ⟨ao, rfl, -⟩ := hws
  have hoL := leOut_len m r
  conv => whnf
  refine SeqP.cut (α := Value × Hp) (fun s => [(5, ptr Z 0), (4, ptr h.next 0)]) (fun s H => s.2 = H ∧ RZ hb s.2 25 Z (.slice ao (leOut m r).length (leOut m r).length) (.slice asx [((1 % m : Nat) : Int)].length [((1 % m : Nat) : Int)].length) s.1 (leOut m r) [((1 % m : Nat) : Int)] (leUp m r m) [int (m + 2 : Nat), .slice ao (leOut m r).length (leOut m r).length, .slice asx [((1 % m : Nat) : Int)].length [((1 % m : Nat) : Int)].length, s.1]) ?_ ?_
  · conv => whnf
    repeat (refine SeqP.go ?_; conv => whnf)
    refine loop_inv (α := Nat × Value × Hp) (fun s => [(30, int s.1), (29, int m), (5, ptr Z 0), (4, ptr h.next 0), (0, int m)]) (fun s => s.2.2) (fun s => s.1 ≤ m ∧ RZ hb s.2.2 25 Z (.slice ao (leOut m r).length (leOut m r).length) (.slice asx [((1 % m : Nat) : Int)].length [((1 % m : Nat) : Int)].length) s.2.1 (leOut m r) [((1 % m : Nat) : Int)] (leUp m r s.1) [int (m + 2 : Nat), .slice ao (leOut m r).length (leOut m r).length, .slice asx [((1 % m : Nat) : Int)].length [((1 % m : Nat) : Int)].length, s.2.1]) (fun s => m - s.1) (0, .slice none 0 0, H2) ⟨Nat.zero_le _, hz⟩ ⟨rfl, rfl, rfl, rfl, rfl, trivial⟩ (Hp.Le.refl _) ?_
    clear hz
    rintro ⟨a, rv, H⟩ φ4 ⟨ha, hz⟩
    dsimp only at ha hz ⊢
    conv => whnf
    repeat (refine SeqP.go ?_; conv => whnf)
    refine cmpB (fun c1 => ?_) (fun c1 => ?_)
    rotate_left
    · have : a = m := by omega
      subst this
      conv => whnf
      repeat (refine SeqP.go ?_; conv => whnf)
      exact ⟨(_, H), ⟨rfl, rfl, trivial⟩, ⟨rfl, hz⟩, rfl⟩
    have han : a < m := by omega
    conv => whnf
    refine SeqP.go ?_
    conv => whnf
    refine SeqP.cut (α := Value × Hp) (fun s => [(30, int a), (29, int m), (5, ptr Z 0), (4, ptr h.next 0), (0, int m)]) (fun s H' => s.2 = H' ∧ RZ hb s.2 25 Z (.slice ao (leOut m r).length (leOut m r).length) (.slice asx [((1 % m : Nat) : Int)].length [((1 % m : Nat) : Int)].length) s.1 (leOut m r) [((1 % m : Nat) : Int)] (leUp m r (a + 1)) [int (m + 2 : Nat), .slice ao (leOut m r).length (leOut m r).length, .slice asx [((1 % m : Nat) : Int)].length [((1 % m : Nat) : Int)].length, s.1]) ?_ ?_
    rotate_left
    · rintro ⟨w', H'⟩ φ7 _ ⟨rfl, h1⟩
      dsimp only at h1 ⊢
      conv => whnf
      refine ⟨((a + 1 : Nat) : Int), wie (by omega) (by omega), ?_⟩
      conv => whnf
      exact Rnd.mk (a + 1, w', H') ⟨by show a + 1 ≤ m; omega, h1⟩ (by show m - (a + 1) < m - a; omega) ⟨rfl, rfl, rfl, rfl, rfl, trivial⟩ (Hp.Le.refl _) rfl
    have h15 : (leUp m r a).length ≤ 100 := by
      have h1 := leUp_len m r a
      have h3 : a * (m + 1) ≤ 4 * 4 := Nat.mul_le_mul (by omega) (by omega)
      omega
    conv => whnf
    refine SeqP.go ?_
    conv => whnf
    refine SeqP.cut (α := Value × Hp) (fun s => [(6, int a), (30, int a), (29, int m), (5, ptr Z 0), (4, ptr h.next 0), (0, int m)]) (fun s H' => s.2 = H' ∧ RZ hb s.2 25 Z (.slice ao (leOut m r).length (leOut m r).length) (.slice asx [((1 % m : Nat) : Int)].length [((1 % m : Nat) : Int)].length) s.1 (leOut m r) [((1 % m : Nat) : Int)] (leUp m r a ++ leRow m r a (m - a)) [int (m + 2 : Nat), .slice ao (leOut m r).length (leOut m r).length, .slice asx [((1 % m : Nat) : Int)].length [((1 % m : Nat) : Int)].length, s.1]) ?_ ?_
    · conv => whnf
      repeat (refine SeqP.go ?_; conv => whnf)
      refine loop_inv (α := Nat × Value × Hp) (fun s => [(7, int (a + s.1 : Nat)), (6, int a), (30, int a), (29, int m), (5, ptr Z 0), (4, ptr h.next 0), (0, int m)]) (fun s => s.2.2) (fun s => a + s.1 ≤ m ∧ RZ hb s.2.2 25 Z (.slice ao (leOut m r).length (leOut m r).length) (.slice asx [((1 % m : Nat) : Int)].length [((1 % m : Nat) : Int)].length) s.2.1 (leOut m r) [((1 % m : Nat) : Int)] (leUp m r a ++ leRow m r a s.1) [int (m + 2 : Nat), .slice ao (leOut m r).length (leOut m r).length, .slice asx [((1 % m : Nat) : Int)].length [((1 % m : Nat) : Int)].length, s.2.1]) (fun s => m - s.1) (0, rv, H) ⟨by show a + 0 ≤ m; omega, by show RZ _ _ _ _ _ _ _ _ _ (leUp m r a ++ []) _; rw [List.append_nil]; exact hz⟩ ⟨rfl, rfl, rfl, rfl, rfl, rfl, rfl, trivial⟩ (Hp.Le.refl _) ?_
      clear hz
      rintro ⟨j, rv, H⟩ φ5 ⟨hj, hz⟩
      dsimp only at hj hz ⊢
      have hwk := hz.r.slice
      obtain ⟨aw, rfl, -⟩ := hwk
      conv => whnf
      repeat (refine SeqP.go ?_; conv => whnf)
      refine cmpB (fun c2 => ?_) (fun c2 => ?_)
      rotate_left
      · have ej : j = m - a := by omega
        subst ej
        conv => whnf
        repeat (refine SeqP.go ?_; conv => whnf)
        exact ⟨(_, H), ⟨rfl, rfl, rfl, rfl, rfl, rfl, trivial⟩, ⟨rfl, hz⟩, rfl⟩
      have hjn : a + j < m := by omega
      have hQl : (leUp m r a ++ leRow m r a j).length ≤ 1000 := by
        rw [List.length_append, leRow_len]
        omega
      conv => whnf
      refine SeqP.cut (α := Value × Hp) (fun s => [(7, int (a + j : Nat)), (6, int a), (30, int a), (29, int m), (5, ptr Z 0), (4, ptr h.next 0), (0, int m)]) (fun s H' => s.2 = H' ∧ RZ hb s.2 25 Z (.slice ao (leOut m r).length (leOut m r).length) (.slice asx [((1 % m : Nat) : Int)].length [((1 % m : Nat) : Int)].length) s.1 (leOut m r) [((1 % m : Nat) : Int)] (leUp m r a ++ leRow m r a (j + 1)) [int (m + 2 : Nat), .slice ao (leOut m r).length (leOut m r).length, .slice asx [((1 % m : Nat) : Int)].length [((1 % m : Nat) : Int)].length, s.1]) ?_ ?_
      rotate_left
      · rintro ⟨w', H'⟩ φ7 _ ⟨rfl, h1⟩
        dsimp only at h1 ⊢
        conv => whnf
        refine ⟨((a + (j + 1) : Nat) : Int), wie (by omega) (by omega), ?_⟩
        conv => whnf
        exact Rnd.mk (j + 1, w', H') ⟨by show a + (j + 1) ≤ m; omega, h1⟩ (by show m - (j + 1) < m - j; omega) ⟨rfl, rfl, rfl, rfl, rfl, rfl, rfl, trivial⟩ (Hp.Le.refl _) rfl
      have hlm : (a + (a + j)) % m < m := Nat.mod_lt _ (by omega)
      have hol := oR_le r ((a + (a + j)) % m)
      have hexl : ∃ l, (a + (a + j)) % m = l := ⟨_, rfl⟩
      obtain ⟨l, el⟩ := hexl
      have e1 : leOne m r a (a + j) = ⟨a, (a + j : Nat), l, (m + oR r l : Nat)⟩ := by unfold leOne; rw [el]
      have etm : (((a + (a + j) : Nat) : Int)).tmod m = (l : Int) := by rw [tmod3 hm.1, el]
      rw [el] at hlm hol
      have hot : (leOut m r)[l]'(by rw [leOut_len]; omega) = ((oR r l : Nat) : Int) := leOut_at hr hlm
      have hc := (LV.of hz.o.b).ints
      obtain ⟨ao', co', ew, hcc⟩ := hc
      cases ew
      have hc := hcc l (by omega)
      obtain ⟨rr, oo, sp, ea, hsp, hci⟩ := hc
      rw [hot] at hci
      clear hcc
      subst ea
      conv => whnf
      refine SeqP.cut (α := Unit) (fun s => [(8, int l), (7, int (a + j : Nat)), (6, int a), (30, int a), (29, int m), (5, ptr Z 0), (4, ptr h.next 0), (0, int m)]) (fun s H' => H = H') ?_ ?_
      · conv => whnf
        repeat (refine SeqP.go ?_; conv => whnf)
        refine ⟨((a + (a + j) : Nat) : Int), wie (by omega) (by omega), ?_⟩
        conv => whnf
        refine ⟨by omega, ?_⟩
        conv => whnf
        exact ⟨(), ⟨congrArg int etm, rfl, rfl, rfl, rfl, rfl, rfl, rfl, trivial⟩, rfl, rfl⟩
      rintro _ φ6 _ rfl
      conv => whnf
      refine ⟨_, cellAt_row hz.z rfl, ?_⟩
      conv => whnf
      refine ⟨_, cellAt_row hz.z rfl, ?_⟩
      conv => whnf
      refine ⟨hsp, ⟨by omega, by omega⟩, ?_⟩
      conv => whnf
      refine ⟨int (oR r l : Nat), by rw [offAt_eq, Nat.add_comm]; simpa using hci, ?_⟩
      conv => whnf
      refine ⟨((m + oR r l : Nat) : Int), wie (by omega) (by omega), ?_⟩
      conv => whnf
      refine hz.r_app (z := ⟨a, (a + j : Nat), l, (m + oR r l : Nat)⟩) (by omega) ?_
      rintro rv' H' ⟨a', m', rfl⟩ hz'
      conv => whnf
      refine ⟨rfl, _, storeAt_row hz'.z (by simp) rfl, ?_⟩
      conv => whnf
      refine ⟨?_, ?_⟩
      · repeat' (first | exact True.intro | (refine And.intro ?_ ?_ <;> (conv => whnf)))
        all_goals first
          | exact sameAt_val (h2 := _) rfl (sameV_ptr3 _ _)
          | exact sameAt_val (h2 := _) (congrArg (hval _) (cellAt_row hz.z rfl)) (sameV_slice _ _ _)
          | exact sameAt_val (h2 := _) (congrArg (hval _) (cellAt_row (Hp.at_lay_old _ hz.z) rfl)) (sameV_slice _ _ _)
          | exact sameAt_val (h2 := _) (congrArg (hval _) (cellAt_row hz'.z rfl)) (sameV_slice _ _ _)
          | exact sameAt_val (h2 := _) rfl (sameV_slice _ _ _)
          | exact sameAt_val (h2 := _) rfl (sameV_int _)
          | trace_state
      rw [List.append_assoc, ← e1, ← leRow_succ] at hz'
      conv => whnf
      exact ⟨(_, _), ⟨rfl, rfl, rfl, rfl, rfl, rfl, rfl, trivial⟩, ⟨rfl, hz'.put _⟩, rfl⟩
    clear hz
    rintro ⟨rv, H3⟩ φ5 _ ⟨rfl, hz⟩
    dsimp only at hz ⊢
    have hwk := hz.r.slice
    obtain ⟨aw, rfl, -⟩ := hwk
    have hQl : (leUp m r a ++ leRow m r a (m - a)).length ≤ 1000 := by
      rw [List.length_append, leRow_len]
      omega
    have hol := oR_le r a
    have hot : (leOut m r)[a]'(by rw [leOut_len]; omega) = ((oR r a : Nat) : Int) := leOut_at hr han
    have hc := (LV.of hz.o.b).ints
    obtain ⟨ao', co', ew, hcc⟩ := hc
    cases ew
    have hc := hcc a (by omega)
    obtain ⟨rr, oo, sp, ea, hsp, hci⟩ := hc
    rw [hot] at hci
    clear hcc
    subst ea
    conv => whnf
    refine SeqP.cut (α := Unit) (fun s => [(9, int (m + 1 - oR r a : Nat)), (10, int (m + oR r a : Nat)), (6, int a), (30, int a), (29, int m), (5, ptr Z 0), (4, ptr h.next 0), (0, int m)]) (fun s H' => H3 = H') ?_ ?_
    · conv => whnf
      refine ⟨((m + 1 : Nat) : Int), wie (by omega) (by omega), ?_⟩
      conv => whnf
      refine ⟨_, cellAt_row hz.z rfl, ?_⟩
      conv => whnf
      refine ⟨hsp, ⟨by omega, by omega⟩, ?_⟩
      conv => whnf
      refine ⟨int (oR r a : Nat), by rw [offAt_eq, Nat.add_comm]; simpa using hci, ?_⟩
      conv => whnf
      refine ⟨((m + 1 - oR r a : Nat) : Int), wie (by omega) (by omega), ?_⟩
      conv => whnf
      refine ⟨_, cellAt_row hz.z rfl, ?_⟩
      conv => whnf
      refine ⟨hsp, ⟨by omega, by omega⟩, ?_⟩
      conv => whnf
      refine ⟨int (oR r a : Nat), by rw [offAt_eq, Nat.add_comm]; simpa using hci, ?_⟩
      conv => whnf
      refine ⟨((m + oR r a : Nat) : Int), wie (by omega) (by omega), ?_⟩
      conv => whnf
      exact ⟨(), ⟨rfl, rfl, rfl, rfl, rfl, rfl, rfl, rfl, trivial⟩, rfl, rfl⟩
    rintro _ φ6 _ rfl
    conv => whnf
    refine ⟨_, cellAt_row hz.z rfl, ?_⟩
    conv => whnf
    refine hz.r_app (z := leTail m r a) (by omega) ?_
    rintro rv' H' ⟨a', m', rfl⟩ hz'
    rw [List.append_assoc, ← leUp_succ] at hz'
    conv => whnf
    refine ⟨rfl, _, storeAt_row hz'.z (by simp) rfl, ?_⟩
    conv => whnf
    exact ⟨(_, _), ⟨rfl, rfl, rfl, rfl, rfl, trivial⟩, ⟨rfl, hz'.put _⟩, rfl⟩
  clear hz
  rintro ⟨rv, H3⟩ φ4 _ ⟨rfl, hz⟩
  dsimp only at hz ⊢
  have hws := hz.r.slice
  obtain ⟨ar, rfl, -⟩ := hws
  have a3 := hz.gr.at_ _ _ a0
  have hzr := hz.z
  have hexc : ∃ cs : List Value, cs = [int (m + 2 : Nat), .slice ao (leOut m r).length (leOut m r).length, .slice asx [((1 % m : Nat) : Int)].length [((1 % m : Nat) : Int)].length, .slice ar (leUp m r m).length (leUp m r m).length] := ⟨_, rfl⟩
  obtain ⟨cs, ecs⟩ := hexc
  rw [← ecs] at hzr
  have h1c : cs.all oneCell = true := by rw [ecs]; rfl
  have h4c : cs.length = 4 := by rw [ecs]; rfl
  have g1 : Grows h (H3.set h.next (.row 25 true cs)) := (g0.trans hz.gr).then_set _ (Nat.le_refl _)
  have hpv : PV (H3.set h.next (.row 25 true cs)) (.agg ⟨cs⟩) (leP m r) := by
    have lo : ∀ {e s n : Nat} {v : Value} {cs' : List Value}, BuiltC hb H3 e s v n cs' → BuiltC hb (H3.set h.next (.row 25 true cs)) e s v n cs' := by
      rintro e s n v cs' ⟨h1, h2⟩
      refine ⟨h1, ?_⟩
      rcases h2 with h2 | ⟨r, e1, h2, x, h3⟩
      · exact .inl h2
      · exact .inr ⟨r, e1, h2, x, by rw [Hp.at_set_ne _ (by omega)]; exact h3⟩
    refine ⟨_, _, _, by rw [ecs]; rfl, LV.of (lo hz.o).b, LV.of (lo hz.s).b, (lo hz.r).back (Nat.zero_le _)⟩
  conv => whnf
  repeat (refine SeqP.go ?_; conv => whnf)
  refine ⟨_, all_cells hzr h4c, ?_⟩
  conv => whnf
  refine ⟨h4c, _, storeAt_full (vs := cs) a3 (by rw [ecs]; rfl) h1c (by rw [ecs]; rfl), ?_⟩
  conv => whnf
  repeat (refine SeqP.go ?_; conv => whnf)
  obtain ⟨i25, t25, ag25, sz25⟩ := ty25
  exact leave_cell rfl t25 ag25 (by rw [sz25]; exact all_cells (Hp.at_set_self _ (Hp.lt_of_at a3)) h4c) ⟨hpv, g1⟩
end
end Go.Proofs.Ytpiplaicnbapbaa
namespace Go.Proofs.Ytpiplaicnbapbaa
open Go.Rx Go.RowKit
instance : DecidableRel QLess := fun x y => by unfold QLess; infer_instance
theorem rok_of {n : Int} {R : List Q4} (h : ∀ x ∈ R, QIn n x ∧ x.a ≤ x.b) (s : R.Pairwise QLess) : ROk n R R.length := fun k hk _ => by
  have h1 := h _ (List.getElem_mem hk)
  exact ⟨h1.1, h1.2, fun h0 => List.pairwise_iff_getElem.1 s (k - 1) k (by omega) hk (by omega)⟩
theorem atOk1 : POk (atP 1) := ⟨by decide, by decide, by decide, by decide, by decide, by decide, by decide, by decide, rok_of (by decide) (by decide)⟩
theorem atS1 : ∀ k, Cnt k 1 → Solves (atP 1) 2 ⟨[1], 1, 0⟩ k := by
  intro k hk on hw
  obtain ⟨e, h1, h2⟩ := cnt1 hk
  have hx : gl k 0 = 1 ∨ gl k 0 = 2 ∨ gl k 0 = 3 ∨ gl k 0 = 4 ∨ gl k 0 = 5 ∨ gl k 0 = 6 ∨ gl k 0 = 7 ∨ gl k 0 = 8 ∨ gl k 0 = 9 := by omega
  have eR : (atP 1).rules = [⟨0, 1, 1, 1⟩, ⟨1, 1, 1, 1⟩] := rfl
  have eO : (atP 1).out = [0, 1] := rfl
  rw [eR, eO]
  rcases hx with hx | hx | hx | hx | hx | hx | hx | hx | hx
  · rw [hx] at e
    subst e
    have ew : on = 1 := hw.1 (.inl ⟨by decide, by decide⟩)
    subst ew
    rw [show crs 2 (atP 1).start [1] ([1] : List Int).length = [0, 1] from by decide]
    exact at1_yes ⟨rfl, gl_mem (p := fun x => 0 ≤ x) (by decide) (by decide), by decide, by decide⟩ (by decide)
  · rw [hx] at e
    subst e
    have ew : on = 1 := hw.1 (.inl ⟨by decide, by decide⟩)
    subst ew
    rw [show crs 2 (atP 1).start [2] ([2] : List Int).length = [0, 2] from by decide]
    exact at1_yes ⟨rfl, gl_mem (p := fun x => 0 ≤ x) (by decide) (by decide), by decide, by decide⟩ (by decide)
  · rw [hx] at e
    subst e
    have ew : on = 1 := hw.1 (.inl ⟨by decide, by decide⟩)
    subst ew
    rw [show crs 2 (atP 1).start [3] ([3] : List Int).length = [0, 3] from by decide]
    exact at1_yes ⟨rfl, gl_mem (p := fun x => 0 ≤ x) (by decide) (by decide), by decide, by decide⟩ (by decide)
  · rw [hx] at e
    subst e
    have ew : on = 1 := hw.1 (.inl ⟨by decide, by decide⟩)
    subst ew
    rw [show crs 2 (atP 1).start [4] ([4] : List Int).length = [0, 4] from by decide]
    exact at1_yes ⟨rfl, gl_mem (p := fun x => 0 ≤ x) (by decide) (by decide), by decide, by decide⟩ (by decide)
  · rw [hx] at e
    subst e
    have ew : on = 1 := hw.1 (.inl ⟨by decide, by decide⟩)
    subst ew
    rw [show crs 2 (atP 1).start [5] ([5] : List Int).length = [0, 5] from by decide]
    exact at1_yes ⟨rfl, gl_mem (p := fun x => 0 ≤ x) (by decide) (by decide), by decide, by decide⟩ (by decide)
  · rw [hx] at e
    subst e
    have ew : on = 1 := hw.1 (.inl ⟨by decide, by decide⟩)
    subst ew
    rw [show crs 2 (atP 1).start [6] ([6] : List Int).length = [0, 6] from by decide]
    exact at1_yes ⟨rfl, gl_mem (p := fun x => 0 ≤ x) (by decide) (by decide), by decide, by decide⟩ (by decide)
  · rw [hx] at e
    subst e
    have ew : on = 1 := hw.1 (.inl ⟨by decide, by decide⟩)
    subst ew
    rw [show crs 2 (atP 1).start [7] ([7] : List Int).length = [0, 7] from by decide]
    exact at1_yes ⟨rfl, gl_mem (p := fun x => 0 ≤ x) (by decide) (by decide), by decide, by decide⟩ (by decide)
  · rw [hx] at e
    subst e
    have ew : on = 1 := hw.1 (.inl ⟨by decide, by decide⟩)
    subst ew
    rw [show crs 2 (atP 1).start [8] ([8] : List Int).length = [0, 8] from by decide]
    exact at1_yes ⟨rfl, gl_mem (p := fun x => 0 ≤ x) (by decide) (by decide), by decide, by decide⟩ (by decide)
  · rw [hx] at e
    subst e
    have ew : on = 1 := hw.1 (.inl ⟨by decide, by decide⟩)
    subst ew
    rw [show crs 2 (atP 1).start [9] ([9] : List Int).length = [0, 9] from by decide]
    exact at1_yes ⟨rfl, gl_mem (p := fun x => 0 ≤ x) (by decide) (by decide), by decide, by decide⟩ (by decide)
theorem atOk2 : POk (atP 2) := ⟨by decide, by decide, by decide, by decide, by decide, by decide, by decide, by decide, rok_of (by decide) (by decide)⟩
theorem atS2 : ∀ k, Cnt k 1 → Solves (atP 2) 3 ⟨[1], 2, 0⟩ k := by
  intro k hk on hw
  obtain ⟨e, h1, h2⟩ := cnt1 hk
  have hx : gl k 0 = 1 ∨ gl k 0 = 2 ∨ gl k 0 = 3 ∨ gl k 0 = 4 ∨ gl k 0 = 5 ∨ gl k 0 = 6 ∨ gl k 0 = 7 ∨ gl k 0 = 8 ∨ gl k 0 = 9 := by omega
  have eR : (atP 2).rules = [⟨0, 2, 2, 2⟩, ⟨1, 1, 2, 2⟩, ⟨1, 2, 2, 2⟩, ⟨2, 2, 2, 2⟩] := rfl
  have eO : (atP 2).out = [0, 0, 1] := rfl
  rw [eR, eO]
  rcases hx with hx | hx | hx | hx | hx | hx | hx | hx | hx
  · rw [hx] at e
    subst e
    have ew : on = 0 := hw.2 (by rintro (⟨h, h'⟩ | ⟨h, h'⟩) <;> revert h h' <;> decide)
    subst ew
    rw [show crs 3 (atP 2).start [1] ([1] : List Int).length = [0, 1, 0] from by decide]
    exact at2_no ⟨rfl, gl_mem (p := fun x => 0 ≤ x) (by decide) (by decide), by decide, by decide⟩ (by decide)
  · rw [hx] at e
    subst e
    have ew : on = 1 := hw.1 (.inl ⟨by decide, by decide⟩)
    subst ew
    rw [show crs 3 (atP 2).start [2] ([2] : List Int).length = [0, 2, 0] from by decide]
    exact at2_yes ⟨rfl, gl_mem (p := fun x => 0 ≤ x) (by decide) (by decide), by decide, by decide⟩ (by decide)
  · rw [hx] at e
    subst e
    have ew : on = 1 := hw.1 (.inl ⟨by decide, by decide⟩)
    subst ew
    rw [show crs 3 (atP 2).start [3] ([3] : List Int).length = [0, 3, 0] from by decide]
    exact at2_yes ⟨rfl, gl_mem (p := fun x => 0 ≤ x) (by decide) (by decide), by decide, by decide⟩ (by decide)
  · rw [hx] at e
    subst e
    have ew : on = 1 := hw.1 (.inl ⟨by decide, by decide⟩)
    subst ew
    rw [show crs 3 (atP 2).start [4] ([4] : List Int).length = [0, 4, 0] from by decide]
    exact at2_yes ⟨rfl, gl_mem (p := fun x => 0 ≤ x) (by decide) (by decide), by decide, by decide⟩ (by decide)
  · rw [hx] at e
    subst e
    have ew : on = 1 := hw.1 (.inl ⟨by decide, by decide⟩)
    subst ew
    rw [show crs 3 (atP 2).start [5] ([5] : List Int).length = [0, 5, 0] from by decide]
    exact at2_yes ⟨rfl, gl_mem (p := fun x => 0 ≤ x) (by decide) (by decide), by decide, by decide⟩ (by decide)
  · rw [hx] at e
    subst e
    have ew : on = 1 := hw.1 (.inl ⟨by decide, by decide⟩)
    subst ew
    rw [show crs 3 (atP 2).start [6] ([6] : List Int).length = [0, 6, 0] from by decide]
    exact at2_yes ⟨rfl, gl_mem (p := fun x => 0 ≤ x) (by decide) (by decide), by decide, by decide⟩ (by decide)
  · rw [hx] at e
    subst e
    have ew : on = 1 := hw.1 (.inl ⟨by decide, by decide⟩)
    subst ew
    rw [show crs 3 (atP 2).start [7] ([7] : List Int).length = [0, 7, 0] from by decide]
    exact at2_yes ⟨rfl, gl_mem (p := fun x => 0 ≤ x) (by decide) (by decide), by decide, by decide⟩ (by decide)
  · rw [hx] at e
    subst e
    have ew : on = 1 := hw.1 (.inl ⟨by decide, by decide⟩)
    subst ew
    rw [show crs 3 (atP 2).start [8] ([8] : List Int).length = [0, 8, 0] from by decide]
    exact at2_yes ⟨rfl, gl_mem (p := fun x => 0 ≤ x) (by decide) (by decide), by decide, by decide⟩ (by decide)
  · rw [hx] at e
    subst e
    have ew : on = 1 := hw.1 (.inl ⟨by decide, by decide⟩)
    subst ew
    rw [show crs 3 (atP 2).start [9] ([9] : List Int).length = [0, 9, 0] from by decide]
    exact at2_yes ⟨rfl, gl_mem (p := fun x => 0 ≤ x) (by decide) (by decide), by decide, by decide⟩ (by decide)
theorem atOk3 : POk (atP 3) := ⟨by decide, by decide, by decide, by decide, by decide, by decide, by decide, by decide, rok_of (by decide) (by decide)⟩
theorem atS3 : ∀ k, Cnt k 1 → Solves (atP 3) 4 ⟨[1], 3, 0⟩ k := by
  intro k hk on hw
  obtain ⟨e, h1, h2⟩ := cnt1 hk
  have hx : gl k 0 = 1 ∨ gl k 0 = 2 ∨ gl k 0 = 3 ∨ gl k 0 = 4 ∨ gl k 0 = 5 ∨ gl k 0 = 6 ∨ gl k 0 = 7 ∨ gl k 0 = 8 ∨ gl k 0 = 9 := by omega
  have eR : (atP 3).rules = [⟨0, 3, 3, 3⟩, ⟨1, 1, 2, 0⟩, ⟨1, 2, 3, 3⟩, ⟨1, 3, 3, 3⟩, ⟨2, 2, 3, 3⟩, ⟨2, 3, 3, 3⟩, ⟨3, 3, 3, 3⟩] := rfl
  have eO : (atP 3).out = [0, 0, 0, 1] := rfl
  rw [eR, eO]
  rcases hx with hx | hx | hx | hx | hx | hx | hx | hx | hx
  · rw [hx] at e
    subst e
    have ew : on = 0 := hw.2 (by rintro (⟨h, h'⟩ | ⟨h, h'⟩) <;> revert h h' <;> decide)
    subst ew
    rw [show crs 4 (atP 3).start [1] ([1] : List Int).length = [0, 1, 0, 0] from by decide]
    exact at3_no ⟨rfl, gl_mem (p := fun x => 0 ≤ x) (by decide) (by decide), by decide, by decide⟩ (by decide)
  · rw [hx] at e
    subst e
    have ew : on = 0 := hw.2 (by rintro (⟨h, h'⟩ | ⟨h, h'⟩) <;> revert h h' <;> decide)
    subst ew
    rw [show crs 4 (atP 3).start [2] ([2] : List Int).length = [0, 2, 0, 0] from by decide]
    exact at3_no ⟨rfl, gl_mem (p := fun x => 0 ≤ x) (by decide) (by decide), by decide, by decide⟩ (by decide)
  · rw [hx] at e
    subst e
    have ew : on = 1 := hw.1 (.inl ⟨by decide, by decide⟩)
    subst ew
    rw [show crs 4 (atP 3).start [3] ([3] : List Int).length = [0, 3, 0, 0] from by decide]
    exact at3_yes ⟨rfl, gl_mem (p := fun x => 0 ≤ x) (by decide) (by decide), by decide, by decide⟩ (by decide)
  · rw [hx] at e
    subst e
    have ew : on = 1 := hw.1 (.inl ⟨by decide, by decide⟩)
    subst ew
    rw [show crs 4 (atP 3).start [4] ([4] : List Int).length = [0, 4, 0, 0] from by decide]
    exact at3_yes ⟨rfl, gl_mem (p := fun x => 0 ≤ x) (by decide) (by decide), by decide, by decide⟩ (by decide)
  · rw [hx] at e
    subst e
    have ew : on = 1 := hw.1 (.inl ⟨by decide, by decide⟩)
    subst ew
    rw [show crs 4 (atP 3).start [5] ([5] : List Int).length = [0, 5, 0, 0] from by decide]
    exact at3_yes ⟨rfl, gl_mem (p := fun x => 0 ≤ x) (by decide) (by decide), by decide, by decide⟩ (by decide)
  · rw [hx] at e
    subst e
    have ew : on = 1 := hw.1 (.inl ⟨by decide, by decide⟩)
    subst ew
    rw [show crs 4 (atP 3).start [6] ([6] : List Int).length = [0, 6, 0, 0] from by decide]
    exact at3_yes ⟨rfl, gl_mem (p := fun x => 0 ≤ x) (by decide) (by decide), by decide, by decide⟩ (by decide)
  · rw [hx] at e
    subst e
    have ew : on = 1 := hw.1 (.inl ⟨by decide, by decide⟩)
    subst ew
    rw [show crs 4 (atP 3).start [7] ([7] : List Int).length = [0, 7, 0, 0] from by decide]
    exact at3_yes ⟨rfl, gl_mem (p := fun x => 0 ≤ x) (by decide) (by decide), by decide, by decide⟩ (by decide)
  · rw [hx] at e
    subst e
    have ew : on = 1 := hw.1 (.inl ⟨by decide, by decide⟩)
    subst ew
    rw [show crs 4 (atP 3).start [8] ([8] : List Int).length = [0, 8, 0, 0] from by decide]
    exact at3_yes ⟨rfl, gl_mem (p := fun x => 0 ≤ x) (by decide) (by decide), by decide, by decide⟩ (by decide)
  · rw [hx] at e
    subst e
    have ew : on = 1 := hw.1 (.inl ⟨by decide, by decide⟩)
    subst ew
    rw [show crs 4 (atP 3).start [9] ([9] : List Int).length = [0, 9, 0, 0] from by decide]
    exact at3_yes ⟨rfl, gl_mem (p := fun x => 0 ≤ x) (by decide) (by decide), by decide, by decide⟩ (by decide)
theorem atOk4 : POk (atP 4) := ⟨by decide, by decide, by decide, by decide, by decide, by decide, by decide, by decide, rok_of (by decide) (by decide)⟩
theorem atS4 : ∀ k, Cnt k 1 → Solves (atP 4) 5 ⟨[1], 4, 0⟩ k := by
  intro k hk on hw
  obtain ⟨e, h1, h2⟩ := cnt1 hk
  have hx : gl k 0 = 1 ∨ gl k 0 = 2 ∨ gl k 0 = 3 ∨ gl k 0 = 4 ∨ gl k 0 = 5 ∨ gl k 0 = 6 ∨ gl k 0 = 7 ∨ gl k 0 = 8 ∨ gl k 0 = 9 := by omega
  have eR : (atP 4).rules = [⟨0, 4, 4, 4⟩, ⟨1, 1, 2, 0⟩, ⟨1, 2, 3, 0⟩, ⟨1, 3, 4, 4⟩, ⟨1, 4, 4, 4⟩, ⟨2, 2, 4, 4⟩, ⟨2, 3, 4, 4⟩, ⟨2, 4, 4, 4⟩, ⟨3, 3, 4, 4⟩, ⟨3, 4, 4, 4⟩, ⟨4, 4, 4, 4⟩] := rfl
  have eO : (atP 4).out = [0, 0, 0, 0, 1] := rfl
  rw [eR, eO]
  rcases hx with hx | hx | hx | hx | hx | hx | hx | hx | hx
  · rw [hx] at e
    subst e
    have ew : on = 0 := hw.2 (by rintro (⟨h, h'⟩ | ⟨h, h'⟩) <;> revert h h' <;> decide)
    subst ew
    rw [show crs 5 (atP 4).start [1] ([1] : List Int).length = [0, 1, 0, 0, 0] from by decide]
    exact at4_no ⟨rfl, gl_mem (p := fun x => 0 ≤ x) (by decide) (by decide), by decide, by decide⟩ (by decide)
  · rw [hx] at e
    subst e
    have ew : on = 0 := hw.2 (by rintro (⟨h, h'⟩ | ⟨h, h'⟩) <;> revert h h' <;> decide)
    subst ew
    rw [show crs 5 (atP 4).start [2] ([2] : List Int).length = [0, 2, 0, 0, 0] from by decide]
    exact at4_no ⟨rfl, gl_mem (p := fun x => 0 ≤ x) (by decide) (by decide), by decide, by decide⟩ (by decide)
  · rw [hx] at e
    subst e
    have ew : on = 0 := hw.2 (by rintro (⟨h, h'⟩ | ⟨h, h'⟩) <;> revert h h' <;> decide)
    subst ew
    rw [show crs 5 (atP 4).start [3] ([3] : List Int).length = [0, 3, 0, 0, 0] from by decide]
    exact at4_no ⟨rfl, gl_mem (p := fun x => 0 ≤ x) (by decide) (by decide), by decide, by decide⟩ (by decide)
  · rw [hx] at e
    subst e
    have ew : on = 1 := hw.1 (.inl ⟨by decide, by decide⟩)
    subst ew
    rw [show crs 5 (atP 4).start [4] ([4] : List Int).length = [0, 4, 0, 0, 0] from by decide]
    exact at4_yes ⟨rfl, gl_mem (p := fun x => 0 ≤ x) (by decide) (by decide), by decide, by decide⟩ (by decide)
  · rw [hx] at e
    subst e
    have ew : on = 1 := hw.1 (.inl ⟨by decide, by decide⟩)
    subst ew
    rw [show crs 5 (atP 4).start [5] ([5] : List Int).length = [0, 5, 0, 0, 0] from by decide]
    exact at4_yes ⟨rfl, gl_mem (p := fun x => 0 ≤ x) (by decide) (by decide), by decide, by decide⟩ (by decide)
  · rw [hx] at e
    subst e
    have ew : on = 1 := hw.1 (.inl ⟨by decide, by decide⟩)
    subst ew
    rw [show crs 5 (atP 4).start [6] ([6] : List Int).length = [0, 6, 0, 0, 0] from by decide]
    exact at4_yes ⟨rfl, gl_mem (p := fun x => 0 ≤ x) (by decide) (by decide), by decide, by decide⟩ (by decide)
  · rw [hx] at e
    subst e
    have ew : on = 1 := hw.1 (.inl ⟨by decide, by decide⟩)
    subst ew
    rw [show crs 5 (atP 4).start [7] ([7] : List Int).length = [0, 7, 0, 0, 0] from by decide]
    exact at4_yes ⟨rfl, gl_mem (p := fun x => 0 ≤ x) (by decide) (by decide), by decide, by decide⟩ (by decide)
  · rw [hx] at e
    subst e
    have ew : on = 1 := hw.1 (.inl ⟨by decide, by decide⟩)
    subst ew
    rw [show crs 5 (atP 4).start [8] ([8] : List Int).length = [0, 8, 0, 0, 0] from by decide]
    exact at4_yes ⟨rfl, gl_mem (p := fun x => 0 ≤ x) (by decide) (by decide), by decide, by decide⟩ (by decide)
  · rw [hx] at e
    subst e
    have ew : on = 1 := hw.1 (.inl ⟨by decide, by decide⟩)
    subst ew
    rw [show crs 5 (atP 4).start [9] ([9] : List Int).length = [0, 9, 0, 0, 0] from by decide]
    exact at4_yes ⟨rfl, gl_mem (p := fun x => 0 ≤ x) (by decide) (by decide), by decide, by decide⟩ (by decide)
theorem leOk10 : POk (leP 1 0) := ⟨by decide, by decide, by decide, by decide, by decide, by decide, by decide, by decide, rok_of (by decide) (by decide)⟩
theorem leS10 : ∀ k, Cnt k 1 → Solves (leP 1 0) 3 ⟨[1], 0, 1⟩ k := by
  intro k hk on hw
  obtain ⟨e, h1, h2⟩ := cnt1 hk
  have hx : gl k 0 = 1 ∨ gl k 0 = 2 ∨ gl k 0 = 3 ∨ gl k 0 = 4 ∨ gl k 0 = 5 ∨ gl k 0 = 6 ∨ gl k 0 = 7 ∨ gl k 0 = 8 ∨ gl k 0 = 9 := by omega
  have eR : (leP 1 0).rules = [⟨0, 0, 0, 2⟩, ⟨0, 1, 0, 2⟩] := rfl
  have eO : (leP 1 0).out = [1, 0, 1] := rfl
  rw [eR, eO]
  rcases hx with hx | hx | hx | hx | hx | hx | hx | hx | hx
  · rw [hx] at e
    subst e
    have ew : on = 1 := hw.1 (.inr ⟨by decide, by decide⟩)
    subst ew
    rw [show crs 3 (leP 1 0).start [1] ([1] : List Int).length = [1, 0, 0] from by decide]
    exact le10_1 ⟨rfl, gl_mem (p := fun x => 0 ≤ x) (by decide) (by decide), by decide, by decide⟩ (by decide)
  · rw [hx] at e
    subst e
    have ew : on = 1 := hw.1 (.inr ⟨by decide, by decide⟩)
    subst ew
    rw [show crs 3 (leP 1 0).start [2] ([2] : List Int).length = [2, 0, 0] from by decide]
    exact le10_1 ⟨rfl, gl_mem (p := fun x => 0 ≤ x) (by decide) (by decide), by decide, by decide⟩ (by decide)
  · rw [hx] at e
    subst e
    have ew : on = 1 := hw.1 (.inr ⟨by decide, by decide⟩)
    subst ew
    rw [show crs 3 (leP 1 0).start [3] ([3] : List Int).length = [3, 0, 0] from by decide]
    exact le10_1 ⟨rfl, gl_mem (p := fun x => 0 ≤ x) (by decide) (by decide), by decide, by decide⟩ (by decide)
  · rw [hx] at e
    subst e
    have ew : on = 1 := hw.1 (.inr ⟨by decide, by decide⟩)
    subst ew
    rw [show crs 3 (leP 1 0).start [4] ([4] : List Int).length = [4, 0, 0] from by decide]
    exact le10_1 ⟨rfl, gl_mem (p := fun x => 0 ≤ x) (by decide) (by decide), by decide, by decide⟩ (by decide)
  · rw [hx] at e
    subst e
    have ew : on = 1 := hw.1 (.inr ⟨by decide, by decide⟩)
    subst ew
    rw [show crs 3 (leP 1 0).start [5] ([5] : List Int).length = [5, 0, 0] from by decide]
    exact le10_1 ⟨rfl, gl_mem (p := fun x => 0 ≤ x) (by decide) (by decide), by decide, by decide⟩ (by decide)
  · rw [hx] at e
    subst e
    have ew : on = 1 := hw.1 (.inr ⟨by decide, by decide⟩)
    subst ew
    rw [show crs 3 (leP 1 0).start [6] ([6] : List Int).length = [6, 0, 0] from by decide]
    exact le10_1 ⟨rfl, gl_mem (p := fun x => 0 ≤ x) (by decide) (by decide), by decide, by decide⟩ (by decide)
  · rw [hx] at e
    subst e
    have ew : on = 1 := hw.1 (.inr ⟨by decide, by decide⟩)
    subst ew
    rw [show crs 3 (leP 1 0).start [7] ([7] : List Int).length = [7, 0, 0] from by decide]
    exact le10_1 ⟨rfl, gl_mem (p := fun x => 0 ≤ x) (by decide) (by decide), by decide, by decide⟩ (by decide)
  · rw [hx] at e
    subst e
    have ew : on = 1 := hw.1 (.inr ⟨by decide, by decide⟩)
    subst ew
    rw [show crs 3 (leP 1 0).start [8] ([8] : List Int).length = [8, 0, 0] from by decide]
    exact le10_1 ⟨rfl, gl_mem (p := fun x => 0 ≤ x) (by decide) (by decide), by decide, by decide⟩ (by decide)
  · rw [hx] at e
    subst e
    have ew : on = 1 := hw.1 (.inr ⟨by decide, by decide⟩)
    subst ew
    rw [show crs 3 (leP 1 0).start [9] ([9] : List Int).length = [9, 0, 0] from by decide]
    exact le10_1 ⟨rfl, gl_mem (p := fun x => 0 ≤ x) (by decide) (by decide), by decide, by decide⟩ (by decide)
theorem leOk20 : POk (leP 2 0) := ⟨by decide, by decide, by decide, by decide, by decide, by decide, by decide, by decide, rok_of (by decide) (by decide)⟩
theorem leS20 : ∀ k, Cnt k 1 → Solves (leP 2 0) 4 ⟨[1], 0, 2⟩ k := by
  intro k hk on hw
  obtain ⟨e, h1, h2⟩ := cnt1 hk
  have hx : gl k 0 = 1 ∨ gl k 0 = 2 ∨ gl k 0 = 3 ∨ gl k 0 = 4 ∨ gl k 0 = 5 ∨ gl k 0 = 6 ∨ gl k 0 = 7 ∨ gl k 0 = 8 ∨ gl k 0 = 9 := by omega
  have eR : (leP 2 0).rules = [⟨0, 0, 0, 3⟩, ⟨0, 1, 1, 2⟩, ⟨0, 2, 0, 3⟩, ⟨1, 1, 0, 3⟩, ⟨1, 3, 1, 2⟩] := rfl
  have eO : (leP 2 0).out = [1, 0, 0, 1] := rfl
  rw [eR, eO]
  rcases hx with hx | hx | hx | hx | hx | hx | hx | hx | hx
  · rw [hx] at e
    subst e
    have ew : on = 0 := hw.2 (by rintro (⟨h, h'⟩ | ⟨h, h'⟩) <;> revert h h' <;> decide)
    subst ew
    rw [show crs 4 (leP 2 0).start [1] ([1] : List Int).length = [0, 1, 0, 0] from by decide]
    exact le20_0 ⟨rfl, gl_mem (p := fun x => 0 ≤ x) (by decide) (by decide), by decide, by decide⟩ (by decide)
  · rw [hx] at e
    subst e
    have ew : on = 1 := hw.1 (.inr ⟨by decide, by decide⟩)
    subst ew
    rw [show crs 4 (leP 2 0).start [2] ([2] : List Int).length = [0, 2, 0, 0] from by decide]
    exact le20_1 ⟨rfl, gl_mem (p := fun x => 0 ≤ x) (by decide) (by decide), by decide, by decide⟩ (by decide)
  · rw [hx] at e
    subst e
    have ew : on = 0 := hw.2 (by rintro (⟨h, h'⟩ | ⟨h, h'⟩) <;> revert h h' <;> decide)
    subst ew
    rw [show crs 4 (leP 2 0).start [3] ([3] : List Int).length = [0, 3, 0, 0] from by decide]
    exact le20_0 ⟨rfl, gl_mem (p := fun x => 0 ≤ x) (by decide) (by decide), by decide, by decide⟩ (by decide)
  · rw [hx] at e
    subst e
    have ew : on = 1 := hw.1 (.inr ⟨by decide, by decide⟩)
    subst ew
    rw [show crs 4 (leP 2 0).start [4] ([4] : List Int).length = [0, 4, 0, 0] from by decide]
    exact le20_1 ⟨rfl, gl_mem (p := fun x => 0 ≤ x) (by decide) (by decide), by decide, by decide⟩ (by decide)
  · rw [hx] at e
    subst e
    have ew : on = 0 := hw.2 (by rintro (⟨h, h'⟩ | ⟨h, h'⟩) <;> revert h h' <;> decide)
    subst ew
    rw [show crs 4 (leP 2 0).start [5] ([5] : List Int).length = [0, 5, 0, 0] from by decide]
    exact le20_0 ⟨rfl, gl_mem (p := fun x => 0 ≤ x) (by decide) (by decide), by decide, by decide⟩ (by decide)
  · rw [hx] at e
    subst e
    have ew : on = 1 := hw.1 (.inr ⟨by decide, by decide⟩)
    subst ew
    rw [show crs 4 (leP 2 0).start [6] ([6] : List Int).length = [0, 6, 0, 0] from by decide]
    exact le20_1 ⟨rfl, gl_mem (p := fun x => 0 ≤ x) (by decide) (by decide), by decide, by decide⟩ (by decide)
  · rw [hx] at e
    subst e
    have ew : on = 0 := hw.2 (by rintro (⟨h, h'⟩ | ⟨h, h'⟩) <;> revert h h' <;> decide)
    subst ew
    rw [show crs 4 (leP 2 0).start [7] ([7] : List Int).length = [0, 7, 0, 0] from by decide]
    exact le20_0 ⟨rfl, gl_mem (p := fun x => 0 ≤ x) (by decide) (by decide), by decide, by decide⟩ (by decide)
  · rw [hx] at e
    subst e
    have ew : on = 1 := hw.1 (.inr ⟨by decide, by decide⟩)
    subst ew
    rw [show crs 4 (leP 2 0).start [8] ([8] : List Int).length = [0, 8, 0, 0] from by decide]
    exact le20_1 ⟨rfl, gl_mem (p := fun x => 0 ≤ x) (by decide) (by decide), by decide, by decide⟩ (by decide)
  · rw [hx] at e
    subst e
    have ew : on = 0 := hw.2 (by rintro (⟨h, h'⟩ | ⟨h, h'⟩) <;> revert h h' <;> decide)
    subst ew
    rw [show crs 4 (leP 2 0).start [9] ([9] : List Int).length = [0, 9, 0, 0] from by decide]
    exact le20_0 ⟨rfl, gl_mem (p := fun x => 0 ≤ x) (by decide) (by decide), by decide, by decide⟩ (by decide)
theorem leOk21 : POk (leP 2 1) := ⟨by decide, by decide, by decide, by decide, by decide, by decide, by decide, by decide, rok_of (by decide) (by decide)⟩
theorem leS21 : ∀ k, Cnt k 1 → Solves (leP 2 1) 4 ⟨[1], 1, 2⟩ k := by
  intro k hk on hw
  obtain ⟨e, h1, h2⟩ := cnt1 hk
  have hx : gl k 0 = 1 ∨ gl k 0 = 2 ∨ gl k 0 = 3 ∨ gl k 0 = 4 ∨ gl k 0 = 5 ∨ gl k 0 = 6 ∨ gl k 0 = 7 ∨ gl k 0 = 8 ∨ gl k 0 = 9 := by omega
  have eR : (leP 2 1).rules = [⟨0, 0, 0, 2⟩, ⟨0, 1, 1, 3⟩, ⟨0, 3, 0, 2⟩, ⟨1, 1, 0, 2⟩, ⟨1, 2, 1, 3⟩] := rfl
  have eO : (leP 2 1).out = [0, 1, 0, 1] := rfl
  rw [eR, eO]
  rcases hx with hx | hx | hx | hx | hx | hx | hx | hx | hx
  · rw [hx] at e
    subst e
    have ew : on = 1 := hw.1 (.inr ⟨by decide, by decide⟩)
    subst ew
    rw [show crs 4 (leP 2 1).start [1] ([1] : List Int).length = [0, 1, 0, 0] from by decide]
    exact le21_1 ⟨rfl, gl_mem (p := fun x => 0 ≤ x) (by decide) (by decide), by decide, by decide⟩ (by decide)
  · rw [hx] at e
    subst e
    have ew : on = 0 := hw.2 (by rintro (⟨h, h'⟩ | ⟨h, h'⟩) <;> revert h h' <;> decide)
    subst ew
    rw [show crs 4 (leP 2 1).start [2] ([2] : List Int).length = [0, 2, 0, 0] from by decide]
    exact le21_0 ⟨rfl, gl_mem (p := fun x => 0 ≤ x) (by decide) (by decide), by decide, by decide⟩ (by decide)
  · rw [hx] at e
    subst e
    have ew : on = 1 := hw.1 (.inr ⟨by decide, by decide⟩)
    subst ew
    rw [show crs 4 (leP 2 1).start [3] ([3] : List Int).length = [0, 3, 0, 0] from by decide]
    exact le21_1 ⟨rfl, gl_mem (p := fun x => 0 ≤ x) (by decide) (by decide), by decide, by decide⟩ (by decide)
  · rw [hx] at e
    subst e
    have ew : on = 0 := hw.2 (by rintro (⟨h, h'⟩ | ⟨h, h'⟩) <;> revert h h' <;> decide)
    subst ew
    rw [show crs 4 (leP 2 1).start [4] ([4] : List Int).length = [0, 4, 0, 0] from by decide]
    exact le21_0 ⟨rfl, gl_mem (p := fun x => 0 ≤ x) (by decide) (by decide), by decide, by decide⟩ (by decide)
  · rw [hx] at e
    subst e
    have ew : on = 1 := hw.1 (.inr ⟨by decide, by decide⟩)
    subst ew
    rw [show crs 4 (leP 2 1).start [5] ([5] : List Int).length = [0, 5, 0, 0] from by decide]
    exact le21_1 ⟨rfl, gl_mem (p := fun x => 0 ≤ x) (by decide) (by decide), by decide, by decide⟩ (by decide)
  · rw [hx] at e
    subst e
    have ew : on = 0 := hw.2 (by rintro (⟨h, h'⟩ | ⟨h, h'⟩) <;> revert h h' <;> decide)
    subst ew
    rw [show crs 4 (leP 2 1).start [6] ([6] : List Int).length = [0, 6, 0, 0] from by decide]
    exact le21_0 ⟨rfl, gl_mem (p := fun x => 0 ≤ x) (by decide) (by decide), by decide, by decide⟩ (by decide)
  · rw [hx] at e
    subst e
    have ew : on = 1 := hw.1 (.inr ⟨by decide, by decide⟩)
    subst ew
    rw [show crs 4 (leP 2 1).start [7] ([7] : List Int).length = [0, 7, 0, 0] from by decide]
    exact le21_1 ⟨rfl, gl_mem (p := fun x => 0 ≤ x) (by decide) (by decide), by decide, by decide⟩ (by decide)
  · rw [hx] at e
    subst e
    have ew : on = 0 := hw.2 (by rintro (⟨h, h'⟩ | ⟨h, h'⟩) <;> revert h h' <;> decide)
    subst ew
    rw [show crs 4 (leP 2 1).start [8] ([8] : List Int).length = [0, 8, 0, 0] from by decide]
    exact le21_0 ⟨rfl, gl_mem (p := fun x => 0 ≤ x) (by decide) (by decide), by decide, by decide⟩ (by decide)
  · rw [hx] at e
    subst e
    have ew : on = 1 := hw.1 (.inr ⟨by decide, by decide⟩)
    subst ew
    rw [show crs 4 (leP 2 1).start [9] ([9] : List Int).length = [0, 9, 0, 0] from by decide]
    exact le21_1 ⟨rfl, gl_mem (p := fun x => 0 ≤ x) (by decide) (by decide), by decide, by decide⟩ (by decide)
theorem leOk30 : POk (leP 3 0) := ⟨by decide, by decide, by decide, by decide, by decide, by decide, by decide, by decide, rok_of (by decide) (by decide)⟩
theorem leS30 : ∀ k, Cnt k 1 → Solves (leP 3 0) 5 ⟨[1], 0, 3⟩ k := by
  intro k hk on hw
  obtain ⟨e, h1, h2⟩ := cnt1 hk
  have hx : gl k 0 = 1 ∨ gl k 0 = 2 ∨ gl k 0 = 3 ∨ gl k 0 = 4 ∨ gl k 0 = 5 ∨ gl k 0 = 6 ∨ gl k 0 = 7 ∨ gl k 0 = 8 ∨ gl k 0 = 9 := by omega
  have eR : (leP 3 0).rules = [⟨0, 0, 0, 4⟩, ⟨0, 1, 1, 3⟩, ⟨0, 2, 2, 3⟩, ⟨0, 3, 0, 4⟩, ⟨1, 1, 2, 3⟩, ⟨1, 2, 0, 4⟩, ⟨1, 4, 1, 3⟩, ⟨2, 2, 1, 3⟩, ⟨2, 4, 2, 3⟩] := rfl
  have eO : (leP 3 0).out = [1, 0, 0, 0, 1] := rfl
  rw [eR, eO]
  rcases hx with hx | hx | hx | hx | hx | hx | hx | hx | hx
  · rw [hx] at e
    subst e
    have ew : on = 0 := hw.2 (by rintro (⟨h, h'⟩ | ⟨h, h'⟩) <;> revert h h' <;> decide)
    subst ew
    rw [show crs 5 (leP 3 0).start [1] ([1] : List Int).length = [0, 1, 0, 0, 0] from by decide]
    exact le30_0 ⟨rfl, gl_mem (p := fun x => 0 ≤ x) (by decide) (by decide), by decide, by decide⟩ (by decide)
  · rw [hx] at e
    subst e
    have ew : on = 0 := hw.2 (by rintro (⟨h, h'⟩ | ⟨h, h'⟩) <;> revert h h' <;> decide)
    subst ew
    rw [show crs 5 (leP 3 0).start [2] ([2] : List Int).length = [0, 2, 0, 0, 0] from by decide]
    exact le30_0 ⟨rfl, gl_mem (p := fun x => 0 ≤ x) (by decide) (by decide), by decide, by decide⟩ (by decide)
  · rw [hx] at e
    subst e
    have ew : on = 1 := hw.1 (.inr ⟨by decide, by decide⟩)
    subst ew
    rw [show crs 5 (leP 3 0).start [3] ([3] : List Int).length = [0, 3, 0, 0, 0] from by decide]
    exact le30_1 ⟨rfl, gl_mem (p := fun x => 0 ≤ x) (by decide) (by decide), by decide, by decide⟩ (by decide)
  · rw [hx] at e
    subst e
    have ew : on = 0 := hw.2 (by rintro (⟨h, h'⟩ | ⟨h, h'⟩) <;> revert h h' <;> decide)
    subst ew
    rw [show crs 5 (leP 3 0).start [4] ([4] : List Int).length = [0, 4, 0, 0, 0] from by decide]
    exact le30_0 ⟨rfl, gl_mem (p := fun x => 0 ≤ x) (by decide) (by decide), by decide, by decide⟩ (by decide)
  · rw [hx] at e
    subst e
    have ew : on = 0 := hw.2 (by rintro (⟨h, h'⟩ | ⟨h, h'⟩) <;> revert h h' <;> decide)
    subst ew
    rw [show crs 5 (leP 3 0).start [5] ([5] : List Int).length = [0, 5, 0, 0, 0] from by decide]
    exact le30_0 ⟨rfl, gl_mem (p := fun x => 0 ≤ x) (by decide) (by decide), by decide, by decide⟩ (by decide)
  · rw [hx] at e
    subst e
    have ew : on = 1 := hw.1 (.inr ⟨by decide, by decide⟩)
    subst ew
    rw [show crs 5 (leP 3 0).start [6] ([6] : List Int).length = [0, 6, 0, 0, 0] from by decide]
    exact le30_1 ⟨rfl, gl_mem (p := fun x => 0 ≤ x) (by decide) (by decide), by decide, by decide⟩ (by decide)
  · rw [hx] at e
    subst e
    have ew : on = 0 := hw.2 (by rintro (⟨h, h'⟩ | ⟨h, h'⟩) <;> revert h h' <;> decide)
    subst ew
    rw [show crs 5 (leP 3 0).start [7] ([7] : List Int).length = [0, 7, 0, 0, 0] from by decide]
    exact le30_0 ⟨rfl, gl_mem (p := fun x => 0 ≤ x) (by decide) (by decide), by decide, by decide⟩ (by decide)
  · rw [hx] at e
    subst e
    have ew : on = 0 := hw.2 (by rintro (⟨h, h'⟩ | ⟨h, h'⟩) <;> revert h h' <;> decide)
    subst ew
    rw [show crs 5 (leP 3 0).start [8] ([8] : List Int).length = [0, 8, 0, 0, 0] from by decide]
    exact le30_0 ⟨rfl, gl_mem (p := fun x => 0 ≤ x) (by decide) (by decide), by decide, by decide⟩ (by decide)
  · rw [hx] at e
    subst e
    have ew : on = 1 := hw.1 (.inr ⟨by decide, by decide⟩)
    subst ew
    rw [show crs 5 (leP 3 0).start [9] ([9] : List Int).length = [0, 9, 0, 0, 0] from by decide]
    exact le30_1 ⟨rfl, gl_mem (p := fun x => 0 ≤ x) (by decide) (by decide), by decide, by decide⟩ (by decide)
theorem leOk31 : POk (leP 3 1) := ⟨by decide, by decide, by decide, by decide, by decide, by decide, by decide, by decide, rok_of (by decide) (by decide)⟩
theorem leS31 : ∀ k, Cnt k 1 → Solves (leP 3 1) 5 ⟨[1], 1, 3⟩ k := by
  intro k hk on hw
  obtain ⟨e, h1, h2⟩ := cnt1 hk
  have hx : gl k 0 = 1 ∨ gl k 0 = 2 ∨ gl k 0 = 3 ∨ gl k 0 = 4 ∨ gl k 0 = 5 ∨ gl k 0 = 6 ∨ gl k 0 = 7 ∨ gl k 0 = 8 ∨ gl k 0 = 9 := by omega
  have eR : (leP 3 1).rules = [⟨0, 0, 0, 3⟩, ⟨0, 1, 1, 4⟩, ⟨0, 2, 2, 3⟩, ⟨0, 4, 0, 3⟩, ⟨1, 1, 2, 3⟩, ⟨1, 2, 0, 3⟩, ⟨1, 3, 1, 4⟩, ⟨2, 2, 1, 4⟩, ⟨2, 4, 2, 3⟩] := rfl
  have eO : (leP 3 1).out = [0, 1, 0, 0, 1] := rfl
  rw [eR, eO]
  rcases hx with hx | hx | hx | hx | hx | hx | hx | hx | hx
  · rw [hx] at e
    subst e
    have ew : on = 1 := hw.1 (.inr ⟨by decide, by decide⟩)
    subst ew
    rw [show crs 5 (leP 3 1).start [1] ([1] : List Int).length = [0, 1, 0, 0, 0] from by decide]
    exact le31_1 ⟨rfl, gl_mem (p := fun x => 0 ≤ x) (by decide) (by decide), by decide, by decide⟩ (by decide)
  · rw [hx] at e
    subst e
    have ew : on = 0 := hw.2 (by rintro (⟨h, h'⟩ | ⟨h, h'⟩) <;> revert h h' <;> decide)
    subst ew
    rw [show crs 5 (leP 3 1).start [2] ([2] : List Int).length = [0, 2, 0, 0, 0] from by decide]
    exact le31_0 ⟨rfl, gl_mem (p := fun x => 0 ≤ x) (by decide) (by decide), by decide, by decide⟩ (by decide)
  · rw [hx] at e
    subst e
    have ew : on = 0 := hw.2 (by rintro (⟨h, h'⟩ | ⟨h, h'⟩) <;> revert h h' <;> decide)
    subst ew
    rw [show crs 5 (leP 3 1).start [3] ([3] : List Int).length = [0, 3, 0, 0, 0] from by decide]
    exact le31_0 ⟨rfl, gl_mem (p := fun x => 0 ≤ x) (by decide) (by decide), by decide, by decide⟩ (by decide)
  · rw [hx] at e
    subst e
    have ew : on = 1 := hw.1 (.inr ⟨by decide, by decide⟩)
    subst ew
    rw [show crs 5 (leP 3 1).start [4] ([4] : List Int).length = [0, 4, 0, 0, 0] from by decide]
    exact le31_1 ⟨rfl, gl_mem (p := fun x => 0 ≤ x) (by decide) (by decide), by decide, by decide⟩ (by decide)
  · rw [hx] at e
    subst e
    have ew : on = 0 := hw.2 (by rintro (⟨h, h'⟩ | ⟨h, h'⟩) <;> revert h h' <;> decide)
    subst ew
    rw [show crs 5 (leP 3 1).start [5] ([5] : List Int).length = [0, 5, 0, 0, 0] from by decide]
    exact le31_0 ⟨rfl, gl_mem (p := fun x => 0 ≤ x) (by decide) (by decide), by decide, by decide⟩ (by decide)
  · rw [hx] at e
    subst e
    have ew : on = 0 := hw.2 (by rintro (⟨h, h'⟩ | ⟨h, h'⟩) <;> revert h h' <;> decide)
    subst ew
    rw [show crs 5 (leP 3 1).start [6] ([6] : List Int).length = [0, 6, 0, 0, 0] from by decide]
    exact le31_0 ⟨rfl, gl_mem (p := fun x => 0 ≤ x) (by decide) (by decide), by decide, by decide⟩ (by decide)
  · rw [hx] at e
    subst e
    have ew : on = 1 := hw.1 (.inr ⟨by decide, by decide⟩)
    subst ew
    rw [show crs 5 (leP 3 1).start [7] ([7] : List Int).length = [0, 7, 0, 0, 0] from by decide]
    exact le31_1 ⟨rfl, gl_mem (p := fun x => 0 ≤ x) (by decide) (by decide), by decide, by decide⟩ (by decide)
  · rw [hx] at e
    subst e
    have ew : on = 0 := hw.2 (by rintro (⟨h, h'⟩ | ⟨h, h'⟩) <;> revert h h' <;> decide)
    subst ew
    rw [show crs 5 (leP 3 1).start [8] ([8] : List Int).length = [0, 8, 0, 0, 0] from by decide]
    exact le31_0 ⟨rfl, gl_mem (p := fun x => 0 ≤ x) (by decide) (by decide), by decide, by decide⟩ (by decide)
  · rw [hx] at e
    subst e
    have ew : on = 0 := hw.2 (by rintro (⟨h, h'⟩ | ⟨h, h'⟩) <;> revert h h' <;> decide)
    subst ew
    rw [show crs 5 (leP 3 1).start [9] ([9] : List Int).length = [0, 9, 0, 0, 0] from by decide]
    exact le31_0 ⟨rfl, gl_mem (p := fun x => 0 ≤ x) (by decide) (by decide), by decide, by decide⟩ (by decide)
theorem leOk32 : POk (leP 3 2) := ⟨by decide, by decide, by decide, by decide, by decide, by decide, by decide, by decide, rok_of (by decide) (by decide)⟩
theorem leS32 : ∀ k, Cnt k 1 → Solves (leP 3 2) 5 ⟨[1], 2, 3⟩ k := by
  intro k hk on hw
  obtain ⟨e, h1, h2⟩ := cnt1 hk
  have hx : gl k 0 = 1 ∨ gl k 0 = 2 ∨ gl k 0 = 3 ∨ gl k 0 = 4 ∨ gl k 0 = 5 ∨ gl k 0 = 6 ∨ gl k 0 = 7 ∨ gl k 0 = 8 ∨ gl k 0 = 9 := by omega
  have eR : (leP 3 2).rules = [⟨0, 0, 0, 3⟩, ⟨0, 1, 1, 3⟩, ⟨0, 2, 2, 4⟩, ⟨0, 4, 0, 3⟩, ⟨1, 1, 2, 4⟩, ⟨1, 2, 0, 3⟩, ⟨1, 4, 1, 3⟩, ⟨2, 2, 1, 3⟩, ⟨2, 3, 2, 4⟩] := rfl
  have eO : (leP 3 2).out = [0, 0, 1, 0, 1] := rfl
  rw [eR, eO]
  rcases hx with hx | hx | hx | hx | hx | hx | hx | hx | hx
  · rw [hx] at e
    subst e
    have ew : on = 0 := hw.2 (by rintro (⟨h, h'⟩ | ⟨h, h'⟩) <;> revert h h' <;> decide)
    subst ew
    rw [show crs 5 (leP 3 2).start [1] ([1] : List Int).length = [0, 1, 0, 0, 0] from by decide]
    exact le32_0 ⟨rfl, gl_mem (p := fun x => 0 ≤ x) (by decide) (by decide), by decide, by decide⟩ (by decide)
  · rw [hx] at e
    subst e
    have ew : on = 1 := hw.1 (.inr ⟨by decide, by decide⟩)
    subst ew
    rw [show crs 5 (leP 3 2).start [2] ([2] : List Int).length = [0, 2, 0, 0, 0] from by decide]
    exact le32_1 ⟨rfl, gl_mem (p := fun x => 0 ≤ x) (by decide) (by decide), by decide, by decide⟩ (by decide)
  · rw [hx] at e
    subst e
    have ew : on = 0 := hw.2 (by rintro (⟨h, h'⟩ | ⟨h, h'⟩) <;> revert h h' <;> decide)
    subst ew
    rw [show crs 5 (leP 3 2).start [3] ([3] : List Int).length = [0, 3, 0, 0, 0] from by decide]
    exact le32_0 ⟨rfl, gl_mem (p := fun x => 0 ≤ x) (by decide) (by decide), by decide, by decide⟩ (by decide)
  · rw [hx] at e
    subst e
    have ew : on = 0 := hw.2 (by rintro (⟨h, h'⟩ | ⟨h, h'⟩) <;> revert h h' <;> decide)
    subst ew
    rw [show crs 5 (leP 3 2).start [4] ([4] : List Int).length = [0, 4, 0, 0, 0] from by decide]
    exact le32_0 ⟨rfl, gl_mem (p := fun x => 0 ≤ x) (by decide) (by decide), by decide, by decide⟩ (by decide)
  · rw [hx] at e
    subst e
    have ew : on = 1 := hw.1 (.inr ⟨by decide, by decide⟩)
    subst ew
    rw [show crs 5 (leP 3 2).start [5] ([5] : List Int).length = [0, 5, 0, 0, 0] from by decide]
    exact le32_1 ⟨rfl, gl_mem (p := fun x => 0 ≤ x) (by decide) (by decide), by decide, by decide⟩ (by decide)
  · rw [hx] at e
    subst e
    have ew : on = 0 := hw.2 (by rintro (⟨h, h'⟩ | ⟨h, h'⟩) <;> revert h h' <;> decide)
    subst ew
    rw [show crs 5 (leP 3 2).start [6] ([6] : List Int).length = [0, 6, 0, 0, 0] from by decide]
    exact le32_0 ⟨rfl, gl_mem (p := fun x => 0 ≤ x) (by decide) (by decide), by decide, by decide⟩ (by decide)
  · rw [hx] at e
    subst e
    have ew : on = 0 := hw.2 (by rintro (⟨h, h'⟩ | ⟨h, h'⟩) <;> revert h h' <;> decide)
    subst ew
    rw [show crs 5 (leP 3 2).start [7] ([7] : List Int).length = [0, 7, 0, 0, 0] from by decide]
    exact le32_0 ⟨rfl, gl_mem (p := fun x => 0 ≤ x) (by decide) (by decide), by decide, by decide⟩ (by decide)
  · rw [hx] at e
    subst e
    have ew : on = 1 := hw.1 (.inr ⟨by decide, by decide⟩)
    subst ew
    rw [show crs 5 (leP 3 2).start [8] ([8] : List Int).length = [0, 8, 0, 0, 0] from by decide]
    exact le32_1 ⟨rfl, gl_mem (p := fun x => 0 ≤ x) (by decide) (by decide), by decide, by decide⟩ (by decide)
  · rw [hx] at e
    subst e
    have ew : on = 0 := hw.2 (by rintro (⟨h, h'⟩ | ⟨h, h'⟩) <;> revert h h' <;> decide)
    subst ew
    rw [show crs 5 (leP 3 2).start [9] ([9] : List Int).length = [0, 9, 0, 0, 0] from by decide]
    exact le32_0 ⟨rfl, gl_mem (p := fun x => 0 ≤ x) (by decide) (by decide), by decide, by decide⟩ (by decide)
theorem majOk : POk (majP) := ⟨by decide, by decide, by decide, by decide, by decide, by decide, by decide, by decide, rok_of (by decide) (by decide)⟩
theorem majS : ∀ k, Cnt k 2 → Solves majP 4 ⟨[1, -1], 1, 0⟩ k := by
  intro k hk on hw
  obtain ⟨e, h1, h2, h3, h4⟩ := cnt2 hk
  have hex : ∃ x, gl k 0 = x := ⟨_, rfl⟩
  obtain ⟨x, hx⟩ := hex
  have hey : ∃ y, gl k 1 = y := ⟨_, rfl⟩
  obtain ⟨y, hy⟩ := hey
  rw [hx, hy] at e h3 h4
  rw [hx] at h1
  rw [hy] at h2
  clear hx hy hk
  subst e
  have ec : crs 4 majP.start [x, y] ([x, y] : List Int).length = [0 + x, 0 + y, 0, 0] := rfl
  have ed : dotN [1, -1] [x, y] 2 = x - y := by
    show 0 + 1 * x + -1 * y = _
    omega
  have hc : CrOk 4 [0 + x, 0 + y, 0, 0] := by
    refine ⟨rfl, gl_mem (p := fun z => 0 ≤ z) (fun z hz => ?_) (by decide), ?_, ?_⟩
    · simp only [List.mem_cons, List.not_mem_nil, or_false] at hz
      omega
    · show 1 ≤ 0 + x + (0 + y + (0 + (0 + 0)))
      omega
    · show 0 + x + (0 + y + (0 + (0 + 0))) ≤ 9
      omega
  rw [ec]
  by_cases ht : 1 ≤ x - y
  · have ew : on = 1 := hw.1 (.inl ⟨rfl, by show (1 : Int) ≤ dotN [1, -1] [x, y] 2; omega⟩)
    subst ew
    exact maj_1 hc (by show 0 + y < 0 + x; omega)
  · have ew : on = 0 := hw.2 (by
      rintro (⟨-, h⟩ | ⟨h, -⟩)
      · have h : (1 : Int) ≤ dotN [1, -1] [x, y] 2 := h
        omega
      · exact h rfl)
    subst ew
    exact maj_0 hc (by show 0 + x ≤ 0 + y ∧ 1 ≤ 0 + y + 0; omega)
end Go.Proofs.Ytpiplaicnbapbaa
namespace Go.Proofs.Ytpiplaicnbapbaa
open Go.Rx Go.RowKit
theorem at_all {m : Nat} (hm : 1 ≤ m ∧ m ≤ 4) : POk (atP m) ∧ ∀ k, Cnt k 1 → Solves (atP m) (m + 1) ⟨[1], (m : Int), 0⟩ k := by
  have : m = 1 ∨ m = 2 ∨ m = 3 ∨ m = 4 := by omega
  rcases this with rfl | rfl | rfl | rfl
  · exact ⟨atOk1, atS1⟩
  · exact ⟨atOk2, atS2⟩
  · exact ⟨atOk3, atS3⟩
  · exact ⟨atOk4, atS4⟩
theorem le_all {m r : Nat} (hm : 1 ≤ m ∧ m ≤ 3) (hr : r < m) : POk (leP m r) ∧ ∀ k, Cnt k 1 → Solves (leP m r) (m + 2) ⟨[1], (r : Int), (m : Int)⟩ k := by
  have : (m = 1 ∧ r = 0) ∨ (m = 2 ∧ r = 0) ∨ (m = 2 ∧ r = 1) ∨ (m = 3 ∧ r = 0) ∨ (m = 3 ∧ r = 1) ∨ (m = 3 ∧ r = 2) := by omega
  rcases this with ⟨rfl, rfl⟩ | ⟨rfl, rfl⟩ | ⟨rfl, rfl⟩ | ⟨rfl, rfl⟩ | ⟨rfl, rfl⟩ | ⟨rfl, rfl⟩
  · exact ⟨leOk10, leS10⟩
  · exact ⟨leOk20, leS20⟩
  · exact ⟨leOk21, leS21⟩
  · exact ⟨leOk30, leS30⟩
  · exact ⟨leOk31, leS31⟩
  · exact ⟨leOk32, leS32⟩
theorem PV.set25 {H : Hp} {D : Nat} {x : Bool} {cs : List Value} {o : Rx.Obj} {v : Value} {p : Prot} (hD : H.at D = some (.row 25 x cs)) (k : PV H v p) : PV (H.set D o) v p := by
  obtain ⟨vo, vs, vr, e, h1, h2, h3⟩ := k
  have b : ∀ {v : Value} {l : List Int}, LV H v l → LV (H.set D o) v l := by
    rintro v l (h | ⟨r, e, h, x, hr⟩)
    · exact .inl h
    · exact .inr ⟨r, e, h, x, by rw [Hp.at_set_ne _ (fun e2 => by subst e2; rw [hD] at hr; cases hr)]; exact hr⟩
  refine ⟨vo, vs, vr, e, b h1, b h2, ?_⟩
  obtain ⟨h4, h5⟩ := h3
  refine ⟨h4, ?_⟩
  rcases h5 with h | ⟨r, e, h, x, hr⟩
  · exact .inl h
  · exact .inr ⟨r, e, h, x, by rw [Hp.at_set_ne _ (fun e2 => by subst e2; rw [hD] at hr; cases hr)]; exact hr⟩
attribute [local irreducible] E idxN cellAt cellsAt storeAt callable helems hmoved lookIn findKey keyOk hentries Hp.at Hp.set Hp.lay arBits hupdated setAt CallP YieldP BoolOf IsWrap Rnd LoopP AppP CutP Int.tmod Int.tdiv Int.fdiv
section
variable [Unknowns]
attribute [local irreducible] ResP sameAt finP
theorem AtLeast_spec (m : Nat) (hm : 1 ≤ m ∧ m ≤ 4) (h : Hp) : CallP E 56 [int m] h (fun v h' => (∃ w, v = .tuple ⟨[w, int 0]⟩ ∧ PV h' w (atP m)) ∧ Grows h h') := by
  have a0 : (h.lay (.row 25 true [int 0, nilS, nilS, nilS])).at h.next = some (.row 25 true [int 0, nilS, nilS, nilS]) := Hp.at_lay_self _ _
  refine enter56 (by simp) ?_
  conv => whnf
  refine SeqP.go ?_
  conv => whnf
  refine SeqP.cut (α := Hp) (fun s => [(2, ptr h.next 0), (0, int m)]) (fun s H => s = H ∧ s.at h.next = some (.row 25 true [int 0, nilS, nilS, nilS]) ∧ Grows h s) ?_ ?_
  · conv => whnf
    repeat (refine SeqP.go ?_; conv => whnf)
    refine CallP.mono (within_spec 1 4 _ [(m : Int)] _ (one_ints _ _) (by simp)) ?_
    rintro r1 _ ⟨er, rfl⟩
    rw [decide_eq_true (by intro x hx; rw [List.mem_singleton.1 hx]; omega)] at er
    subst er
    conv => whnf
    repeat (refine SeqP.go ?_; conv => whnf)
    exact ⟨_, ⟨rfl, rfl, trivial⟩, ⟨rfl, Hp.at_lay_old _ a0, (Grows.lay _ _).then_lay _⟩, rfl⟩
  rintro H1 φ1 _ ⟨rfl, a1, g1⟩
  conv => whnf
  repeat (refine SeqP.go ?_; conv => whnf)
  refine CallP.mono (atLeast_spec m hm _) ?_
  rintro v H2 ⟨hx, g2⟩
  obtain ⟨v1, v2, v3, rfl, e1, e2, e3⟩ := id hx
  obtain ⟨w1, rfl⟩ := e1.known
  obtain ⟨w2, rfl⟩ := e2.known
  obtain ⟨w3, rfl, -⟩ := e3.slice
  unfold pval at hx ⊢
  have a2 := g2.at_ _ _ a1
  conv => whnf
  refine ⟨rfl, _, storeAt_full (vs := [int (atP m).n, .slice w1 (atP m).out.length (atP m).out.length, .slice w2 (atP m).start.length (atP m).start.length, .slice w3 (atP m).rules.length (atP m).rules.length]) a2 rfl rfl rfl, ?_⟩
  conv => whnf
  repeat (refine SeqP.go ?_; conv => whnf)
  obtain ⟨i25, t25, ag25, sz25⟩ := ty25
  exact leave_cell2 rfl rfl rfl t25 ag25 (by rw [sz25]; exact all_cells (Hp.at_set_self _ (Hp.lt_of_at a2)) rfl) ⟨⟨_, rfl, hx.set25 a2⟩, (g1.trans g2).then_set _ (Nat.le_refl _)⟩
theorem Leaves_spec (m r : Nat) (hm : 1 ≤ m ∧ m ≤ 3) (hr : r < m) (h : Hp) : CallP E 57 [int m, int r] h (fun v h' => (∃ w, v = .tuple ⟨[w, int 0]⟩ ∧ PV h' w (leP m r)) ∧ Grows h h') := by
  have a0 : (h.lay (.row 25 true [int 0, nilS, nilS, nilS])).at h.next = some (.row 25 true [int 0, nilS, nilS, nilS]) := Hp.at_lay_self _ _
  refine enter57 (by simp) ?_
  conv => whnf
  refine SeqP.go ?_
  conv => whnf
  refine SeqP.cut (α := Hp) (fun s => [(4, ptr h.next 0), (0, int m), (1, int r)]) (fun s H => s = H ∧ s.at h.next = some (.row 25 true [int 0, nilS, nilS, nilS]) ∧ Grows h s) ?_ ?_
  · conv => whnf
    repeat (refine SeqP.go ?_; conv => whnf)
    refine CallP.mono (within_spec 1 3 _ [(m : Int)] _ (one_ints _ _) (by simp)) ?_
    rintro r1 _ ⟨er, rfl⟩
    rw [decide_eq_true (by intro x hx; rw [List.mem_singleton.1 hx]; omega)] at er
    subst er
    conv => whnf
    refine ⟨(m : Int) - 1, wid (by omega), ?_⟩
    conv => whnf
    refine CallP.mono (within_spec 0 ((m : Int) - 1) _ [(r : Int)] _ (one_ints _ _) (by simp)) ?_
    rintro r1 _ ⟨er, rfl⟩
    rw [decide_eq_true (by intro x hx; rw [List.mem_singleton.1 hx]; omega)] at er
    subst er
    conv => whnf
    repeat (refine SeqP.go ?_; conv => whnf)
    exact ⟨_, ⟨rfl, rfl, rfl, trivial⟩, ⟨rfl, Hp.at_lay_old _ (Hp.at_lay_old _ a0), ((Grows.lay _ _).then_lay _).then_lay _⟩, rfl⟩
  rintro H1 φ1 _ ⟨rfl, a1, g1⟩
  conv => whnf
  repeat (refine SeqP.go ?_; conv => whnf)
  refine CallP.mono (leaves_spec m r hm hr _) ?_
  rintro v H2 ⟨hx, g2⟩
  obtain ⟨v1, v2, v3, rfl, e1, e2, e3⟩ := id hx
  obtain ⟨w1, rfl⟩ := e1.known
  obtain ⟨w2, rfl⟩ := e2.known
  obtain ⟨w3, rfl, -⟩ := e3.slice
  unfold pval at hx ⊢
  have a2 := g2.at_ _ _ a1
  conv => whnf
  refine ⟨rfl, _, storeAt_full (vs := [int (leP m r).n, .slice w1 (leP m r).out.length (leP m r).out.length, .slice w2 (leP m r).start.length (leP m r).start.length, .slice w3 (leP m r).rules.length (leP m r).rules.length]) a2 rfl rfl rfl, ?_⟩
  conv => whnf
  repeat (refine SeqP.go ?_; conv => whnf)
  obtain ⟨i25, t25, ag25, sz25⟩ := ty25
  exact leave_cell2 rfl rfl rfl t25 ag25 (by rw [sz25]; exact all_cells (Hp.at_set_self _ (Hp.lt_of_at a2)) rfl) ⟨⟨_, rfl, hx.set25 a2⟩, (g1.trans g2).then_set _ (Nat.le_refl _)⟩
end
end Go.Proofs.Ytpiplaicnbapbaa
namespace Go.Proofs.Ytpiplaicnbapbaa
open Go.Rx Go.RowKit
attribute [local irreducible] E idxN cellAt cellsAt storeAt callable helems hmoved lookIn findKey keyOk hentries Hp.at Hp.set Hp.lay arBits hupdated setAt CallP YieldP BoolOf IsWrap Rnd LoopP AppP CutP Int.tmod Int.tdiv Int.fdiv
section
variable [Unknowns]
attribute [local irreducible] ResP sameAt
theorem makers_law (a0 : Int) (w0 : InR a0) (a1 : Int) (w1 : InR a1) (a2 : Int) (w2 : InR a2) : ∀ h vs, AllT h vs [.num a0, .num a1, .num a2] → CallP E 12 vs h (fun r _ => r = .bool true) := by
  intro h vs hvs
  match vs, hvs with
  | [v0, v1, v2], hvs =>
  obtain ⟨k0, k1, k2, -⟩ := hvs
  cases k0
  cases k1
  cases k2
  refine enter12 (by simp) ?_
  conv => whnf
  refine SeqP.go ?_
  conv => whnf
  refine SeqP.cut (α := Nat × Nat) (fun s => [(0, int s.1), (1, int s.2), (2, int a2)]) (fun s H => h = H ∧ (1 ≤ s.1 ∧ s.1 ≤ 4) ∧ 1 ≤ s.2 ∧ s.2 ≤ 3) ?_ ?_
  · have hux := u64_of a0
    obtain ⟨u, u0, u1, hu⟩ := hux
    have e1 := tmod_bd u0 (show (0 : Int) < 4 by omega)
    have hexk : ∃ k : Nat, u.tmod 4 = (k : Int) := ⟨(u.tmod 4).toNat, by omega⟩
    obtain ⟨k, ek⟩ := hexk
    have hux := u64_of a1
    obtain ⟨u', u0', u1', hu'⟩ := hux
    have e1' := tmod_bd u0' (show (0 : Int) < 3 by omega)
    have hexk : ∃ k : Nat, u'.tmod 3 = (k : Int) := ⟨(u'.tmod 3).toNat, by omega⟩
    obtain ⟨k', ek'⟩ := hexk
    conv => whnf
    refine ⟨u, hu, ?_⟩
    conv => whnf
    refine ⟨by omega, ?_⟩
    conv => whnf
    refine ⟨(k : Int), wie ek (by omega), ?_⟩
    conv => whnf
    refine ⟨((k + 1 : Nat) : Int), wie (by omega) (by omega), ?_⟩
    conv => whnf
    refine ⟨u', hu', ?_⟩
    conv => whnf
    refine ⟨by omega, ?_⟩
    conv => whnf
    refine ⟨(k' : Int), wie ek' (by omega), ?_⟩
    conv => whnf
    refine ⟨((k' + 1 : Nat) : Int), wie (by omega) (by omega), ?_⟩
    conv => whnf
    exact ⟨(k + 1, k' + 1), ⟨rfl, rfl, rfl, trivial⟩, ⟨rfl, by show 1 ≤ k + 1 ∧ k + 1 ≤ 4; omega, by show 1 ≤ k' + 1; omega, by show k' + 1 ≤ 3; omega⟩, rfl⟩
  rintro ⟨M, m⟩ φ1 _ ⟨rfl, hM, hm⟩
  dsimp only at hM hm ⊢
  conv => whnf
  refine SeqP.cut (α := Nat) (fun s => [(0, int M), (1, int m), (2, int s)]) (fun s H => h = H ∧ s < m) ?_ ?_
  · have hux := u64_of a2
    obtain ⟨u, u0, u1, hu⟩ := hux
    have e1 := tmod_bd u0 (show (0 : Int) < (m : Int) by omega)
    have hexk : ∃ k : Nat, u.tmod m = (k : Int) := ⟨(u.tmod m).toNat, by omega⟩
    obtain ⟨k, ek⟩ := hexk
    conv => whnf
    refine ⟨u, hu, ?_⟩
    conv => whnf
    refine ⟨(m : Int), u64_id (by omega), ?_⟩
    conv => whnf
    refine ⟨by omega, ?_⟩
    conv => whnf
    refine ⟨(k : Int), wie ek (by omega), ?_⟩
    conv => whnf
    exact ⟨k, ⟨rfl, rfl, rfl, trivial⟩, ⟨rfl, by omega⟩, rfl⟩
  rintro r φ2 _ ⟨rfl, hr⟩
  obtain ⟨okA, slA⟩ := at_all hM
  obtain ⟨okL, slL⟩ := le_all hm hr
  conv => whnf
  refine SeqP.cut (α := List Value × Hp × Nat) (fun s => [(7, ptr s.2.2 0), (8, int 0), (0, int M), (1, int m), (2, int r)]) (fun s H => s.2.1 = H ∧ Grows h s.2.1 ∧ s.2.1.at s.2.2 = some (.row 25 true s.1) ∧ s.1.length = 4 ∧ PV s.2.1 (.agg ⟨s.1⟩) (atP M)) ?_ ?_
  · conv => whnf
    refine CallP.mono (AtLeast_spec M hM _) ?_
    rintro r1 H1 ⟨⟨w, rfl, hx⟩, g1⟩
    obtain ⟨v1, v2, v3, rfl, e1, e2, e3⟩ := id hx
    obtain ⟨w1, rfl⟩ := e1.known
    obtain ⟨w2, rfl⟩ := e2.known
    obtain ⟨w3, rfl, -⟩ := e3.slice
    unfold pval at hx ⊢
    conv => whnf
    refine ⟨rfl, _, storeAt_all (vs := [int (atP M).n, .slice w1 (atP M).out.length (atP M).out.length, .slice w2 (atP M).start.length (atP M).start.length, .slice w3 (atP M).rules.length (atP M).rules.length]) rfl rfl rfl, ?_⟩
    conv => whnf
    exact ⟨([int (atP M).n, .slice w1 (atP M).out.length (atP M).out.length, .slice w2 (atP M).start.length (atP M).start.length, .slice w3 (atP M).rules.length (atP M).rules.length], _, H1.next), ⟨rfl, rfl, rfl, rfl, rfl, trivial⟩, ⟨rfl, g1.then_lay _, Hp.at_lay_self _ _, rfl, hx.ext (Grows.lay _ _)⟩, rfl⟩
  rintro ⟨b7, H1, X⟩ φ3 _ ⟨rfl, hg1, hX, hb7, hPX⟩
  dsimp only at hg1 hX hb7 hPX ⊢
  conv => whnf
  refine SeqP.cut (α := List Value × Hp × Nat) (fun s => [(9, ptr s.2.2 0), (10, int 0), (7, ptr X 0), (8, int 0), (0, int M), (1, int m), (2, int r)]) (fun s H => s.2.1 = H ∧ Grows H1 s.2.1 ∧ s.2.1.at s.2.2 = some (.row 25 true s.1) ∧ s.1.length = 4 ∧ PV s.2.1 (.agg ⟨s.1⟩) (leP m r)) ?_ ?_
  · conv => whnf
    refine CallP.mono (Leaves_spec m r hm hr _) ?_
    rintro r1 H2 ⟨⟨w, rfl, hx⟩, g1⟩
    obtain ⟨v1, v2, v3, rfl, e1, e2, e3⟩ := id hx
    obtain ⟨w1, rfl⟩ := e1.known
    obtain ⟨w2, rfl⟩ := e2.known
    obtain ⟨w3, rfl, -⟩ := e3.slice
    unfold pval at hx ⊢
    conv => whnf
    refine ⟨rfl, _, storeAt_all (vs := [int (leP m r).n, .slice w1 (leP m r).out.length (leP m r).out.length, .slice w2 (leP m r).start.length (leP m r).start.length, .slice w3 (leP m r).rules.length (leP m r).rules.length]) rfl rfl rfl, ?_⟩
    conv => whnf
    exact ⟨([int (leP m r).n, .slice w1 (leP m r).out.length (leP m r).out.length, .slice w2 (leP m r).start.length (leP m r).start.length, .slice w3 (leP m r).rules.length (leP m r).rules.length], _, H2.next), ⟨rfl, rfl, rfl, rfl, rfl, rfl, rfl, trivial⟩, ⟨rfl, g1.then_lay _, Hp.at_lay_self _ _, rfl, hx.ext (Grows.lay _ _)⟩, rfl⟩
  rintro ⟨b9, H2, Y⟩ φ4 _ ⟨rfl, hg2, hY, hb9, hPY⟩
  dsimp only at hg2 hY hb9 hPY ⊢
  have hX2 := hg2.at_ _ _ hX
  have hPX2 := hPX.ext hg2
  have hans : ∀ {p : Prot} {n : Nat} {q : Quest} {H : Hp} {R : Value}, AnsR p n q H R → (∀ k, Cnt k p.start.length → Solves p n q k) → R = .tuple ⟨[.slice none 0 0, .bool true, int 0]⟩ := by
    rintro p n q H R ⟨w, b, rfl, h1, h2⟩ hs
    cases b with
    | true => rw [(h1 rfl).1]
    | false =>
      obtain ⟨k, -, h4, h5⟩ := h2 rfl
      exact absurd (hs k h4) h5
  have lv1 : ∀ (H : Hp) (n : Int), LV (H.lay (.row 3 true [int n])) (slc H.next 0 1 1) [n] := fun H n => .inr ⟨H.next, rfl, Nat.zero_le _, true, Hp.at_lay_self _ _⟩
  conv => whnf
  refine SeqP.cut (α := Hp) (fun s => [(11, .slice none 0 0), (12, .bool true), (13, int 0), (9, ptr Y 0), (10, int 0), (8, int 0), (1, int m), (2, int r)]) (fun s H => s = H ∧ Grows H2 s) ?_ ?_
  · conv => whnf
    refine ⟨b7, all_cells hX2 hb7, ?_⟩
    conv => whnf
    refine CallP.mono (Answers_ok PReached_ok _ _ (atP M) ⟨[1], (M : Int), 0⟩ (M + 1) _ (hPX2.ext (Grows.lay _ _)) ⟨_, rfl, lv1 _ _⟩ okA rfl ⟨by show 1 ≤ 1; omega, by show 1 ≤ 2; omega, by intro x hx; have hx := List.mem_singleton.1 hx; omega, by show (-9 : Int) ≤ M ∧ (M : Int) ≤ 9; omega, by show (0 : Int) ≤ 0 ∧ (0 : Int) ≤ 9; omega⟩ rfl) ?_
    rintro r1 H3 ⟨hr1, g1⟩
    have er := hans hr1 slA
    subst er
    conv => whnf
    exact ⟨H3, ⟨rfl, rfl, rfl, rfl, rfl, rfl, rfl, rfl, trivial⟩, ⟨rfl, (Grows.lay _ _).trans g1⟩, rfl⟩
  rintro H3 φ5 _ ⟨rfl, hg3⟩
  have hY3 := hg3.at_ _ _ hY
  have hPY3 := hPY.ext hg3
  conv => whnf
  refine SeqP.cut (α := Hp) (fun s => [(14, .slice none 0 0), (15, .bool true), (16, int 0), (11, .slice none 0 0), (12, .bool true), (13, int 0), (10, int 0), (8, int 0)]) (fun s H => s = H) ?_ ?_
  · conv => whnf
    refine ⟨b9, all_cells hY3 hb9, ?_⟩
    conv => whnf
    refine CallP.mono (Answers_ok PReached_ok _ _ (leP m r) ⟨[1], (r : Int), (m : Int)⟩ (m + 2) _ (hPY3.ext (Grows.lay _ _)) ⟨_, rfl, lv1 _ _⟩ okL rfl ⟨by show 1 ≤ 1; omega, by show 1 ≤ 2; omega, by intro x hx; have hx := List.mem_singleton.1 hx; omega, by show (-9 : Int) ≤ r ∧ (r : Int) ≤ 9; omega, by show (0 : Int) ≤ m ∧ (m : Int) ≤ 9; omega⟩ rfl) ?_
    rintro r1 H4 ⟨hr1, g1⟩
    have er := hans hr1 slL
    subst er
    conv => whnf
    exact ⟨H4, ⟨rfl, rfl, rfl, rfl, rfl, rfl, rfl, rfl, trivial⟩, rfl, rfl⟩
  rintro H4 φ6 _ rfl
  conv => whnf
  refine SeqP.cut (α := Hp) (fun s => [(17, .slice none 0 0), (18, .bool true), (19, int 0), (14, .slice none 0 0), (15, .bool true), (16, int 0), (11, .slice none 0 0), (12, .bool true), (13, int 0), (10, int 0), (8, int 0)]) (fun s H => s = H) ?_ ?_
  · conv => whnf
    refine CallP.mono (majority_spec _) ?_
    rintro r1 H5 ⟨hpn, g1⟩
    have hpv := hpn.pv
    conv => whnf
    refine CallP.mono (Answers_ok PReached_ok _ _ majP ⟨[1, -1], 1, 0⟩ 4 _ (hpv.ext (Grows.lay _ (.row 3 true [int 1, int (-1)]))) ⟨_, rfl, .inr ⟨H5.next, rfl, Nat.zero_le _, true, Hp.at_lay_self _ _⟩⟩ majOk rfl ⟨by decide, by decide, by decide, by decide, by decide⟩ rfl) ?_
    rintro r1 H6 ⟨hr1, g2⟩
    have er := hans hr1 majS
    subst er
    conv => whnf
    exact ⟨H6, ⟨rfl, rfl, rfl, rfl, rfl, rfl, rfl, rfl, rfl, rfl, rfl, trivial⟩, rfl, rfl⟩
  rintro H5 φ7 _ rfl
  conv => whnf
  refine SeqP.splitN 14 ?_
  refine SeqP.cut (α := Unit) (fun _ => [(87, .bool true), (17, .slice none 0 0), (18, .bool true), (19, int 0), (14, .slice none 0 0), (15, .bool true), (16, int 0), (11, .slice none 0 0), (12, .bool true), (13, int 0), (10, int 0), (8, int 0)]) (fun _ H => H5 = H) ?_ ?_
  · conv => whnf
    refine cmpT rfl ?_
    conv => whnf
    refine cmpT rfl ?_
    conv => whnf
    refine cmpT rfl ?_
    conv => whnf
    refine cmpT rfl ?_
    conv => whnf
    exact ⟨(), ⟨rfl, rfl, rfl, rfl, rfl, rfl, rfl, rfl, rfl, rfl, rfl, rfl, trivial⟩, rfl, rfl⟩
  rintro _ φ8 _ rfl
  conv => whnf
  refine SeqP.splitN 13 ?_
  refine SeqP.cut (α := Unit) (fun _ => [(100, .bool true), (17, .slice none 0 0), (14, .slice none 0 0), (11, .slice none 0 0)]) (fun _ H => H5 = H) ?_ ?_
  · conv => whnf
    refine cmpT rfl ?_
    conv => whnf
    exact ⟨(), ⟨rfl, rfl, rfl, rfl, trivial⟩, rfl, rfl⟩
  rintro _ φ9 _ rfl
  conv => whnf
  repeat (refine SeqP.go ?_; conv => whnf)
  refine ⟨0, wid (by omega), ?_⟩
  conv => whnf
  refine ⟨0, wid (by omega), ?_⟩
  conv => whnf
  refine cmpT rfl ?_
  conv => whnf
  refine memo27 ?_
  conv => whnf
  repeat (refine SeqP.go ?_; conv => whnf)
  rfl
end
end Go.Proofs.Ytpiplaicnbapbaa
