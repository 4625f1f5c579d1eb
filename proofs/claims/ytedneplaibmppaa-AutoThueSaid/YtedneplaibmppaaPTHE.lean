/- Contracts of the functions that PTHE comes to. -/
import Derived.Test.YtedneplaibmppaaPTHD
import Derived.Test.YtedneplaibmppaaAAwake
import Derived.Test.YtedneplaibmppaaWx19
set_option maxRecDepth 100000
set_option maxHeartbeats 2000000
set_option linter.unusedVariables false
set_option linter.unusedSectionVars false
set_option linter.unusedSimpArgs false
namespace Go.Proofs.Ytedneplaibmppaa
open Go.Rx Go.RowKit
theorem mac_eq {A B : MacI} (hb : A.base = B.base) (ho : A.out.length = B.out.length) (hn : A.next.length = B.next.length) (hno : A.next.length = A.out.length) (h : ∀ k, k < A.out.length → gl A.out k = gl B.out k ∧ rw_ A.next k = rw_ B.next k) : A = B := by
  obtain ⟨b1, o1, n1⟩ := A
  obtain ⟨b2, o2, n2⟩ := B
  dsimp only at *
  have e1 : o1 = o2 := list_gl ho fun j hj => (h j hj).1
  have e2 : n1 = n2 := List.ext_getElem hn fun i h1 h2 => by
    have := (h i (by omega)).2
    rwa [rw_at h1, rw_at h2] at this
  rw [hb, e1, e2]
attribute [local irreducible] E idxN cellAt cellsAt storeAt callable helems hmoved lookIn findKey keyOk hentries Hp.at Hp.set Hp.lay arBits hupdated setAt CallP YieldP BoolOf IsWrap Rnd LoopP AppP CutP Int.tmod Int.tdiv Int.fdiv
section
variable [Unknowns]
attribute [local irreducible] sameAt
theorem ints_spec (va vb : Value) (a b : List Int) (h : Hp) (ha : View h va a) (hb : View h vb b) (hla : a.length ≤ 1000000) : CallP E 61 [va, vb] h (fun r h' => (∃ x, r = .bool x ∧ BoolOf x (a = b)) ∧ h' = h) := by
  obtain ⟨aa, ca, rfl⟩ := ha.known
  obtain ⟨ab, cb, rfl⟩ := hb.known
  refine enter61 (by simp) ?_
  conv => whnf
  repeat (refine SeqP.go ?_; conv => whnf)
  refine cmpB (fun hne => ?_) (fun heq => ?_)
  · conv => whnf
    repeat (refine SeqP.go ?_; conv => whnf)
    exact ⟨⟨false, rfl, bo_no fun e => hne (by rw [e])⟩, rfl⟩
  have hlen : a.length = b.length := by omega
  conv => whnf
  repeat (refine SeqP.go ?_; conv => whnf)
  refine loop_inv (α := Nat) (fun i => [(5, int i), (0, .slice aa a.length ca), (1, .slice ab b.length cb)]) (fun _ => h) (fun i => i ≤ a.length ∧ ∀ j, j < i → gl a j = gl b j) (fun i => a.length - i) 0 ⟨Nat.zero_le _, fun j hj => absurd hj (Nat.not_lt_zero _)⟩ ⟨rfl, rfl, rfl, trivial⟩ (Hp.Le.refl _) ?_
  rintro i φ1 ⟨hi, hsame⟩
  conv => whnf
  repeat (refine SeqP.go ?_; conv => whnf)
  refine cmpB (fun hlt => ?_) (fun hlt => ?_)
  rotate_left
  · conv => whnf
    repeat (refine SeqP.go ?_; conv => whnf)
    have : i = a.length := by omega
    subst this
    exact ⟨⟨true, rfl, bo_yes (list_gl hlen hsame)⟩, rfl⟩
  have hi' : i < a.length := by omega
  have hca := View.cellg ha hi'
  have hcb := View.cellg hb (i := i) (by omega)
  obtain ⟨r1, o1, sp1, ea, hsp1, -, hc1⟩ := hca
  obtain ⟨r2, o2, sp2, eb, hsp2, -, hc2⟩ := hcb
  subst ea
  subst eb
  conv => whnf
  repeat (refine SeqP.go ?_; conv => whnf)
  refine ⟨hsp1, ⟨by omega, by omega⟩, ?_⟩
  conv => whnf
  refine ⟨_, hc1, ?_⟩
  conv => whnf
  refine ⟨hsp2, ⟨by omega, by omega⟩, ?_⟩
  conv => whnf
  refine ⟨_, hc2, ?_⟩
  conv => whnf
  refine cmpB (fun hne => ?_) (fun he => ?_)
  · conv => whnf
    repeat (refine SeqP.go ?_; conv => whnf)
    exact ⟨⟨false, rfl, bo_no fun e => hne (by rw [e])⟩, rfl⟩
  conv => whnf
  repeat (refine SeqP.go ?_; conv => whnf)
  refine ⟨_, wid (by omega), ?_⟩
  conv => whnf
  exact Rnd.mk (i + 1) ⟨by omega, fun j hj => by
    by_cases e : j = i
    · subst e; omega
    · exact hsame j (by omega)⟩ (by show a.length - (i + 1) < a.length - i; omega) ⟨rfl, rfl, rfl, trivial⟩ (Hp.Le.refl _) rfl
theorem REqual_spec (va vb : Value) (A B : MacI) (h : Hp) (ha : MV h va A) (hb : MV h vb B) (hn : A.next.length = A.out.length) (hl : A.out.length ≤ 1000000) (hr : ∀ s, (rw_ A.next s).length ≤ 1000000) : CallP E 41 [va, vb] h (fun r h' => (∃ x, r = .bool x ∧ BoolOf x (A = B)) ∧ Grows h h') := by
  obtain ⟨bxa, rfl, hxa⟩ := ha.box
  obtain ⟨bxb, rfl, hxb⟩ := hb.box
  obtain ⟨aoa, ana, coa, cna, hcxa⟩ := hxa.cx
  obtain ⟨aob, anb, cob, cnb, hcxb⟩ := hxb.cx
  refine enter41 (by simp) ?_
  conv => whnf
  refine SeqP.cut (α := Hp) (fun _ => [(4, .bool false), (3, ptr (h.next + 1) 0), (2, ptr h.next 0)]) (fun x H => x = H ∧ Grows h H ∧ H.at h.next = some (.row 26 true bxa) ∧ H.at (h.next + 1) = some (.row 26 true bxb)) ?_ ?_
  · conv => whnf
    have n1 : (h.lay (.row 26 true bxa)).next = h.next + 1 := Hp.next_lay _ _
    exact ⟨_, ⟨rfl, congrArg (fun k => ptr k 0) n1, rfl, trivial⟩, ⟨rfl, (Grows.lay _ _).then_lay _, Hp.at_lay_old _ (Hp.at_lay_self _ _), at_nx2 n1 (Hp.at_lay_self _ _)⟩, rfl⟩
  rintro H φ1 _ ⟨rfl, gH, aX, aY⟩
  have kx := hcxa H h.next 26 gH aX
  have ky := hcxb H (h.next + 1) 26 gH aY
  have x0 := kx.c0
  have x1 := kx.c1
  have x2 := kx.c2
  have y0 := ky.c0
  have y1 := ky.c1
  have y2 := ky.c2
  have no : ¬ A = B → ∀ v : Value, v = .bool false → (∃ x, v = .bool x ∧ BoolOf x (A = B)) ∧ Grows h H := fun k v e => ⟨⟨false, e, bo_no k⟩, gH⟩
  conv => whnf
  repeat (refine SeqP.go ?_; conv => whnf)
  refine ⟨_, x0, ?_⟩
  conv => whnf
  refine ⟨_, y0, ?_⟩
  conv => whnf
  refine cmpB (fun hne => ?_) (fun heq => ?_)
  · conv => whnf
    repeat (refine SeqP.go ?_; conv => whnf)
    exact no (fun e => hne (by rw [e])) _ rfl
  conv => whnf
  refine ⟨_, x1, ?_⟩
  conv => whnf
  refine ⟨_, y1, ?_⟩
  conv => whnf
  refine cmpB (fun hne => ?_) (fun heq1 => ?_)
  · conv => whnf
    repeat (refine SeqP.go ?_; conv => whnf)
    exact no (fun e => hne (by rw [e])) _ rfl
  conv => whnf
  refine ⟨_, x2, ?_⟩
  conv => whnf
  refine ⟨_, y2, ?_⟩
  conv => whnf
  refine cmpB (fun hne => ?_) (fun heq2 => ?_)
  · conv => whnf
    repeat (refine SeqP.go ?_; conv => whnf)
    exact no (fun e => hne (by rw [e])) _ rfl
  have heq0 : A.base = B.base := by omega
  have hol : A.out.length = B.out.length := by omega
  have hnl : A.next.length = B.next.length := by omega
  conv => whnf
  repeat (refine SeqP.go ?_; conv => whnf)
  refine loop_inv (α := Nat) (fun i => [(5, int i), (4, .bool false), (3, ptr (h.next + 1) 0), (2, ptr h.next 0)]) (fun _ => H) (fun i => i ≤ A.out.length ∧ ∀ j, j < i → gl A.out j = gl B.out j ∧ rw_ A.next j = rw_ B.next j) (fun i => A.out.length - i) 0 ⟨Nat.zero_le _, fun j hj => absurd hj (Nat.not_lt_zero _)⟩ ⟨rfl, rfl, rfl, rfl, trivial⟩ (Hp.Le.refl _) ?_
  rintro i φ2 ⟨hi, hsame⟩
  conv => whnf
  repeat (refine SeqP.go ?_; conv => whnf)
  refine ⟨_, x1, ?_⟩
  conv => whnf
  refine cmpB (fun hlt => ?_) (fun hlt => ?_)
  rotate_left
  · conv => whnf
    repeat (refine SeqP.go ?_; conv => whnf)
    have : i = A.out.length := by omega
    subst this
    exact ⟨⟨true, rfl, bo_yes (mac_eq heq0 hol hnl hn hsame)⟩, gH⟩
  have hi' : i < A.out.length := by omega
  have hca := kx.outAt hi'
  have hcb := ky.outAt (i := i) (by omega)
  have hra := kx.rowAt (i := i) (by omega)
  have hrb := ky.rowAt (i := i) (by omega)
  obtain ⟨r1, o1, sp1, ea, hsp1, hc1⟩ := hca
  obtain ⟨r2, o2, sp2, eb, hsp2, hc2⟩ := hcb
  obtain ⟨r3, o3, sp3, a3, c3, e3, hsp3, hc3, hv3⟩ := hra
  obtain ⟨r4, o4, sp4, a4, c4, e4, hsp4, hc4, hv4⟩ := hrb
  subst ea
  subst eb
  subst e3
  subst e4
  conv => whnf
  repeat (refine SeqP.go ?_; conv => whnf)
  refine ⟨_, x1, ?_⟩
  conv => whnf
  refine ⟨hsp1, ⟨by omega, by omega⟩, ?_⟩
  conv => whnf
  refine ⟨_, hc1, ?_⟩
  conv => whnf
  refine ⟨_, y1, ?_⟩
  conv => whnf
  refine ⟨hsp2, ⟨by omega, by omega⟩, ?_⟩
  conv => whnf
  refine ⟨_, hc2, ?_⟩
  conv => whnf
  refine cmpB (fun hne => ?_) (fun he1 => ?_)
  · conv => whnf
    repeat (refine SeqP.go ?_; conv => whnf)
    exact no (fun e => hne (by rw [e])) _ rfl
  conv => whnf
  refine ⟨_, x2, ?_⟩
  conv => whnf
  refine ⟨hsp3, ⟨by omega, by omega⟩, ?_⟩
  conv => whnf
  refine ⟨_, hc3, ?_⟩
  conv => whnf
  refine ⟨_, y2, ?_⟩
  conv => whnf
  refine ⟨hsp4, ⟨by omega, by omega⟩, ?_⟩
  conv => whnf
  refine ⟨_, hc4, ?_⟩
  conv => whnf
  refine cmpB (fun hne => ?_) (fun he2 => ?_)
  · conv => whnf
    repeat (refine SeqP.go ?_; conv => whnf)
    exact no (fun e => hne (by rw [e])) _ rfl
  have hrl : (rw_ A.next i).length = (rw_ B.next i).length := by omega
  have hrA := hr i
  conv => whnf
  repeat (refine SeqP.go ?_; conv => whnf)
  refine loop_inv (α := Nat) (fun j => [(6, int j), (5, int i), (4, .bool false), (3, ptr (h.next + 1) 0), (2, ptr h.next 0)]) (fun _ => H) (fun j => j ≤ (rw_ A.next i).length ∧ ∀ k, k < j → gl (rw_ A.next i) k = gl (rw_ B.next i) k) (fun j => (rw_ A.next i).length - j) 0 ⟨Nat.zero_le _, fun j hj => absurd hj (Nat.not_lt_zero _)⟩ ⟨rfl, rfl, rfl, rfl, rfl, trivial⟩ (Hp.Le.refl _) ?_
  rintro j φ3 ⟨hj, hsame2⟩
  conv => whnf
  repeat (refine SeqP.go ?_; conv => whnf)
  refine ⟨_, x2, ?_⟩
  conv => whnf
  refine ⟨hsp3, ⟨by omega, by omega⟩, ?_⟩
  conv => whnf
  refine ⟨_, hc3, ?_⟩
  conv => whnf
  refine cmpB (fun hlt2 => ?_) (fun hlt2 => ?_)
  rotate_left
  · conv => whnf
    repeat (refine SeqP.go ?_; conv => whnf)
    refine ⟨_, wid (by omega), ?_⟩
    conv => whnf
    have : j = (rw_ A.next i).length := by omega
    subst this
    exact Rnd.mk (i + 1) ⟨by omega, fun k hk => by
      by_cases e : k = i
      · subst e; exact ⟨by omega, list_gl hrl hsame2⟩
      · exact hsame k (by omega)⟩ (by show A.out.length - (i + 1) < A.out.length - i; omega) ⟨rfl, rfl, rfl, rfl, trivial⟩ (Hp.Le.refl _) rfl
  have hj' : j < (rw_ A.next i).length := by omega
  have hj3 := View.cellg hv3 hj'
  have hj4 := View.cellg hv4 (i := j) (by omega)
  obtain ⟨r5, o5, sp5, e5, hsp5, -, hc5⟩ := hj3
  obtain ⟨r6, o6, sp6, e6, hsp6, -, hc6⟩ := hj4
  subst e5
  subst e6
  conv => whnf
  repeat (refine SeqP.go ?_; conv => whnf)
  refine ⟨_, x2, ?_⟩
  conv => whnf
  refine ⟨hsp3, ⟨by omega, by omega⟩, ?_⟩
  conv => whnf
  refine ⟨_, hc3, ?_⟩
  conv => whnf
  refine ⟨hsp5, ⟨by omega, by omega⟩, ?_⟩
  conv => whnf
  refine ⟨_, hc5, ?_⟩
  conv => whnf
  refine ⟨_, y2, ?_⟩
  conv => whnf
  refine ⟨hsp4, ⟨by omega, by omega⟩, ?_⟩
  conv => whnf
  refine ⟨_, hc4, ?_⟩
  conv => whnf
  refine ⟨hsp6, ⟨by omega, by omega⟩, ?_⟩
  conv => whnf
  refine ⟨_, hc6, ?_⟩
  conv => whnf
  refine cmpB (fun hne => ?_) (fun he3 => ?_)
  · conv => whnf
    repeat (refine SeqP.go ?_; conv => whnf)
    exact no (fun e => hne (by rw [e])) _ rfl
  conv => whnf
  repeat (refine SeqP.go ?_; conv => whnf)
  refine ⟨_, wid (by omega), ?_⟩
  conv => whnf
  exact Rnd.mk (j + 1) ⟨by omega, fun k hk => by
    by_cases e : k = j
    · subst e; omega
    · exact hsame2 k (by omega)⟩ (by show (rw_ A.next i).length - (j + 1) < (rw_ A.next i).length - j; omega) ⟨rfl, rfl, rfl, rfl, rfl, trivial⟩ (Hp.Le.refl _) rfl
end
end Go.Proofs.Ytedneplaibmppaa
namespace Go.Proofs.Ytedneplaibmppaa
open Go.Rx Go.RowKit
def EverR (m : Mac) (out : Int) (r : Value) : Prop := (¬ (0 ≤ out ∧ out ≤ 9) → r = .tuple ⟨[int 0, .bool false, int 1]⟩) ∧ (0 ≤ out ∧ out ≤ 9 → ∃ b, r = .tuple ⟨[int (max (gl (m.evK out m.out.length) 0) 0), .bool b, int 0]⟩ ∧ BoolOf b (0 ≤ gl (m.evK out m.out.length) 0))
attribute [local irreducible] E idxN cellAt cellsAt storeAt callable helems hmoved lookIn findKey keyOk hentries Hp.at Hp.set Hp.lay arBits hupdated setAt CallP YieldP BoolOf IsWrap Rnd LoopP AppP CutP Int.tmod Int.tdiv Int.fdiv
section
variable [Unknowns]
attribute [local irreducible] sameAt
theorem Ever_spec (v : Value) (m : Mac) (out : Int) (h : Hp) (hv : MV h v m.i) (hm : OkS m) : CallP E 35 [v, int out] h (fun r h' => EverR m out r ∧ Grows h h') := by
  obtain ⟨bx, rfl, hbx⟩ := hv.box
  have hL := hm.lens
  refine enter35 (by simp) ?_
  conv => whnf
  refine SeqP.cut (α := Hp) (fun _ => [(2, ptr h.next 0), (1, int out)]) (fun x H => x = H ∧ Grows h H ∧ H.at h.next = some (.row 25 true bx)) ?_ ?_
  · conv => whnf
    exact ⟨_, ⟨rfl, rfl, trivial⟩, ⟨rfl, Grows.lay _ _, Hp.at_lay_self _ _⟩, rfl⟩
  rintro H φ1 _ ⟨rfl, gH, aX⟩
  conv => whnf
  repeat (refine SeqP.go ?_; conv => whnf)
  refine ⟨_, all_cells aX hbx.len, ?_⟩
  conv => whnf
  refine CallP.mono (Check_spec _ m.i _ (Bx.mv (hbx.ext gH)) hL.1 hL.2.1 hL.2.2) ?_
  rintro r H2 ⟨⟨e, rfl, he, -⟩, g2⟩
  have he := he hm.ck
  subst he
  have aX2 := g2.at_ _ _ aX
  have gh2 := gH.trans g2
  conv => whnf
  repeat (refine SeqP.go ?_; conv => whnf)
  refine cmpF (by omega) ?_
  conv => whnf
  repeat (refine SeqP.go ?_; conv => whnf)
  refine CallP.mono (isOut_spec out _) ?_
  rintro r _ ⟨⟨b, rfl, hb⟩, rfl⟩
  cases b with
  | false =>
    have hb := hb.f
    conv => whnf
    repeat (refine SeqP.go ?_; conv => whnf)
    exact ⟨⟨fun _ => rfl, fun k => absurd k hb⟩, gh2⟩
  | true =>
    have hb := hb.t
    conv => whnf
    repeat (refine SeqP.go ?_; conv => whnf)
    refine ⟨_, all_cells aX2 hbx.len, ?_⟩
    conv => whnf
    refine CallP.mono (ever_spec _ m out _ (Bx.mv (hbx.ext gh2)) hm) ?_
    rintro r H3 ⟨⟨b, rfl, hb2⟩, g3⟩
    conv => whnf
    repeat (refine SeqP.go ?_; conv => whnf)
    exact ⟨⟨fun k => absurd hb k, fun _ => ⟨b, rfl, hb2⟩⟩, gh2.trans g3⟩
end
end Go.Proofs.Ytedneplaibmppaa
namespace Go.Proofs.Ytedneplaibmppaa
open Go.Rx Go.RowKit
def tm : Mac := ⟨2, [0, 1], [[0, 1], [1, 0]]⟩
def rd : Mac := ⟨2, [0, 0, 1], [[1, 2], [1, 1], [2, 2]]⟩
theorem tm_s : OkS tm where
  ok := ⟨by decide, by decide, rfl, by decide, fun s d hs hd => (show ∀ s < 2, ∀ d < 2, tm.nx s d < 2 by decide) s hs d hd⟩
  zer := by unfold Mac.Zer; decide
  ck := ⟨by decide, by decide, by decide, by decide, by decide, rfl, fun s hs => by
    have : s = 0 ∨ s = 1 := by have : s < 2 := hs; omega
    rcases this with rfl | rfl
    · exact ⟨by decide, by decide, rfl⟩
    · exact ⟨by decide, by decide, rfl⟩⟩
theorem rd_s : OkS rd where
  ok := ⟨by decide, by decide, rfl, by decide, fun s d hs hd => (show ∀ s < 3, ∀ d < 2, rd.nx s d < 3 by decide) s hs d hd⟩
  zer := by unfold Mac.Zer; decide
  ck := ⟨by decide, by decide, by decide, by decide, by decide, rfl, fun s hs => by
    have : s = 0 ∨ s = 1 ∨ s = 2 := by have : s < 3 := hs; omega
    rcases this with rfl | rfl | rfl
    · exact ⟨by decide, by decide, rfl⟩
    · exact ⟨by decide, by decide, rfl⟩
    · exact ⟨by decide, by decide, rfl⟩⟩
theorem tm_form : tm.form = tm := by
  unfold Mac.form built
  rw [show tm.cl 0 = 0 from rfl, bfs_eq (L := [0, 1]) (.step (s := 0) rfl (.step (s := 1) rfl (.done (Nat.le_refl 2))))]
  rfl
theorem rd_form : rd.form = rd := by
  unfold Mac.form built
  rw [show rd.cl 0 = 0 from rfl, bfs_eq (L := [0, 1, 2]) (.step (s := 0) rfl (.step (s := 1) rfl (.step (s := 2) rfl (.done (Nat.le_refl 3)))))]
  rfl
theorem tm_every : (tm.every 2 0).form = tm := by
  have h1 := Mac.every_ok tm_s.ok 2 0
  rw [Mac.form_uniq h1.1 tm_s.ok rfl ?_, tm_form]
  rw [Mac.alike_at h1.1 tm_s.ok (by decide) rfl (Mac.every_zer tm_s.ok tm_s.b2 tm_s.zer 2 0) tm_s.zer h1.1.n1 tm_s.ok.n1]
  intro n
  rw [Mac.every_at tm_s.ok tm_s.b2 tm_s.zer]
  have := Mac.at_step tm_s.ok tm_s.b2 tm_s.zer (s := 0) (d := 0) (n := n) (by decide) (by decide)
  rw [Nat.zero_add] at this
  exact this
theorem ring_rd : ringM 2 [0, 1] 0 = rd := by
  unfold ringM built
  rw [show ((((foldN [(0 : Int), 1].length 0 1 : Nat) : Int)), (0 : Int)) = ((1 : Int), (0 : Int)) from rfl, bfs_eq (L := [((1 : Int), (0 : Int)), (0, 0), (0, 1)]) (.step (s := ((1 : Int), (0 : Int))) rfl (.step (s := ((0 : Int), (0 : Int))) rfl (.step (s := ((0 : Int), (1 : Int))) rfl (.done (Nat.le_refl 3)))))]
  rfl
theorem tm_seq : seqL tm 8 = [0, 1, 1, 0, 1, 0, 0, 1] := by kernel_rfl
theorem tm_ever : gl (tm.evK 1 tm.out.length) 0 = 1 := by kernel_rfl
theorem rd_sink : ∀ w s, (s = 1 ∨ s = 2) → Mac.Wd 2 w → rd.run s w = s
  | [], s, _, _ => rfl
  | d :: w, s, hs, hw => by
    have hd : d < 2 := hw d (by simp)
    have hw' : Mac.Wd 2 w := fun x hx => hw x (by simp [hx])
    have e : rd.nx s d = s := by
      have hd' : d = 0 ∨ d = 1 := by omega
      rcases hs with rfl | rfl <;> rcases hd' with rfl | rfl <;> rfl
    show rd.run (rd.nx s d) w = s
    rw [e]
    exact rd_sink w s hs hw'
theorem rd_at (n : Nat) : rd.at_ 0 n = ((n % 2 : Nat) : Int) := by
  by_cases h : n = 0
  · subst h; rfl
  · show rd.o (rd.run 0 (dg 2 n)) = _
    rw [dg_pos (Nat.le_refl 2) h]
    show rd.o (rd.run (rd.nx 0 (n % 2)) (dg 2 (n / 2))) = _
    have hm : n % 2 = 0 ∨ n % 2 = 1 := by omega
    rcases hm with e | e
    · rw [e, show rd.nx 0 0 = 1 from rfl, rd_sink _ _ (.inl rfl) (dg_wd (Nat.le_refl 2) _)]; rfl
    · rw [e, show rd.nx 0 1 = 2 from rfl, rd_sink _ _ (.inr rfl) (dg_wd (Nat.le_refl 2) _)]; rfl
theorem rd_find {r : Value} (h : FindR rd r) : r = .tuple ⟨[int 0, int 2, .bool true, int 0]⟩ := by
  have h2 : RoundP rd 60 2 := fun n => by rw [rd_at, rd_at, show (n + 60) % 2 = (n + 60 + 2) % 2 by omega]
  have h1 : ¬ RoundP rd 60 1 := fun k => by
    have := k 0
    rw [rd_at, rd_at] at this
    revert this
    decide
  rcases h with ⟨p, hp1, hp30, hp, hmin, e⟩ | ⟨hno, _⟩
  · have : p = 2 := by
      by_cases h3 : p = 2
      · exact h3
      · by_cases h4 : p = 1
        · subst h4; exact absurd hp h1
        · exact absurd h2 (hmin 2 (by omega) (by omega))
    subst this
    rw [e, show startF rd 2 60 = 0 from by kernel_rfl]
    rfl
  · exact absurd h2 (hno 2 (by omega) (by omega))
end Go.Proofs.Ytedneplaibmppaa
namespace Go.Proofs.Ytedneplaibmppaa
open Go.Rx Go.RowKit
theorem lens_of {m : Mac} (h : OkS m) : Lens m.i := by
  have := h.lens
  exact ⟨by omega, by omega, fun s => by have := this.2.2 s; omega⟩
theorem cut_tm : cutI tm.i = tm.i := rfl
theorem cut_rd : cutI rd.i = rd.i := rfl
theorem MV.bx {h : Hp} {cs : List Value} {M : MacI} (k : MV h (.agg ⟨cs⟩) M) : Bx h cs M := by
  obtain ⟨bx, e, hb⟩ := k.box
  injection e with e
  injection e with e
  subst e
  exact hb
theorem rd_mv {H : Hp} {r1 r2 r3 r4 r5 : Nat} (h1 : H.at r1 = some (.row 3 true [int 0, int 0, int 1])) (h2 : H.at r2 = some (.row 3 true [int 1, int 2])) (h3 : H.at r3 = some (.row 3 true [int 1, int 1])) (h4 : H.at r4 = some (.row 3 true [int 2, int 2])) (h5 : H.at r5 = some (.row 22 true [slc r2 0 2 2, slc r3 0 2 2, slc r4 0 2 2])) : MV H (.agg ⟨[int 2, slc r1 0 3 3, slc r5 0 3 3]⟩) rd.i := by
  refine OwnM.mv (h0 := ⟨0, H.raw⟩) ⟨_, _, [slc r2 0 2 2, slc r3 0 2 2, slc r4 0 2 2], rfl, ⟨rfl, .inr ⟨_, rfl, Nat.zero_le _, true, h1⟩⟩, ⟨rfl, .inr ⟨_, rfl, Nat.zero_le _, true, h5⟩⟩, rfl, fun k u l e1 e2 => ?_⟩
  match k, e1, e2 with
  | 0, e1, e2 => cases e1; cases e2; exact .inr ⟨_, rfl, Nat.zero_le _, true, h2⟩
  | 1, e1, e2 => cases e1; cases e2; exact .inr ⟨_, rfl, Nat.zero_le _, true, h3⟩
  | 2, e1, e2 => cases e1; cases e2; exact .inr ⟨_, rfl, Nat.zero_le _, true, h4⟩
  | k + 3, e1, e2 => simp at e1
attribute [local irreducible] E idxN cellAt cellsAt storeAt callable helems hmoved lookIn findKey keyOk hentries Hp.at Hp.set Hp.lay arBits hupdated setAt CallP YieldP BoolOf IsWrap Rnd LoopP AppP CutP Int.tmod Int.tdiv Int.fdiv
section
variable [Unknowns]
attribute [local irreducible] sameAt
theorem awake_spec (h : Hp) : CallP E 21 [] h (fun r h' => r = .bool true ∧ Grows h h') := by
  refine enter21 (by simp) ?_
  conv => whnf
  refine SeqP.go ?_
  conv => whnf
  refine SeqP.cut (α := Nat × List Value × Hp) (fun s => [(1, ptr s.1 0)]) (fun s H => s.2.2 = H ∧ Grows h H ∧ H.at s.1 = some (.row 25 true s.2.1) ∧ Bx H s.2.1 tm.i) ?_ ?_
  · conv => whnf
    refine CallP.mono (Morse_spec _) ?_
    rintro w H ⟨hw, g⟩
    have hk := hw.known
    obtain ⟨a, b, rfl⟩ := hk
    conv => whnf
    refine ⟨rfl, _, storeAt_all (vs := [int 2, .slice a _ _, .slice b _ _]) rfl rfl rfl, ?_⟩
    conv => whnf
    refine ⟨(H.next, _, _), ⟨rfl, trivial⟩, ⟨rfl, g.then_lay _, Hp.at_lay_self _ _, ?_⟩, rfl⟩
    exact (hw.mv.ext (Grows.lay _ _)).bx
  rintro ⟨N1, bx, H1⟩ φ1 _ ⟨rfl, g1, a1, b1⟩
  dsimp only at g1 a1 b1 ⊢
  conv => whnf
  refine SeqP.cut (α := Nat × Option Addr × Hp) (fun s => [(1, ptr N1 0), (2, .slice s.2.1 8 8), (3, int 0)]) (fun s H => s.2.2 = H ∧ Grows H1 H ∧ View H (.slice s.2.1 8 8) [0, 1, 1, 0, 1, 0, 0, 1]) ?_ ?_
  · conv => whnf
    refine ⟨_, all_cells a1 b1.len, ?_⟩
    conv => whnf
    refine CallP.mono (First_spec _ tm 8 _ (Bx.mv b1) tm_s) ?_
    rintro r H2 ⟨⟨-, hw0⟩, g2⟩
    have hw0 := hw0 (by omega) (by omega)
    obtain ⟨w, rfl, hw⟩ := hw0
    have e8 : seqL tm (8 : Int).toNat = [0, 1, 1, 0, 1, 0, 0, 1] := tm_seq
    rw [e8] at hw
    have hws := hw.c.slice
    obtain ⟨aw, rfl, -⟩ := hws
    conv => whnf
    exact ⟨(0, aw, _), ⟨rfl, rfl, rfl, trivial⟩, ⟨rfl, g2, hw.view⟩, rfl⟩
  rintro ⟨x2, aw, H2⟩ φ2 _ ⟨rfl, g2, v2⟩
  dsimp only at g2 v2 ⊢
  conv => whnf
  refine SeqP.cut (α := Nat × List Value × Hp) (fun s => [(1, ptr N1 0), (2, .slice aw 8 8), (3, int 0), (4, ptr s.1 0), (5, int 0)]) (fun s H => s.2.2 = H ∧ Grows H2 H ∧ H.at s.1 = some (.row 25 true s.2.1) ∧ Bx H s.2.1 rd.i) ?_ ?_
  · conv => whnf
    have gl1 : Grows H2 (H2.lay (.row 3 true [int 0, int 1])) := Grows.lay _ _
    have vb : View (H2.lay (.row 3 true [int 0, int 1])) (slc H2.next 0 2 2) [0, 1] := row_view (ls := [0, 1]) (Hp.at_lay_self _ _) rfl
    have vn : View (H2.lay (.row 3 true [int 0, int 1])) nilS [] := Built.view (h0 := H2) (e := 3) (.inl ⟨rfl, rfl⟩)
    refine CallP.mono (Round_spec 2 _ _ [] [0, 1] _ vn vb (by simp) (by simp)) ?_
    rintro r H3 ⟨⟨-, hr⟩, g3⟩
    have hnb : ¬ BadR 2 ([] : List Int) [0, 1] := by unfold BadR; simp
    have hr := hr hnb
    obtain ⟨u, e, rfl, hu, -⟩ := hr
    have er : ringM (2 : Int).toNat ([] ++ [0, 1]) ([] : List Int).length = rd := ring_rd
    rw [er, rd_form] at hu
    have hu2 := hu (by decide)
    obtain ⟨rfl, hu3⟩ := hu2
    have hk := hu3.known
    obtain ⟨a, b, rfl⟩ := hk
    conv => whnf
    refine ⟨rfl, _, storeAt_all (vs := [int 2, .slice a _ _, .slice b _ _]) rfl rfl rfl, ?_⟩
    conv => whnf
    exact ⟨(H3.next, _, _), ⟨rfl, rfl, rfl, rfl, rfl, trivial⟩, ⟨rfl, (gl1.trans g3).then_lay _, Hp.at_lay_self _ _, (hu3.mv.ext (Grows.lay _ _)).bx⟩, rfl⟩
  rintro ⟨N4, by4, H3⟩ φ3 _ ⟨rfl, g3, a4, b4⟩
  dsimp only at g3 a4 b4 ⊢
  have g13 := g2.trans g3
  have a1 := g13.at_ _ _ a1
  have b1 := b1.ext g13
  have v2 := v2.ext g3
  have g1 := g1.trans g13
  clear g2 g3 g13
  conv => whnf
  refine SeqP.cut (α := Nat × List Value × Hp) (fun s => [(1, ptr N1 0), (2, .slice aw 8 8), (3, int 0), (4, ptr N4 0), (5, int 0), (6, ptr s.1 0), (7, int 0)]) (fun s H => s.2.2 = H ∧ Grows H3 H ∧ H.at s.1 = some (.row 25 true s.2.1) ∧ Bx H s.2.1 tm.i) ?_ ?_
  · conv => whnf
    refine ⟨_, all_cells a1 b1.len, ?_⟩
    conv => whnf
    refine CallP.mono (Every_spec _ tm 2 0 _ (Bx.mv b1) tm_s) ?_
    rintro r H4 ⟨⟨-, hr⟩, g4⟩
    have hnb : ¬ BadE 2 0 := by unfold BadE; omega
    have hr := hr hnb
    obtain ⟨u, e, rfl, hu, -⟩ := hr
    have er : (tm.every (2 : Int).toNat (0 : Int).toNat).form = tm := tm_every
    rw [er] at hu
    have hu2 := hu (by decide)
    obtain ⟨rfl, hu3⟩ := hu2
    have hk := hu3.known
    obtain ⟨a, b, rfl⟩ := hk
    conv => whnf
    refine ⟨rfl, _, storeAt_all (vs := [int 2, .slice a _ _, .slice b _ _]) rfl rfl rfl, ?_⟩
    conv => whnf
    exact ⟨(H4.next, _, _), ⟨rfl, rfl, rfl, rfl, rfl, rfl, rfl, trivial⟩, ⟨rfl, g4.then_lay _, Hp.at_lay_self _ _, (hu3.mv.ext (Grows.lay _ _)).bx⟩, rfl⟩
  rintro ⟨N6, by6, H4⟩ φ4 _ ⟨rfl, g4, a6, b6⟩
  dsimp only at g4 a6 b6 ⊢
  have a1 := g4.at_ _ _ a1
  have b1 := b1.ext g4
  have a4 := g4.at_ _ _ a4
  have b4 := b4.ext g4
  have v2 := v2.ext g4
  have g1 := g1.trans g4
  clear g4
  conv => whnf
  refine SeqP.cut (α := Hp) (fun s => [(1, ptr N1 0), (2, .slice aw 8 8), (3, int 0), (4, ptr N4 0), (5, int 0), (6, ptr N6 0), (7, int 0), (8, int 1), (9, .bool true), (10, int 0)]) (fun s H => s = H ∧ Grows H4 H) ?_ ?_
  · conv => whnf
    refine ⟨_, all_cells a1 b1.len, ?_⟩
    conv => whnf
    refine CallP.mono (Ever_spec _ tm 1 _ (Bx.mv b1) tm_s) ?_
    rintro r H5 ⟨⟨-, hr⟩, g5⟩
    have hr := hr (by omega)
    rw [tm_ever] at hr
    obtain ⟨b, rfl, hb⟩ := hr
    cases b with
    | false => exact absurd (by omega) hb.f
    | true =>
      conv => whnf
      exact ⟨_, ⟨rfl, rfl, rfl, rfl, rfl, rfl, rfl, rfl, rfl, rfl, trivial⟩, ⟨rfl, g5⟩, rfl⟩
  rintro H5 φ5 _ ⟨rfl, g5⟩
  have a1 := g5.at_ _ _ a1
  have b1 := b1.ext g5
  have a4 := g5.at_ _ _ a4
  have b4 := b4.ext g5
  have a6 := g5.at_ _ _ a6
  have b6 := b6.ext g5
  have v2 := v2.ext g5
  have g1 := g1.trans g5
  clear g5
  conv => whnf
  refine SeqP.cut (α := Hp) (fun s => [(1, ptr N1 0), (2, .slice aw 8 8), (3, int 0), (4, ptr N4 0), (5, int 0), (6, ptr N6 0), (7, int 0), (8, int 1), (9, .bool true), (10, int 0), (11, int 0), (12, int 2), (13, .bool true), (14, int 0)]) (fun s H => s = H ∧ Grows H5 H) ?_ ?_
  · conv => whnf
    refine ⟨_, all_cells a4 b4.len, ?_⟩
    conv => whnf
    refine CallP.mono (FindRound_spec _ rd _ (Bx.mv b4) rd_s) ?_
    rintro r H6 ⟨hr, g6⟩
    have hr := rd_find hr
    subst hr
    conv => whnf
    exact ⟨_, ⟨rfl, rfl, rfl, rfl, rfl, rfl, rfl, rfl, rfl, rfl, rfl, rfl, rfl, rfl, trivial⟩, ⟨rfl, g6⟩, rfl⟩
  rintro H6 φ6 _ ⟨rfl, g6⟩
  have a1 := g6.at_ _ _ a1
  have b1 := b1.ext g6
  have a4 := g6.at_ _ _ a4
  have b4 := b4.ext g6
  have a6 := g6.at_ _ _ a6
  have b6 := b6.ext g6
  have v2 := v2.ext g6
  have g1 := g1.trans g6
  clear g6
  conv => whnf
  repeat (refine SeqP.go ?_; conv => whnf)
  refine ⟨_, all_cells a1 b1.len, ?_⟩
  conv => whnf
  refine CallP.mono (own_spec _ tm.i _ (Bx.mv b1) (lens_of tm_s)) ?_
  rintro r H7 ⟨hw, g7⟩
  rw [cut_tm] at hw
  have hk := hw.known
  obtain ⟨p1, q1, rfl⟩ := hk
  conv => whnf
  refine CallP.mono (RMorse_spec _) ?_
  rintro r H8 ⟨hw2, g8⟩
  have hk := hw2.known
  obtain ⟨p2, q2, rfl⟩ := hk
  conv => whnf
  refine CallP.mono (REqual_spec _ _ tm.i tm.i _ (hw.mv.ext g8) hw2.mv rfl (by decide) tm_s.lens.2.2) ?_
  rintro _ H9 ⟨⟨x, rfl, hx⟩, g9⟩
  cases x with
  | false => exact absurd rfl hx.f
  | true =>
    have g69 := (g7.trans g8).trans g9
    have a1 := g69.at_ _ _ a1
    have b1 := b1.ext g69
    have a4 := g69.at_ _ _ a4
    have b4 := b4.ext g69
    have a6 := g69.at_ _ _ a6
    have b6 := b6.ext g69
    have v2 := v2.ext g69
    have g1 := g1.trans g69
    clear g69 g7 g8 g9 hw hw2 hx
    conv => whnf
    refine cmpT rfl ?_
    conv => whnf
    have gl1 : Grows H9 (H9.lay (.row 3 true [int 0, int 1, int 1, int 0, int 1, int 0, int 0, int 1])) := Grows.lay _ _
    have vb : View (H9.lay (.row 3 true [int 0, int 1, int 1, int 0, int 1, int 0, int 0, int 1])) (slc H9.next 0 8 8) [0, 1, 1, 0, 1, 0, 0, 1] := row_view (ls := [0, 1, 1, 0, 1, 0, 0, 1]) (Hp.at_lay_self _ _) rfl
    refine CallP.mono (ints_spec _ _ [0, 1, 1, 0, 1, 0, 0, 1] [0, 1, 1, 0, 1, 0, 0, 1] _ (v2.ext gl1) vb (by simp)) ?_
    rintro _ _ ⟨⟨x, rfl, hx⟩, rfl⟩
    cases x with
    | false => exact absurd rfl hx.f
    | true =>
      conv => whnf
      refine cmpT rfl ?_
      conv => whnf
      have a4 := gl1.at_ _ _ a4
      have b4 := b4.ext gl1
      have a6 := gl1.at_ _ _ a6
      have b6 := b6.ext gl1
      have g1 := g1.trans gl1
      clear vb v2 hx gl1 a1 b1
      refine ⟨_, all_cells a4 b4.len, ?_⟩
      conv => whnf
      refine CallP.mono (own_spec _ rd.i _ (Bx.mv b4) (lens_of rd_s)) ?_
      rintro r H11 ⟨hw, g11⟩
      rw [cut_rd] at hw
      have hk := hw.known
      obtain ⟨p1, q1, rfl⟩ := hk
      conv => whnf
      have h1 := Hp.at_lay_self H11 (.row 3 true [int 0, int 0, int 1])
      have m1 : (H11.lay (.row 3 true [int 0, int 0, int 1])).next = H11.next + 1 := Hp.next_lay _ _
      have hexA : ∃ A, H11.lay (.row 3 true [int 0, int 0, int 1]) = A := ⟨_, rfl⟩
      have gA : ∀ o1 o2 o3 o4 o5, Grows H11 (((((H11.lay o1).lay o2).lay o3).lay o4).lay o5) := fun _ _ _ _ _ => ((((Grows.lay _ _).then_lay _).then_lay _).then_lay _).then_lay _
      refine CallP.mono (REqual_spec _ _ rd.i rd.i _ ?_ ?_ rfl (by decide) rd_s.lens.2.2) ?_
      · exact hw.mv.ext (gA _ _ _ _ _)
      · exact rd_mv (Hp.at_lay_old _ (Hp.at_lay_old _ (Hp.at_lay_old _ (Hp.at_lay_old _ (Hp.at_lay_self _ _))))) (Hp.at_lay_old _ (Hp.at_lay_old _ (Hp.at_lay_old _ (Hp.at_lay_self _ _)))) (Hp.at_lay_old _ (Hp.at_lay_old _ (Hp.at_lay_self _ _))) (Hp.at_lay_old _ (Hp.at_lay_self _ _)) (Hp.at_lay_self _ _)
      rintro _ H12 ⟨⟨x, rfl, hx⟩, g12⟩
      cases x with
      | false => exact absurd rfl hx.f
      | true =>
        have g69 := (g11.trans (gA _ _ _ _ _)).trans g12
        have a6 := g69.at_ _ _ a6
        have b6 := b6.ext g69
        have g1 := g1.trans g69
        clear g69 g11 gA g12 hx hw hexA h1 m1
        conv => whnf
        refine cmpT rfl ?_
        conv => whnf
        refine ⟨_, all_cells a6 b6.len, ?_⟩
        conv => whnf
        refine CallP.mono (own_spec _ tm.i _ (Bx.mv b6) (lens_of tm_s)) ?_
        rintro r H13 ⟨hw, g13⟩
        rw [cut_tm] at hw
        have hk := hw.known
        obtain ⟨p3, q3, rfl⟩ := hk
        conv => whnf
        refine CallP.mono (RMorse_spec _) ?_
        rintro r H14 ⟨hw2, g14⟩
        have hk := hw2.known
        obtain ⟨p4, q4, rfl⟩ := hk
        conv => whnf
        refine CallP.mono (REqual_spec _ _ tm.i tm.i _ (hw.mv.ext g14) hw2.mv rfl (by decide) tm_s.lens.2.2) ?_
        rintro _ H15 ⟨⟨x, rfl, hx⟩, g15⟩
        cases x with
        | false => exact absurd rfl hx.f
        | true =>
          have g1 := ((g1.trans g13).trans g14).trans g15
          conv => whnf
          refine cmpT rfl ?_
          conv => whnf
          refine cmpT rfl ?_
          conv => whnf
          refine cmpT rfl ?_
          conv => whnf
          refine cmpT rfl ?_
          conv => whnf
          refine cmpT rfl ?_
          conv => whnf
          have me : MV H15 (.agg ⟨[int 0, nilS, nilS]⟩) ⟨0, [], []⟩ := ⟨nilS, nilS, rfl, Built.view (h0 := H15) (e := 3) (.inl ⟨rfl, rfl⟩), Mat.nil _⟩
          refine CallP.mono (Check_spec _ _ _ me (by simp) (by simp) (by simp [rw_])) ?_
          rintro _ H16 ⟨⟨e, rfl, -, he⟩, g16⟩
          have he := he (fun k => by have := k.b2; dsimp only at this; omega)
          subst he
          conv => whnf
          refine cmpT rfl ?_
          conv => whnf
          repeat (refine SeqP.go ?_; conv => whnf)
          exact ⟨rfl, g1.trans g16⟩
end
end Go.Proofs.Ytedneplaibmppaa
namespace Go.Proofs.Ytedneplaibmppaa
open Go.Rx Go.RowKit
def tN (n : Nat) : Nat := (tm.at_ 0 n).toNat
theorem tm_two : ∀ (w : List Nat), Mac.Wd 2 w → (tm.run 0 w = 0 ∧ tm.run 1 w = 1 ∨ tm.run 0 w = 1 ∧ tm.run 1 w = 0)
  | [], _ => .inl ⟨rfl, rfl⟩
  | d :: w, hw => by
    have hd : d < 2 := hw d (by simp)
    have h := tm_two w fun x hx => hw x (by simp [hx])
    have hd' : d = 0 ∨ d = 1 := by omega
    rcases hd' with rfl | rfl
    · exact h
    · show tm.run 1 w = 0 ∧ tm.run 0 w = 1 ∨ tm.run 1 w = 1 ∧ tm.run 0 w = 0
      rcases h with h | h
      · exact .inr ⟨h.2, h.1⟩
      · exact .inl ⟨h.2, h.1⟩
theorem tm_at (n : Nat) : tm.at_ 0 n = (tN n : Int) ∧ tN n < 2 ∧ tm.at_ 1 n = ((1 - tN n : Nat) : Int) := by
  unfold tN
  show tm.o (tm.run 0 (dg 2 n)) = ((tm.o (tm.run 0 (dg 2 n))).toNat : Int) ∧ (tm.o (tm.run 0 (dg 2 n))).toNat < 2 ∧ tm.o (tm.run 1 (dg 2 n)) = ((1 - (tm.o (tm.run 0 (dg 2 n))).toNat : Nat) : Int)
  rcases tm_two (dg 2 n) (dg_wd (Nat.le_refl 2) n) with ⟨h1, h2⟩ | ⟨h1, h2⟩
  · rw [h1, h2]; decide
  · rw [h1, h2]; decide
theorem tN_even (n : Nat) : tN (2 * n) = tN n := by
  have h := Mac.at_step tm_s.ok tm_s.b2 tm_s.zer (s := 0) (d := 0) (n := n) (by decide) (by decide)
  rw [Nat.zero_add] at h
  have h2 : tm.at_ 0 (2 * n) = tm.at_ 0 n := h
  unfold tN
  rw [h2]
theorem tN_odd (n : Nat) : tN (2 * n + 1) = 1 - tN n := by
  have h := Mac.at_step tm_s.ok tm_s.b2 tm_s.zer (s := 0) (d := 1) (n := n) (by decide) (by decide)
  have h2 : tm.at_ 0 (1 + 2 * n) = tm.at_ 1 n := h
  have h3 := (tm_at n).2.2
  rw [Nat.add_comm (2 * n) 1]
  show (tm.at_ 0 (1 + 2 * n)).toNat = _
  rw [h2, h3]
  exact Int.toNat_natCast _
theorem tN_lt (n : Nat) : tN n < 2 := (tm_at n).2.1
theorem no_cube (n : Nat) : ¬ (tN n = tN (n + 1) ∧ tN (n + 1) = tN (n + 2)) := by
  rintro ⟨h1, h2⟩
  have hc : n % 2 = 0 ∨ n % 2 = 1 := by omega
  rcases hc with e | e
  · have e1 := tN_even (n / 2)
    have e2 := tN_odd (n / 2)
    rw [show 2 * (n / 2) = n by omega] at e1 e2
    have := tN_lt (n / 2)
    omega
  · have e1 := tN_even (n / 2 + 1)
    have e2 := tN_odd (n / 2 + 1)
    rw [show 2 * (n / 2 + 1) = n + 1 by omega] at e1 e2
    have e2 : tN (n + 2) = 1 - tN (n / 2 + 1) := e2
    have := tN_lt (n / 2 + 1)
    omega
theorem tN_flip (n : Nat) (h : n % 2 = 0) : tN n ≠ tN (n + 1) := by
  have e1 := tN_even (n / 2)
  have e2 := tN_odd (n / 2)
  rw [show 2 * (n / 2) = n by omega] at e1 e2
  have := tN_lt (n / 2)
  omega
theorem no_alt (n : Nat) : ¬ ∀ j, j < 4 → tN (n + j) ≠ tN (n + j + 1) := by
  intro h
  have h0 := h 0 (by omega)
  have h1 := h 1 (by omega)
  have h2 := h 2 (by omega)
  have h3 := h 3 (by omega)
  have l0 := tN_lt n
  have l1 := tN_lt (n + 1)
  have l2 := tN_lt (n + 2)
  have l3 := tN_lt (n + 3)
  have l4 := tN_lt (n + 4)
  have r0 : tN (n + 0) = tN n := rfl
  have r1 : tN (n + 0 + 1) = tN (n + 1) := rfl
  have r2 : tN (n + 1 + 1) = tN (n + 2) := rfl
  have r3 : tN (n + 2 + 1) = tN (n + 3) := rfl
  have r4 : tN (n + 3 + 1) = tN (n + 4) := rfl
  rw [r0, r1] at h0
  rw [r2] at h1
  rw [r3] at h2
  rw [r4] at h3
  have hc : n % 2 = 0 ∨ n % 2 = 1 := by omega
  rcases hc with e | e
  · have e1 := tN_even (n / 2)
    have e2 := tN_even (n / 2 + 1)
    have e3 := tN_even (n / 2 + 2)
    rw [show 2 * (n / 2) = n by omega] at e1
    rw [show 2 * (n / 2 + 1) = n + 2 by omega] at e2
    rw [show 2 * (n / 2 + 2) = n + 4 by omega] at e3
    exact no_cube (n / 2) ⟨by omega, by omega⟩
  · have e1 := tN_odd (n / 2)
    have e2 := tN_odd (n / 2 + 1)
    have e3 := tN_odd (n / 2 + 2)
    rw [show 2 * (n / 2) + 1 = n by omega] at e1
    rw [show 2 * (n / 2 + 1) + 1 = n + 2 by omega] at e2
    rw [show 2 * (n / 2 + 2) + 1 = n + 4 by omega] at e3
    have q0 := tN_lt (n / 2)
    have q1 := tN_lt (n / 2 + 1)
    have q2 := tN_lt (n / 2 + 2)
    exact no_cube (n / 2) ⟨by omega, by omega⟩
theorem no_over : ∀ (k p : Nat), p ≤ k → 1 ≤ p → ∀ n, ¬ ∀ j, j ≤ p → tN (n + j) = tN (n + p + j)
  | 0, p, hk, hp, n => by omega
  | k + 1, p, hk, hp, n => fun h => by
    have hc : p % 2 = 0 ∨ p % 2 = 1 := by omega
    rcases hc with e | e
    · refine no_over k (p / 2) (by omega) (by omega) (n / 2) fun j hj => ?_
      have hj2 := h (2 * j) (by omega)
      have hc2 : n % 2 = 0 ∨ n % 2 = 1 := by omega
      rcases hc2 with e2 | e2
      · have e3 := tN_even (n / 2 + j)
        have e4 := tN_even (n / 2 + p / 2 + j)
        rw [show 2 * (n / 2 + j) = n + 2 * j by omega] at e3
        rw [show 2 * (n / 2 + p / 2 + j) = n + p + 2 * j by omega] at e4
        omega
      · have e3 := tN_odd (n / 2 + j)
        have e4 := tN_odd (n / 2 + p / 2 + j)
        rw [show 2 * (n / 2 + j) + 1 = n + 2 * j by omega] at e3
        rw [show 2 * (n / 2 + p / 2 + j) + 1 = n + p + 2 * j by omega] at e4
        have q0 := tN_lt (n / 2 + j)
        have q1 := tN_lt (n / 2 + p / 2 + j)
        omega
    · by_cases hp1 : p = 1
      · subst hp1
        have h0 := h 0 (by omega)
        have h1 := h 1 (by omega)
        exact no_cube n ⟨h0, h1⟩
      · refine no_alt n fun j hj => ?_
        by_cases hlt : j < p
        · have h0 := h j (by omega)
          have h1 := h (j + 1) (by omega)
          have hpar : (n + j) % 2 = 0 ∨ (n + p + j) % 2 = 0 := by omega
          rcases hpar with q | q
          · exact tN_flip _ q
          · have := tN_flip _ q
            rw [show n + p + (j + 1) = n + p + j + 1 by omega] at h1
            rw [show n + (j + 1) = n + j + 1 by omega] at h1
            omega
        · have h0 := h (j - p) (by omega)
          have h1 := h (j - p + 1) (by omega)
          rw [show n + p + (j - p) = n + j by omega] at h0
          rw [show n + p + (j - p + 1) = n + j + 1 by omega, show n + (j - p + 1) = n + (j - p) + 1 by omega] at h1
          have hpar : (n + j) % 2 = 0 ∨ (n + (j - p)) % 2 = 0 := by omega
          rcases hpar with q | q
          · exact tN_flip _ q
          · have := tN_flip _ q
            omega
theorem tm_find {r : Value} (h : FindR tm r) : r = .tuple ⟨[int 0, int 0, .bool false, int 0]⟩ := by
  rcases h with ⟨p, hp1, hp30, hp, -, -⟩ | ⟨_, e⟩
  · refine absurd (fun j hj => ?_) (no_over p p (Nat.le_refl p) hp1 60)
    have := hp j
    rw [(tm_at _).1, (tm_at _).1, show j + 60 = 60 + j by omega, show 60 + j + p = 60 + p + j by omega] at this
    omega
  · exact e
end Go.Proofs.Ytedneplaibmppaa
namespace Go.Proofs.Ytedneplaibmppaa
open Go.Rx Go.RowKit
abbrev InR (n : Int) : Prop := -9223372036854775808 ≤ n ∧ n < 9223372036854775808
attribute [local irreducible] E idxN cellAt cellsAt storeAt callable helems hmoved lookIn findKey keyOk hentries Hp.at Hp.set Hp.lay arBits hupdated setAt CallP YieldP BoolOf IsWrap Rnd LoopP AppP CutP Int.tmod Int.tdiv Int.fdiv
section
variable [Unknowns]
attribute [local irreducible] ResP sameAt
theorem thue_law (a0 : Int) (w0 : InR a0) (a1 : Int) (w1 : InR a1) : ∀ h vs, AllT h vs [.num a0, .num a1] → CallP E 15 vs h (fun r _ => r = .bool true) := by
  intro h vs hvs
  match vs, hvs with
  | [v0, v1], hvs =>
  obtain ⟨k0, k1, -⟩ := hvs
  cases k0
  cases k1
  refine enter15 (by simp) ?_
  conv => whnf
  refine SeqP.go ?_
  conv => whnf
  refine SeqP.cut (α := Nat × List Value × Hp) (fun s => [(5, ptr s.1 0), (0, int a0), (1, int a1)]) (fun s H => s.2.2 = H ∧ H.at s.1 = some (.row 25 true s.2.1) ∧ Bx H s.2.1 tm.i) ?_ ?_
  · conv => whnf
    refine CallP.mono (Morse_spec _) ?_
    rintro w H ⟨hw, g⟩
    have hk := hw.known
    obtain ⟨a, b, rfl⟩ := hk
    conv => whnf
    refine ⟨rfl, _, storeAt_all (vs := [int 2, .slice a _ _, .slice b _ _]) rfl rfl rfl, ?_⟩
    conv => whnf
    exact ⟨(H.next, _, _), ⟨rfl, rfl, rfl, trivial⟩, ⟨rfl, Hp.at_lay_self _ _, (hw.mv.ext (Grows.lay _ _)).bx⟩, rfl⟩
  rintro ⟨N, bx, H1⟩ φ1 _ ⟨rfl, aT, bT⟩
  dsimp only at aT bT ⊢
  conv => whnf
  refine SeqP.cut (α := Nat) (fun s => [(5, ptr N 0), (0, int s), (1, int a1)]) (fun s H => H1 = H ∧ s < 1000000000000) ?_ ?_
  · have hux := u64_of a0
    obtain ⟨u, u0, u1, hu⟩ := hux
    have e1 := tmod_bd u0 (show (0 : Int) < 1000000000000 by omega)
    have hexk : ∃ k : Nat, u.tmod 1000000000000 = (k : Int) := ⟨(u.tmod 1000000000000).toNat, by omega⟩
    obtain ⟨k, ek⟩ := hexk
    conv => whnf
    refine ⟨u, hu, ?_⟩
    conv => whnf
    refine ⟨by omega, ?_⟩
    conv => whnf
    refine ⟨(k : Int), wie ek (by omega), ?_⟩
    conv => whnf
    exact ⟨k, ⟨rfl, rfl, rfl, trivial⟩, ⟨rfl, by omega⟩, rfl⟩
  rintro n φ2 _ ⟨rfl, hn⟩
  conv => whnf
  refine SeqP.cut (α := Nat) (fun s => [(5, ptr N 0), (0, int n), (1, int s)]) (fun s H => H1 = H ∧ 1 ≤ s ∧ s ≤ 60) ?_ ?_
  · have hux := u64_of a1
    obtain ⟨u, u0, u1, hu⟩ := hux
    have e1 := tmod_bd u0 (show (0 : Int) < 60 by omega)
    have hexk : ∃ k : Nat, u.tmod 60 = (k : Int) := ⟨(u.tmod 60).toNat, by omega⟩
    obtain ⟨k, ek⟩ := hexk
    conv => whnf
    refine ⟨u, hu, ?_⟩
    conv => whnf
    refine ⟨by omega, ?_⟩
    conv => whnf
    refine ⟨(k : Int), wie ek (by omega), ?_⟩
    conv => whnf
    refine ⟨((k + 1 : Nat) : Int), wie (by omega) (by omega), ?_⟩
    conv => whnf
    exact ⟨k + 1, ⟨rfl, rfl, rfl, trivial⟩, ⟨rfl, by omega, by omega⟩, rfl⟩
  rintro m φ3 _ ⟨rfl, hm1, hm2⟩
  conv => whnf
  refine SeqP.cut (α := Hp) (fun s => [(5, ptr N 0), (0, int n), (1, int m), (8, .bool false), (9, int 0)]) (fun s H => s = H ∧ Grows H1 H) ?_ ?_
  · conv => whnf
    refine ⟨_, all_cells aT bT.len, ?_⟩
    conv => whnf
    refine CallP.mono (FindRound_spec _ tm _ (Bx.mv bT) tm_s) ?_
    rintro r H2 ⟨hr, g2⟩
    have hr := tm_find hr
    subst hr
    conv => whnf
    exact ⟨_, ⟨rfl, rfl, rfl, rfl, rfl, trivial⟩, ⟨rfl, g2⟩, rfl⟩
  rintro H2 φ4 _ ⟨rfl, g2⟩
  conv => whnf
  refine SeqP.go ?_
  conv => whnf
  refine SeqP.cut (α := Hp) (fun s => [(5, ptr N 0), (0, int n), (1, int m), (8, .bool false), (9, int 0), (10, .bool false)]) (fun s H => s = H ∧ Grows H1 H) ?_ ?_
  · conv => whnf
    repeat (refine SeqP.go ?_; conv => whnf)
    refine loop_inv (α := Nat × Bool × Hp) (fun s => [(5, ptr N 0), (0, int n), (1, int m), (8, .bool false), (9, int 0), (10, .bool s.2.1), (11, int s.1)]) (fun s => s.2.2) (fun s => s.1 ≤ m + 1 ∧ (s.2.1 = true → ∀ i, i < s.1 → tN (n + i) = tN (n + m + i)) ∧ Grows H1 s.2.2) (fun s => m + 1 - s.1) (0, true, H2) ⟨Nat.zero_le _, fun _ i hi => absurd hi (Nat.not_lt_zero _), g2⟩ ⟨rfl, rfl, rfl, rfl, rfl, rfl, rfl, trivial⟩ (Hp.Le.refl _) ?_
    rintro ⟨j, b, H⟩ φ5 ⟨hj, hb, gH⟩
    dsimp only at hj hb gH ⊢
    conv => whnf
    repeat (refine SeqP.go ?_; conv => whnf)
    refine cmpB (fun hlt => ?_) (fun hlt => ?_)
    rotate_left
    · cases b with
      | true => exact absurd (fun i hi => hb rfl i (by omega)) (no_over m m (Nat.le_refl m) hm1 n)
      | false =>
        conv => whnf
        repeat (refine SeqP.go ?_; conv => whnf)
        exact ⟨H, ⟨rfl, rfl, rfl, rfl, rfl, rfl, trivial⟩, ⟨rfl, gH⟩, rfl⟩
    have hj' : j ≤ m := by omega
    cases b with
    | false =>
      conv => whnf
      repeat (refine SeqP.go ?_; conv => whnf)
      exact ⟨H, ⟨rfl, rfl, rfl, rfl, rfl, rfl, trivial⟩, ⟨rfl, gH⟩, rfl⟩
    | true =>
      have hb := hb rfl
      have e1 := (tm_at (n + j)).1
      have e2 := (tm_at (n + m + j)).1
      have hexx : ∃ x, tm.at_ 0 (n + j) = x := ⟨_, rfl⟩
      obtain ⟨x, ex⟩ := hexx
      have hexy : ∃ y, tm.at_ 0 (n + m + j) = y := ⟨_, rfl⟩
      obtain ⟨y, ey⟩ := hexy
      rw [ex] at e1
      rw [ey] at e2
      conv => whnf
      repeat (refine SeqP.go ?_; conv => whnf)
      refine ⟨_, all_cells (gH.at_ _ _ aT) bT.len, ?_⟩
      conv => whnf
      refine ⟨((n + j : Nat) : Int), wie (by omega) (by omega), ?_⟩
      conv => whnf
      refine CallP.mono (At_spec _ tm ((n + j : Nat) : Int) _ (Bx.mv (bT.ext gH)) tm_s (by omega)) ?_
      rintro r H3 ⟨⟨-, hr⟩, g3⟩
      have hr := hr (by omega)
      rw [Int.toNat_natCast, ex] at hr
      subst hr
      conv => whnf
      repeat (refine SeqP.go ?_; conv => whnf)
      have gH3 := gH.trans g3
      refine ⟨_, all_cells (gH3.at_ _ _ aT) bT.len, ?_⟩
      conv => whnf
      refine ⟨((m + j : Nat) : Int), wie (by omega) (by omega), ?_⟩
      conv => whnf
      refine ⟨((n + m + j : Nat) : Int), wie (by omega) (by omega), ?_⟩
      conv => whnf
      refine CallP.mono (At_spec _ tm ((n + m + j : Nat) : Int) _ (Bx.mv (bT.ext gH3)) tm_s (by omega)) ?_
      rintro r H4 ⟨⟨-, hr⟩, g4⟩
      have hr := hr (by omega)
      rw [Int.toNat_natCast, ey] at hr
      subst hr
      conv => whnf
      repeat (refine SeqP.go ?_; conv => whnf)
      refine cmpF (by omega) ?_
      conv => whnf
      refine cmpF (by omega) ?_
      conv => whnf
      repeat (refine SeqP.go ?_; conv => whnf)
      refine cmpB (fun heq => ?_) (fun hne => ?_)
      · conv => whnf
        repeat (refine SeqP.go ?_; conv => whnf)
        refine ⟨((j + 1 : Nat) : Int), wie (by omega) (by omega), ?_⟩
        conv => whnf
        exact Rnd.mk (j + 1, true, H4) ⟨by show j + 1 ≤ m + 1; omega, fun _ i hi => by
          by_cases e : i = j
          · subst e; omega
          · exact hb i (by have : i < j + 1 := hi; omega), gH3.trans g4⟩ (by show m + 1 - (j + 1) < m + 1 - j; omega) ⟨rfl, rfl, rfl, rfl, rfl, rfl, rfl, trivial⟩ (Hp.Le.refl _) rfl
      · conv => whnf
        repeat (refine SeqP.go ?_; conv => whnf)
        refine ⟨((j + 1 : Nat) : Int), wie (by omega) (by omega), ?_⟩
        conv => whnf
        exact Rnd.mk (j + 1, false, H4) ⟨by show j + 1 ≤ m + 1; omega, fun h => (by cases h), gH3.trans g4⟩ (by show m + 1 - (j + 1) < m + 1 - j; omega) ⟨rfl, rfl, rfl, rfl, rfl, rfl, rfl, trivial⟩ (Hp.Le.refl _) rfl
  rintro H3 φ5 _ ⟨rfl, g3⟩
  conv => whnf
  refine SeqP.go ?_
  conv => whnf
  refine SeqP.cut (α := Nat) (fun s => [(5, ptr N 0), (0, int n), (8, .bool false), (9, int 0), (10, .bool false), (16, int s)]) (fun s H => H3 = H ∧ s % 2 = tN n) ?_ ?_
  · conv => whnf
    repeat (refine SeqP.go ?_; conv => whnf)
    refine loop_inv (α := Nat × Nat) (fun s => [(5, ptr N 0), (0, int n), (8, .bool false), (9, int 0), (10, .bool false), (16, int s.1), (17, int s.2)]) (fun _ => H3) (fun s => s.1 ≤ 1000000000000 ∧ s.1 + s.2 ≤ 1000000000000 ∧ (s.1 + tN s.2) % 2 = tN n) (fun s => s.2) (0, n) ⟨by show 0 ≤ 1000000000000; omega, by show 0 + n ≤ 1000000000000; omega, by have := tN_lt n; show (0 + tN n) % 2 = tN n; omega⟩ ⟨rfl, rfl, rfl, rfl, rfl, rfl, rfl, trivial⟩ (Hp.Le.refl _) ?_
    rintro ⟨s, q⟩ φ6 ⟨hs, hsq, hpar⟩
    dsimp only at hs hsq hpar ⊢
    conv => whnf
    repeat (refine SeqP.go ?_; conv => whnf)
    refine cmpB (fun hgt => ?_) (fun hgt => ?_)
    rotate_left
    · conv => whnf
      repeat (refine SeqP.go ?_; conv => whnf)
      have : q = 0 := by omega
      subst this
      have e0 : tN 0 = 0 := rfl
      exact ⟨s, ⟨rfl, rfl, rfl, rfl, rfl, rfl, trivial⟩, ⟨rfl, by omega⟩, rfl⟩
    have em := tmod_nat q 2
    have ed := tdiv_nat q 2
    conv => whnf
    repeat (refine SeqP.go ?_; conv => whnf)
    refine ⟨by omega, ?_⟩
    conv => whnf
    refine ⟨((s + q % 2 : Nat) : Int), wie (by rw [show (2 : Int) = ((2 : Nat) : Int) from rfl, em]; omega) (by omega), ?_⟩
    conv => whnf
    repeat (refine SeqP.go ?_; conv => whnf)
    refine ⟨by omega, ((q / 2 : Nat) : Int), wie (by rw [show (2 : Int) = ((2 : Nat) : Int) from rfl, ed]) (by omega), ?_⟩
    conv => whnf
    refine Rnd.mk (s + q % 2, q / 2) ⟨by show s + q % 2 ≤ 1000000000000; omega, by show s + q % 2 + q / 2 ≤ 1000000000000; omega, ?_⟩ (by show q / 2 < q; omega) ⟨rfl, rfl, rfl, rfl, rfl, rfl, rfl, trivial⟩ (Hp.Le.refl _) rfl
    show (s + q % 2 + tN (q / 2)) % 2 = tN n
    have hc : q % 2 = 0 ∨ q % 2 = 1 := by omega
    rcases hc with e | e
    · have e1 := tN_even (q / 2)
      rw [show 2 * (q / 2) = q by omega] at e1
      omega
    · have e1 := tN_odd (q / 2)
      rw [show 2 * (q / 2) + 1 = q by omega] at e1
      have := tN_lt (q / 2)
      omega
  rintro s φ6 _ ⟨rfl, hs⟩
  have em := tmod_nat s 2
  conv => whnf
  refine SeqP.cut (α := Hp) (fun H => [(8, .bool false), (9, int 0), (10, .bool false), (16, int s), (18, int (tN n)), (19, int 0)]) (fun x H => x = H) ?_ ?_
  · conv => whnf
    refine ⟨_, all_cells (g3.at_ _ _ aT) bT.len, ?_⟩
    conv => whnf
    refine CallP.mono (At_spec _ tm (n : Int) _ (Bx.mv (bT.ext g3)) tm_s (by omega)) ?_
    rintro r H4 ⟨⟨-, hr⟩, g4⟩
    have hr := hr (by omega)
    rw [Int.toNat_natCast, (tm_at n).1] at hr
    subst hr
    conv => whnf
    exact ⟨_, ⟨rfl, rfl, rfl, rfl, rfl, rfl, trivial⟩, rfl, rfl⟩
  rintro H4 φ7 _ rfl
  conv => whnf
  repeat (refine SeqP.go ?_; conv => whnf)
  refine cmpT rfl ?_
  conv => whnf
  refine cmpT rfl ?_
  conv => whnf
  refine ⟨by omega, ?_⟩
  conv => whnf
  refine cmpT (by rw [show (2 : Int) = ((2 : Nat) : Int) from rfl, em, hs]) ?_
  conv => whnf
  refine CallP.mono (awake_spec _) ?_
  rintro r H5 ⟨rfl, g5⟩
  conv => whnf
  repeat (refine SeqP.go ?_; conv => whnf)
  rfl
end
end Go.Proofs.Ytedneplaibmppaa
