/- Contracts of the functions that SJorZ comes to. -/
import Derived.Test.YticmdpcahpimhaaSParts2
set_option maxRecDepth 100000
set_option maxHeartbeats 1000000
set_option linter.unusedVariables false
set_option linter.unusedSectionVars false
set_option linter.unusedSimpArgs false
namespace Go.Proofs.Yticmdpcahpimhaa
open Go.Rx Go.RowKit Go.Comp
/-- The number of a set's members, and how it is reckoned. -/
def pop (s : Nat) : Nat := ((List.range 10).filter s.testBit).length
def p1 (s : Nat) : Nat := (s >>> 1 &&& 6148914691236517205) + (s &&& 6148914691236517205)
def p2 (s : Nat) : Nat := (p1 s >>> 2 &&& 3689348814741910323) + (p1 s &&& 3689348814741910323)
def p3 (s : Nat) : Nat := p2 s >>> 4 + p2 s
def p4 (s : Nat) : Nat := (p3 s &&& 1085102592571150095) + (p3 s &&& 1085102592571150095) >>> 8
def p5 (s : Nat) : Nat := p4 s + p4 s >>> 16
def p6 (s : Nat) : Nat := p5 s + p5 s >>> 32
theorem pop_ok : ∀ s, s < 1024 → p1 s < 4194304 ∧ p2 s < 4194304 ∧ p3 s < 4194304 ∧ p4 s < 4194304 ∧ p5 s < 4194304 ∧ p6 s < 4194304 ∧ p6 s &&& 127 = pop s := by decide +kernel
theorem uwrap_nat {n : Nat} (h : n < 18446744073709551616) : IntKind.wrap .u64 (n : Int) = n := by
  have := @u64_id (n : Int) ⟨by omega, by omega⟩
  unfold IsWrap wrapI at this
  exact this.symm
theorem ubits_and {a b : Nat} (ha : a < 18446744073709551616) (hb : b < 18446744073709551616) : arBits .u64 .and a b = ((a &&& b : Nat) : Int) := by
  have hlt : a &&& b < 2 ^ 64 := Nat.and_lt_two_pow _ (by omega)
  show IntKind.wrap .u64 (BitVec.toNat (BitVec.ofInt 64 (a : Int) &&& BitVec.ofInt 64 (b : Int))) = _
  rw [ofInt_nat, ofInt_nat, BitVec.toNat_and, BitVec.toNat_ofNat, BitVec.toNat_ofNat, Nat.mod_eq_of_lt (by omega), Nat.mod_eq_of_lt (by omega), uwrap_nat (by omega)]
theorem uwie {n r : Int} (e : n = r) (h : 0 ≤ r ∧ r < 18446744073709551616) : IsWrap .u64 n r := e ▸ u64_id (by rw [e]; exact h)
attribute [local irreducible] E idxN cellAt cellsAt storeAt callable helems hmoved lookIn findKey keyOk hentries Hp.at Hp.set Hp.lay arBits hupdated setAt CallP YieldP BoolOf IsWrap Rnd LoopP AppP CutP Int.tmod Int.tdiv Int.fdiv
section
variable [Unknowns]
attribute [local irreducible] ResP sameAt
theorem ones_spec (s : Nat) (hs : s < 1024) (h : Hp) : CallP E 98 [.int .u64 (s : Int)] h (fun r h' => r = int (pop s) ∧ h' = h) := by
  obtain ⟨h1, h2, h3, h4, h5, h6, h7⟩ := pop_ok s hs
  have le : ∀ a k, a >>> k ≤ a := fun a k => by rw [Nat.shiftRight_eq_div_pow]; exact Nat.div_le_self _ _
  refine enter98 (by simp) ?_
  conv => whnf
  repeat (refine SeqP.go ?_; conv => whnf)
  refine ⟨by omega, ?_⟩
  conv => whnf
  refine ⟨(p1 s : Int), uwie ?_ (by omega), ?_⟩
  · have e1 := shr_nat (a := s) (k := 1) (by omega)
    have e2 := ubits_and (a := s >>> 1) (b := 6148914691236517205) (by have := le s 1; omega) (by omega)
    have e3 := ubits_and (a := s) (b := 6148914691236517205) (by omega) (by omega)
    show arBits .u64 .and ((s : Int).fdiv (2 ^ (min ((1 : Nat) : Int).toNat 64))) ((6148914691236517205 : Nat) : Int) + arBits .u64 .and (s : Int) ((6148914691236517205 : Nat) : Int) = (p1 s : Int)
    rw [e1, e2, e3]
    rfl
  conv => whnf
  repeat (refine SeqP.go ?_; conv => whnf)
  refine ⟨by omega, ?_⟩
  conv => whnf
  refine ⟨(p2 s : Int), uwie ?_ (by omega), ?_⟩
  · have e1 := shr_nat (a := p1 s) (k := 2) (by omega)
    have e2 := ubits_and (a := p1 s >>> 2) (b := 3689348814741910323) (by have := le (p1 s) 2; omega) (by omega)
    have e3 := ubits_and (a := p1 s) (b := 3689348814741910323) (by omega) (by omega)
    show arBits .u64 .and ((p1 s : Int).fdiv (2 ^ (min ((2 : Nat) : Int).toNat 64))) ((3689348814741910323 : Nat) : Int) + arBits .u64 .and (p1 s : Int) ((3689348814741910323 : Nat) : Int) = (p2 s : Int)
    rw [e1, e2, e3]
    rfl
  conv => whnf
  repeat (refine SeqP.go ?_; conv => whnf)
  refine ⟨by omega, ?_⟩
  conv => whnf
  refine ⟨(p3 s : Int), uwie ?_ (by omega), ?_⟩
  · have e1 := shr_nat (a := p2 s) (k := 4) (by omega)
    show (p2 s : Int).fdiv (2 ^ (min ((4 : Nat) : Int).toNat 64)) + (p2 s : Int) = (p3 s : Int)
    rw [e1]
    rfl
  conv => whnf
  repeat (refine SeqP.go ?_; conv => whnf)
  refine ⟨by omega, ?_⟩
  conv => whnf
  refine ⟨(p4 s : Int), uwie ?_ (by omega), ?_⟩
  · have e2 := ubits_and (a := p3 s) (b := 1085102592571150095) (by omega) (by omega)
    have e1 := shr_nat (a := p3 s &&& 1085102592571150095) (k := 8) (by omega)
    show arBits .u64 .and (p3 s : Int) ((1085102592571150095 : Nat) : Int) + (arBits .u64 .and (p3 s : Int) ((1085102592571150095 : Nat) : Int)).fdiv (2 ^ (min ((8 : Nat) : Int).toNat 64)) = (p4 s : Int)
    rw [e2, e1]
    rfl
  conv => whnf
  repeat (refine SeqP.go ?_; conv => whnf)
  refine ⟨by omega, ?_⟩
  conv => whnf
  refine ⟨(p5 s : Int), uwie ?_ (by omega), ?_⟩
  · have e1 := shr_nat (a := p4 s) (k := 16) (by omega)
    show (p4 s : Int) + (p4 s : Int).fdiv (2 ^ (min ((16 : Nat) : Int).toNat 64)) = (p5 s : Int)
    rw [e1]
    rfl
  conv => whnf
  repeat (refine SeqP.go ?_; conv => whnf)
  refine ⟨by omega, ?_⟩
  conv => whnf
  refine ⟨(p6 s : Int), uwie ?_ (by omega), ?_⟩
  · have e1 := shr_nat (a := p5 s) (k := 32) (by omega)
    show (p5 s : Int) + (p5 s : Int).fdiv (2 ^ (min ((32 : Nat) : Int).toNat 64)) = (p6 s : Int)
    rw [e1]
    rfl
  conv => whnf
  repeat (refine SeqP.go ?_; conv => whnf)
  refine ⟨(p6 s : Int), wid (by omega), ?_⟩
  conv => whnf
  repeat (refine SeqP.go ?_; conv => whnf)
  refine ⟨?_, rfl⟩
  have e2 := bits_and (a := p6 s) (b := 127) (by omega) (by omega)
  show Value.int .i64 (arBits .i64 .and (p6 s : Int) ((127 : Nat) : Int)) = _
  rw [e2, h7]
theorem ones94 (s : Nat) (hs : s < 1024) (h : Hp) : CallP E 94 [.int .u64 (s : Int)] h (fun r h' => r = int (pop s) ∧ h' = h) := by
  refine enter94 (by simp) ?_
  conv => whnf
  repeat (refine SeqP.go ?_; conv => whnf)
  refine CallP.mono (ones_spec s hs h) ?_
  rintro r _ ⟨rfl, rfl⟩
  conv => whnf
  repeat (refine SeqP.go ?_; conv => whnf)
  exact ⟨rfl, rfl⟩
theorem size_spec (s : Nat) (hs : s < 1024) (h : Hp) : CallP E 91 [int s] h (fun r h' => r = int (pop s) ∧ h' = h) := by
  refine enter91 (by simp) ?_
  conv => whnf
  repeat (refine SeqP.go ?_; conv => whnf)
  refine ⟨(s : Int), u64_id (by omega), ?_⟩
  conv => whnf
  refine CallP.mono (ones94 s hs h) ?_
  rintro r _ ⟨rfl, rfl⟩
  conv => whnf
  repeat (refine SeqP.go ?_; conv => whnf)
  exact ⟨rfl, rfl⟩
end
end Go.Proofs.Yticmdpcahpimhaa
