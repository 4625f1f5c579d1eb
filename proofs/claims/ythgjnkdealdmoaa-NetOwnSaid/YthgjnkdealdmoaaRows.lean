/-
  No cell of these rows narrows 'for every input' (looked for: loops, veiled, ifaces, maps, wideKeys, modest, calm, conditions, laid).
  DERIVED. THE GIVEN ROWS OF THIS SEAT. 14 by the template 'for every input the law returns true; each argument reads behind the call as it read before'; 0 by the template 'total and deterministic' (their statements: YthgjnkdealdmoaaTotals.lean).
  GIVEN WITH THE SEED: the statements are not yours to turn. If you find one false, say at which input.
  Laid BY PROGRAM, IN A SANDBOX (cutbox-rows.mjs): the forced cells as the released guide's own fill.sh prints them over the translation 635813a138b806b8… (all of the seat's roots in one cut). By AI agents, Wed Nov 11 2026. No macro, syntax, notation, axiom, sorry.
-/
import Derived.Test.YthgjnkdealdmoaaChecked
import GoSem.Claim
import GoSem.ClaimJoined
import GoSem.ClaimMapViews
import Derived.JoinedTies
import Derived.KernelRfl
namespace Go.Proofs.Ythgjnkdealdmoaa
/- THE CELL 'sum', in the pinned program and in every row, IS THE sha256 OF THE DUMP (.gsa) THAT YthgjnkdealdmoaaProg.lean LOADS. Nothing in Lean hashes anything: it is a label: what it is worth is what the hold of that sum in a sandbox is worth. -/
noncomputable def Try.pinned : Pinned := { name := "ythgjnkdealdmoaa", sum := "635813a138b806b832885909a2b08996d72dfadd7c21d377545fd44b60f9ebe1", checked := Try.checked }
namespace Rows
def none {H : Type} : Left H := { results := [], args := [] }

/-- 'tosherlaw01.NetRanks': WHATEVER THE INPUT: true; the input reads as it did. -/
def netRanksSpec : ChangeSpec := { name := "netRanks", fn := fun _ => fun
  | [d1, d2, d3] => { results := [.lit (.bool true)], args := [d1, d2, d3] }
  | _ => none }
def netRanksRow : OpenClaim := { program := "ythgjnkdealdmoaa", sum := "635813a138b806b832885909a2b08996d72dfadd7c21d377545fd44b60f9ebe1", func := "tosher/tosherlaw01.NetRanks", spec := "netRanks", unfollowed := true, recurses := true, plainKeys := false, apart := false }
def NetRanksSaid : Prop := netRanksRow.holds Try.pinned (OpenSpec.ofChange netRanksSpec)

/-- ITS FALSE NEIGHBOUR: 'it returns false'. Refute it at one input. -/
def netRanksWrong : ChangeSpec := { name := "netRanks", fn := fun _ => fun
  | [d1, d2, d3] => { results := [.lit (.bool false)], args := [d1, d2, d3] }
  | _ => none }
def NetRanksWrongFalsely : Prop := netRanksRow.holds Try.pinned (OpenSpec.ofChange netRanksWrong)

/-- 'tosherlaw01.NetPolynomials': WHATEVER THE INPUT: true; the input reads as it did. -/
def netPolynomialsSpec : ChangeSpec := { name := "netPolynomials", fn := fun _ => fun
  | [d1, d2] => { results := [.lit (.bool true)], args := [d1, d2] }
  | _ => none }
def netPolynomialsRow : OpenClaim := { program := "ythgjnkdealdmoaa", sum := "635813a138b806b832885909a2b08996d72dfadd7c21d377545fd44b60f9ebe1", func := "tosher/tosherlaw01.NetPolynomials", spec := "netPolynomials", unfollowed := true, recurses := true, plainKeys := false, apart := false }
def NetPolynomialsSaid : Prop := netPolynomialsRow.holds Try.pinned (OpenSpec.ofChange netPolynomialsSpec)

/-- ITS FALSE NEIGHBOUR: 'it returns false'. Refute it at one input. -/
def netPolynomialsWrong : ChangeSpec := { name := "netPolynomials", fn := fun _ => fun
  | [d1, d2] => { results := [.lit (.bool false)], args := [d1, d2] }
  | _ => none }
def NetPolynomialsWrongFalsely : Prop := netPolynomialsRow.holds Try.pinned (OpenSpec.ofChange netPolynomialsWrong)

/-- 'tosherlaw01.NetValues': WHATEVER THE INPUT: true; the input reads as it did. -/
def netValuesSpec : ChangeSpec := { name := "netValues", fn := fun _ => fun
  | [d1, d2, d3] => { results := [.lit (.bool true)], args := [d1, d2, d3] }
  | _ => none }
def netValuesRow : OpenClaim := { program := "ythgjnkdealdmoaa", sum := "635813a138b806b832885909a2b08996d72dfadd7c21d377545fd44b60f9ebe1", func := "tosher/tosherlaw01.NetValues", spec := "netValues", unfollowed := true, recurses := true, plainKeys := false, apart := false }
def NetValuesSaid : Prop := netValuesRow.holds Try.pinned (OpenSpec.ofChange netValuesSpec)

/-- ITS FALSE NEIGHBOUR: 'it returns false'. Refute it at one input. -/
def netValuesWrong : ChangeSpec := { name := "netValues", fn := fun _ => fun
  | [d1, d2, d3] => { results := [.lit (.bool false)], args := [d1, d2, d3] }
  | _ => none }
def NetValuesWrongFalsely : Prop := netValuesRow.holds Try.pinned (OpenSpec.ofChange netValuesWrong)

/-- 'tosherlaw01.NetFinds': WHATEVER THE INPUT: true; the input reads as it did. -/
def netFindsSpec : ChangeSpec := { name := "netFinds", fn := fun _ => fun
  | [d1, d2, d3] => { results := [.lit (.bool true)], args := [d1, d2, d3] }
  | _ => none }
def netFindsRow : OpenClaim := { program := "ythgjnkdealdmoaa", sum := "635813a138b806b832885909a2b08996d72dfadd7c21d377545fd44b60f9ebe1", func := "tosher/tosherlaw01.NetFinds", spec := "netFinds", unfollowed := true, recurses := true, plainKeys := false, apart := false }
def NetFindsSaid : Prop := netFindsRow.holds Try.pinned (OpenSpec.ofChange netFindsSpec)

/-- ITS FALSE NEIGHBOUR: 'it returns false'. Refute it at one input. -/
def netFindsWrong : ChangeSpec := { name := "netFinds", fn := fun _ => fun
  | [d1, d2, d3] => { results := [.lit (.bool false)], args := [d1, d2, d3] }
  | _ => none }
def NetFindsWrongFalsely : Prop := netFindsRow.holds Try.pinned (OpenSpec.ofChange netFindsWrong)

/-- 'tosherlaw01.NetDirects': WHATEVER THE INPUT: true; the input reads as it did. -/
def netDirectsSpec : ChangeSpec := { name := "netDirects", fn := fun _ => fun
  | [d1, d2, d3] => { results := [.lit (.bool true)], args := [d1, d2, d3] }
  | _ => none }
def netDirectsRow : OpenClaim := { program := "ythgjnkdealdmoaa", sum := "635813a138b806b832885909a2b08996d72dfadd7c21d377545fd44b60f9ebe1", func := "tosher/tosherlaw01.NetDirects", spec := "netDirects", unfollowed := true, recurses := true, plainKeys := false, apart := false }
def NetDirectsSaid : Prop := netDirectsRow.holds Try.pinned (OpenSpec.ofChange netDirectsSpec)

/-- ITS FALSE NEIGHBOUR: 'it returns false'. Refute it at one input. -/
def netDirectsWrong : ChangeSpec := { name := "netDirects", fn := fun _ => fun
  | [d1, d2, d3] => { results := [.lit (.bool false)], args := [d1, d2, d3] }
  | _ => none }
def NetDirectsWrongFalsely : Prop := netDirectsRow.holds Try.pinned (OpenSpec.ofChange netDirectsWrong)

/-- 'tosherlaw01.NetCounts': WHATEVER THE INPUT: true; the input reads as it did. -/
def netCountsSpec : ChangeSpec := { name := "netCounts", fn := fun _ => fun
  | [d1, d2] => { results := [.lit (.bool true)], args := [d1, d2] }
  | _ => none }
def netCountsRow : OpenClaim := { program := "ythgjnkdealdmoaa", sum := "635813a138b806b832885909a2b08996d72dfadd7c21d377545fd44b60f9ebe1", func := "tosher/tosherlaw01.NetCounts", spec := "netCounts", unfollowed := true, recurses := true, plainKeys := false, apart := false }
def NetCountsSaid : Prop := netCountsRow.holds Try.pinned (OpenSpec.ofChange netCountsSpec)

/-- ITS FALSE NEIGHBOUR: 'it returns false'. Refute it at one input. -/
def netCountsWrong : ChangeSpec := { name := "netCounts", fn := fun _ => fun
  | [d1, d2] => { results := [.lit (.bool false)], args := [d1, d2] }
  | _ => none }
def NetCountsWrongFalsely : Prop := netCountsRow.holds Try.pinned (OpenSpec.ofChange netCountsWrong)

/-- 'tosherlaw01.NetTrees': WHATEVER THE INPUT: true; the input reads as it did. -/
def netTreesSpec : ChangeSpec := { name := "netTrees", fn := fun _ => fun
  | [d1, d2, d3] => { results := [.lit (.bool true)], args := [d1, d2, d3] }
  | _ => none }
def netTreesRow : OpenClaim := { program := "ythgjnkdealdmoaa", sum := "635813a138b806b832885909a2b08996d72dfadd7c21d377545fd44b60f9ebe1", func := "tosher/tosherlaw01.NetTrees", spec := "netTrees", unfollowed := true, recurses := true, plainKeys := false, apart := false }
def NetTreesSaid : Prop := netTreesRow.holds Try.pinned (OpenSpec.ofChange netTreesSpec)

/-- ITS FALSE NEIGHBOUR: 'it returns false'. Refute it at one input. -/
def netTreesWrong : ChangeSpec := { name := "netTrees", fn := fun _ => fun
  | [d1, d2, d3] => { results := [.lit (.bool false)], args := [d1, d2, d3] }
  | _ => none }
def NetTreesWrongFalsely : Prop := netTreesRow.holds Try.pinned (OpenSpec.ofChange netTreesWrong)

/-- 'tosherlaw01.NetSmaller': WHATEVER THE INPUT: true; the input reads as it did. -/
def netSmallerSpec : ChangeSpec := { name := "netSmaller", fn := fun _ => fun
  | [d1, d2, d3] => { results := [.lit (.bool true)], args := [d1, d2, d3] }
  | _ => none }
def netSmallerRow : OpenClaim := { program := "ythgjnkdealdmoaa", sum := "635813a138b806b832885909a2b08996d72dfadd7c21d377545fd44b60f9ebe1", func := "tosher/tosherlaw01.NetSmaller", spec := "netSmaller", unfollowed := true, recurses := true, plainKeys := false, apart := false }
def NetSmallerSaid : Prop := netSmallerRow.holds Try.pinned (OpenSpec.ofChange netSmallerSpec)

/-- ITS FALSE NEIGHBOUR: 'it returns false'. Refute it at one input. -/
def netSmallerWrong : ChangeSpec := { name := "netSmaller", fn := fun _ => fun
  | [d1, d2, d3] => { results := [.lit (.bool false)], args := [d1, d2, d3] }
  | _ => none }
def NetSmallerWrongFalsely : Prop := netSmallerRow.holds Try.pinned (OpenSpec.ofChange netSmallerWrong)

/-- 'tosherlaw01.NetWhitney': WHATEVER THE INPUT: true; the input reads as it did. -/
def netWhitneySpec : ChangeSpec := { name := "netWhitney", fn := fun _ => fun
  | [d1, d2, d3] => { results := [.lit (.bool true)], args := [d1, d2, d3] }
  | _ => none }
def netWhitneyRow : OpenClaim := { program := "ythgjnkdealdmoaa", sum := "635813a138b806b832885909a2b08996d72dfadd7c21d377545fd44b60f9ebe1", func := "tosher/tosherlaw01.NetWhitney", spec := "netWhitney", unfollowed := true, recurses := true, plainKeys := false, apart := false }
def NetWhitneySaid : Prop := netWhitneyRow.holds Try.pinned (OpenSpec.ofChange netWhitneySpec)

/-- ITS FALSE NEIGHBOUR: 'it returns false'. Refute it at one input. -/
def netWhitneyWrong : ChangeSpec := { name := "netWhitney", fn := fun _ => fun
  | [d1, d2, d3] => { results := [.lit (.bool false)], args := [d1, d2, d3] }
  | _ => none }
def NetWhitneyWrongFalsely : Prop := netWhitneyRow.holds Try.pinned (OpenSpec.ofChange netWhitneyWrong)

/-- 'tosherlaw01.NetStanley': WHATEVER THE INPUT: true; the input reads as it did. -/
def netStanleySpec : ChangeSpec := { name := "netStanley", fn := fun _ => fun
  | [d1, d2] => { results := [.lit (.bool true)], args := [d1, d2] }
  | _ => none }
def netStanleyRow : OpenClaim := { program := "ythgjnkdealdmoaa", sum := "635813a138b806b832885909a2b08996d72dfadd7c21d377545fd44b60f9ebe1", func := "tosher/tosherlaw01.NetStanley", spec := "netStanley", unfollowed := true, recurses := true, plainKeys := false, apart := false }
def NetStanleySaid : Prop := netStanleyRow.holds Try.pinned (OpenSpec.ofChange netStanleySpec)

/-- ITS FALSE NEIGHBOUR: 'it returns false'. Refute it at one input. -/
def netStanleyWrong : ChangeSpec := { name := "netStanley", fn := fun _ => fun
  | [d1, d2] => { results := [.lit (.bool false)], args := [d1, d2] }
  | _ => none }
def NetStanleyWrongFalsely : Prop := netStanleyRow.holds Try.pinned (OpenSpec.ofChange netStanleyWrong)

/-- 'tosherlaw01.NetActives': WHATEVER THE INPUT: true; the input reads as it did. -/
def netActivesSpec : ChangeSpec := { name := "netActives", fn := fun _ => fun
  | [d1, d2] => { results := [.lit (.bool true)], args := [d1, d2] }
  | _ => none }
def netActivesRow : OpenClaim := { program := "ythgjnkdealdmoaa", sum := "635813a138b806b832885909a2b08996d72dfadd7c21d377545fd44b60f9ebe1", func := "tosher/tosherlaw01.NetActives", spec := "netActives", unfollowed := true, recurses := true, plainKeys := false, apart := false }
def NetActivesSaid : Prop := netActivesRow.holds Try.pinned (OpenSpec.ofChange netActivesSpec)

/-- ITS FALSE NEIGHBOUR: 'it returns false'. Refute it at one input. -/
def netActivesWrong : ChangeSpec := { name := "netActives", fn := fun _ => fun
  | [d1, d2] => { results := [.lit (.bool false)], args := [d1, d2] }
  | _ => none }
def NetActivesWrongFalsely : Prop := netActivesRow.holds Try.pinned (OpenSpec.ofChange netActivesWrong)

/-- 'tosherlaw01.NetDeletes': WHATEVER THE INPUT: true; the input reads as it did. -/
def netDeletesSpec : ChangeSpec := { name := "netDeletes", fn := fun _ => fun
  | [d1, d2, d3] => { results := [.lit (.bool true)], args := [d1, d2, d3] }
  | _ => none }
def netDeletesRow : OpenClaim := { program := "ythgjnkdealdmoaa", sum := "635813a138b806b832885909a2b08996d72dfadd7c21d377545fd44b60f9ebe1", func := "tosher/tosherlaw01.NetDeletes", spec := "netDeletes", unfollowed := true, recurses := true, plainKeys := false, apart := false }
def NetDeletesSaid : Prop := netDeletesRow.holds Try.pinned (OpenSpec.ofChange netDeletesSpec)

/-- ITS FALSE NEIGHBOUR: 'it returns false'. Refute it at one input. -/
def netDeletesWrong : ChangeSpec := { name := "netDeletes", fn := fun _ => fun
  | [d1, d2, d3] => { results := [.lit (.bool false)], args := [d1, d2, d3] }
  | _ => none }
def NetDeletesWrongFalsely : Prop := netDeletesRow.holds Try.pinned (OpenSpec.ofChange netDeletesWrong)

/-- 'tosherlaw01.NetOwn': WHATEVER THE INPUT: true; the input reads as it did. -/
def netOwnSpec : ChangeSpec := { name := "netOwn", fn := fun _ => fun
  | [d1, d2] => { results := [.lit (.bool true)], args := [d1, d2] }
  | _ => none }
def netOwnRow : OpenClaim := { program := "ythgjnkdealdmoaa", sum := "635813a138b806b832885909a2b08996d72dfadd7c21d377545fd44b60f9ebe1", func := "tosher/tosherlaw01.NetOwn", spec := "netOwn", unfollowed := true, recurses := true, plainKeys := false, apart := false }
def NetOwnSaid : Prop := netOwnRow.holds Try.pinned (OpenSpec.ofChange netOwnSpec)

/-- ITS FALSE NEIGHBOUR: 'it returns false'. Refute it at one input. -/
def netOwnWrong : ChangeSpec := { name := "netOwn", fn := fun _ => fun
  | [d1, d2] => { results := [.lit (.bool false)], args := [d1, d2] }
  | _ => none }
def NetOwnWrongFalsely : Prop := netOwnRow.holds Try.pinned (OpenSpec.ofChange netOwnWrong)

/-- 'tosherlaw01.NetRenamed': WHATEVER THE INPUT: true; the input reads as it did. -/
def netRenamedSpec : ChangeSpec := { name := "netRenamed", fn := fun _ => fun
  | [d1, d2, d3] => { results := [.lit (.bool true)], args := [d1, d2, d3] }
  | _ => none }
def netRenamedRow : OpenClaim := { program := "ythgjnkdealdmoaa", sum := "635813a138b806b832885909a2b08996d72dfadd7c21d377545fd44b60f9ebe1", func := "tosher/tosherlaw01.NetRenamed", spec := "netRenamed", unfollowed := true, recurses := true, plainKeys := false, apart := false }
def NetRenamedSaid : Prop := netRenamedRow.holds Try.pinned (OpenSpec.ofChange netRenamedSpec)

/-- ITS FALSE NEIGHBOUR: 'it returns false'. Refute it at one input. -/
def netRenamedWrong : ChangeSpec := { name := "netRenamed", fn := fun _ => fun
  | [d1, d2, d3] => { results := [.lit (.bool false)], args := [d1, d2, d3] }
  | _ => none }
def NetRenamedWrongFalsely : Prop := netRenamedRow.holds Try.pinned (OpenSpec.ofChange netRenamedWrong)

/- THE SECOND FORM. 'bulk': how many values and letters a reading holds, each counted each time it is reached (what is shared counts as often as it is met; a slice's spare places count too). A statement '..UptoSaid' is the law's where the arguments, and the package variables that the reading takes, are together of bulk at most 1048576: NARROWER than '..Said'. Prove '..Said' where nothing that the law and all that it calls make is longer than what came in: it says more and counts as full. Else prove '..UptoSaid'. A law counts once. -/
mutual
def uptoBulk {H : Type} : DataW H → Nat
  | .lit (.string bytes) => bytes.length + 1
  | .lit _ => 1
  | .nil => 1
  | .ptr d => uptoBulk d + 1
  | .slice elems spare => uptoBulkAll elems + uptoBulkAll spare + 1
  | .agg parts => uptoBulkAll parts + 1
  | .iface _ d => uptoBulk d + 1
  | .map entries => uptoBulkEntries entries + 1
  | .held _ => 1
def uptoBulkAll {H : Type} : List (DataW H) → Nat
  | [] => 0
  | d :: r => uptoBulk d + uptoBulkAll r
def uptoBulkEntries {H : Type} : List (Lit × DataW H) → Nat
  | [] => 0
  | x :: r => uptoBulkEntry x + uptoBulkEntries r
def uptoBulkEntry {H : Type} : Lit × DataW H → Nat
  | (.string bytes, d) => bytes.length + uptoBulk d + 1
  | (_, d) => uptoBulk d + 1
 end
def uptoSmall : (H : Type) → List (DataW H) → Bool := fun _ ds => decide (uptoBulkAll ds ≤ 1048576)
def OpenSpec.upto (s : _root_.Go.ChangeSpec) : _root_.Go.OpenSpec := { _root_.Go.OpenSpec.ofChange s with cond := some uptoSmall }

/-- 'tosherlaw01.NetRanks', WHERE WHAT IT READS IS OF BULK AT MOST 1048576: true; the input reads as it did. -/
def netRanksUptoRow : OpenClaim := { program := "ythgjnkdealdmoaa", sum := "635813a138b806b832885909a2b08996d72dfadd7c21d377545fd44b60f9ebe1", func := "tosher/tosherlaw01.NetRanks", spec := "netRanks", unfollowed := true, recurses := true, plainKeys := false, apart := false, narrowed := true }
def NetRanksUptoSaid : Prop := netRanksUptoRow.holds Try.pinned (OpenSpec.upto netRanksSpec)

/-- 'tosherlaw01.NetPolynomials', WHERE WHAT IT READS IS OF BULK AT MOST 1048576: true; the input reads as it did. -/
def netPolynomialsUptoRow : OpenClaim := { program := "ythgjnkdealdmoaa", sum := "635813a138b806b832885909a2b08996d72dfadd7c21d377545fd44b60f9ebe1", func := "tosher/tosherlaw01.NetPolynomials", spec := "netPolynomials", unfollowed := true, recurses := true, plainKeys := false, apart := false, narrowed := true }
def NetPolynomialsUptoSaid : Prop := netPolynomialsUptoRow.holds Try.pinned (OpenSpec.upto netPolynomialsSpec)

/-- 'tosherlaw01.NetValues', WHERE WHAT IT READS IS OF BULK AT MOST 1048576: true; the input reads as it did. -/
def netValuesUptoRow : OpenClaim := { program := "ythgjnkdealdmoaa", sum := "635813a138b806b832885909a2b08996d72dfadd7c21d377545fd44b60f9ebe1", func := "tosher/tosherlaw01.NetValues", spec := "netValues", unfollowed := true, recurses := true, plainKeys := false, apart := false, narrowed := true }
def NetValuesUptoSaid : Prop := netValuesUptoRow.holds Try.pinned (OpenSpec.upto netValuesSpec)

/-- 'tosherlaw01.NetFinds', WHERE WHAT IT READS IS OF BULK AT MOST 1048576: true; the input reads as it did. -/
def netFindsUptoRow : OpenClaim := { program := "ythgjnkdealdmoaa", sum := "635813a138b806b832885909a2b08996d72dfadd7c21d377545fd44b60f9ebe1", func := "tosher/tosherlaw01.NetFinds", spec := "netFinds", unfollowed := true, recurses := true, plainKeys := false, apart := false, narrowed := true }
def NetFindsUptoSaid : Prop := netFindsUptoRow.holds Try.pinned (OpenSpec.upto netFindsSpec)

/-- 'tosherlaw01.NetDirects', WHERE WHAT IT READS IS OF BULK AT MOST 1048576: true; the input reads as it did. -/
def netDirectsUptoRow : OpenClaim := { program := "ythgjnkdealdmoaa", sum := "635813a138b806b832885909a2b08996d72dfadd7c21d377545fd44b60f9ebe1", func := "tosher/tosherlaw01.NetDirects", spec := "netDirects", unfollowed := true, recurses := true, plainKeys := false, apart := false, narrowed := true }
def NetDirectsUptoSaid : Prop := netDirectsUptoRow.holds Try.pinned (OpenSpec.upto netDirectsSpec)

/-- 'tosherlaw01.NetCounts', WHERE WHAT IT READS IS OF BULK AT MOST 1048576: true; the input reads as it did. -/
def netCountsUptoRow : OpenClaim := { program := "ythgjnkdealdmoaa", sum := "635813a138b806b832885909a2b08996d72dfadd7c21d377545fd44b60f9ebe1", func := "tosher/tosherlaw01.NetCounts", spec := "netCounts", unfollowed := true, recurses := true, plainKeys := false, apart := false, narrowed := true }
def NetCountsUptoSaid : Prop := netCountsUptoRow.holds Try.pinned (OpenSpec.upto netCountsSpec)

/-- 'tosherlaw01.NetTrees', WHERE WHAT IT READS IS OF BULK AT MOST 1048576: true; the input reads as it did. -/
def netTreesUptoRow : OpenClaim := { program := "ythgjnkdealdmoaa", sum := "635813a138b806b832885909a2b08996d72dfadd7c21d377545fd44b60f9ebe1", func := "tosher/tosherlaw01.NetTrees", spec := "netTrees", unfollowed := true, recurses := true, plainKeys := false, apart := false, narrowed := true }
def NetTreesUptoSaid : Prop := netTreesUptoRow.holds Try.pinned (OpenSpec.upto netTreesSpec)

/-- 'tosherlaw01.NetSmaller', WHERE WHAT IT READS IS OF BULK AT MOST 1048576: true; the input reads as it did. -/
def netSmallerUptoRow : OpenClaim := { program := "ythgjnkdealdmoaa", sum := "635813a138b806b832885909a2b08996d72dfadd7c21d377545fd44b60f9ebe1", func := "tosher/tosherlaw01.NetSmaller", spec := "netSmaller", unfollowed := true, recurses := true, plainKeys := false, apart := false, narrowed := true }
def NetSmallerUptoSaid : Prop := netSmallerUptoRow.holds Try.pinned (OpenSpec.upto netSmallerSpec)

/-- 'tosherlaw01.NetWhitney', WHERE WHAT IT READS IS OF BULK AT MOST 1048576: true; the input reads as it did. -/
def netWhitneyUptoRow : OpenClaim := { program := "ythgjnkdealdmoaa", sum := "635813a138b806b832885909a2b08996d72dfadd7c21d377545fd44b60f9ebe1", func := "tosher/tosherlaw01.NetWhitney", spec := "netWhitney", unfollowed := true, recurses := true, plainKeys := false, apart := false, narrowed := true }
def NetWhitneyUptoSaid : Prop := netWhitneyUptoRow.holds Try.pinned (OpenSpec.upto netWhitneySpec)

/-- 'tosherlaw01.NetStanley', WHERE WHAT IT READS IS OF BULK AT MOST 1048576: true; the input reads as it did. -/
def netStanleyUptoRow : OpenClaim := { program := "ythgjnkdealdmoaa", sum := "635813a138b806b832885909a2b08996d72dfadd7c21d377545fd44b60f9ebe1", func := "tosher/tosherlaw01.NetStanley", spec := "netStanley", unfollowed := true, recurses := true, plainKeys := false, apart := false, narrowed := true }
def NetStanleyUptoSaid : Prop := netStanleyUptoRow.holds Try.pinned (OpenSpec.upto netStanleySpec)

/-- 'tosherlaw01.NetActives', WHERE WHAT IT READS IS OF BULK AT MOST 1048576: true; the input reads as it did. -/
def netActivesUptoRow : OpenClaim := { program := "ythgjnkdealdmoaa", sum := "635813a138b806b832885909a2b08996d72dfadd7c21d377545fd44b60f9ebe1", func := "tosher/tosherlaw01.NetActives", spec := "netActives", unfollowed := true, recurses := true, plainKeys := false, apart := false, narrowed := true }
def NetActivesUptoSaid : Prop := netActivesUptoRow.holds Try.pinned (OpenSpec.upto netActivesSpec)

/-- 'tosherlaw01.NetDeletes', WHERE WHAT IT READS IS OF BULK AT MOST 1048576: true; the input reads as it did. -/
def netDeletesUptoRow : OpenClaim := { program := "ythgjnkdealdmoaa", sum := "635813a138b806b832885909a2b08996d72dfadd7c21d377545fd44b60f9ebe1", func := "tosher/tosherlaw01.NetDeletes", spec := "netDeletes", unfollowed := true, recurses := true, plainKeys := false, apart := false, narrowed := true }
def NetDeletesUptoSaid : Prop := netDeletesUptoRow.holds Try.pinned (OpenSpec.upto netDeletesSpec)

/-- 'tosherlaw01.NetOwn', WHERE WHAT IT READS IS OF BULK AT MOST 1048576: true; the input reads as it did. -/
def netOwnUptoRow : OpenClaim := { program := "ythgjnkdealdmoaa", sum := "635813a138b806b832885909a2b08996d72dfadd7c21d377545fd44b60f9ebe1", func := "tosher/tosherlaw01.NetOwn", spec := "netOwn", unfollowed := true, recurses := true, plainKeys := false, apart := false, narrowed := true }
def NetOwnUptoSaid : Prop := netOwnUptoRow.holds Try.pinned (OpenSpec.upto netOwnSpec)

/-- 'tosherlaw01.NetRenamed', WHERE WHAT IT READS IS OF BULK AT MOST 1048576: true; the input reads as it did. -/
def netRenamedUptoRow : OpenClaim := { program := "ythgjnkdealdmoaa", sum := "635813a138b806b832885909a2b08996d72dfadd7c21d377545fd44b60f9ebe1", func := "tosher/tosherlaw01.NetRenamed", spec := "netRenamed", unfollowed := true, recurses := true, plainKeys := false, apart := false, narrowed := true }
def NetRenamedUptoSaid : Prop := netRenamedUptoRow.holds Try.pinned (OpenSpec.upto netRenamedSpec)

end Rows
end Go.Proofs.Ythgjnkdealdmoaa
