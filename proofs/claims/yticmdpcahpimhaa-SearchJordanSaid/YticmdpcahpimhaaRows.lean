/-
  No cell of these rows narrows 'for every input' (looked for: loops, veiled, ifaces, maps, wideKeys, modest, calm, conditions, laid).
  DERIVED. THE GIVEN ROWS OF THIS SEAT. 13 by the template 'for every input the law returns true; each argument reads behind the call as it read before'; 0 by the template 'total and deterministic' (their statements: YticmdpcahpimhaaTotals.lean).
  GIVEN WITH THE SEED: the statements are not yours to turn. If you find one false, say at which input.
  Laid BY PROGRAM, IN A SANDBOX (cutbox-rows.mjs): the forced cells as the released guide's own fill.sh prints them over the translation d2630308554b3ec6… (all of the seat's roots in one cut). By AI agents, Wed Nov 11 2026. No macro, syntax, notation, axiom, sorry.
-/
import Derived.Test.YticmdpcahpimhaaChecked
import GoSem.Claim
import GoSem.ClaimJoined
import GoSem.ClaimMapViews
import Derived.JoinedTies
import Derived.KernelRfl
namespace Go.Proofs.Yticmdpcahpimhaa
/- THE CELL 'sum', in the pinned program and in every row, IS THE sha256 OF THE DUMP (.gsa) THAT YticmdpcahpimhaaProg.lean LOADS. Nothing in Lean hashes anything: it is a label: what it is worth is what the hold of that sum in a sandbox is worth. -/
noncomputable def Try.pinned : Pinned := { name := "yticmdpcahpimhaa", sum := "d2630308554b3ec6e42621195c7d3052c2ed12deb22f9cedc57986f6679f515d", checked := Try.checked }
namespace Rows
def none {H : Type} : Left H := { results := [], args := [] }

/-- 'tosherlaw08.SearchChecks': WHATEVER THE INPUT: true; the input reads as it did. -/
def searchChecksSpec : ChangeSpec := { name := "searchChecks", fn := fun _ => fun
  | [d1, d2, d3] => { results := [.lit (.bool true)], args := [d1, d2, d3] }
  | _ => none }
def searchChecksRow : OpenClaim := { program := "yticmdpcahpimhaa", sum := "d2630308554b3ec6e42621195c7d3052c2ed12deb22f9cedc57986f6679f515d", func := "tosher/tosherlaw08.SearchChecks", spec := "searchChecks", unfollowed := true, recurses := true, apart := false }
def SearchChecksSaid : Prop := searchChecksRow.holds Try.pinned (OpenSpec.ofChange searchChecksSpec)

/-- ITS FALSE NEIGHBOUR: 'it returns false'. Refute it at one input. -/
def searchChecksWrong : ChangeSpec := { name := "searchChecks", fn := fun _ => fun
  | [d1, d2, d3] => { results := [.lit (.bool false)], args := [d1, d2, d3] }
  | _ => none }
def SearchChecksWrongFalsely : Prop := searchChecksRow.holds Try.pinned (OpenSpec.ofChange searchChecksWrong)

/-- 'tosherlaw08.SearchPlans': WHATEVER THE INPUT: true; the input reads as it did. -/
def searchPlansSpec : ChangeSpec := { name := "searchPlans", fn := fun _ => fun
  | [d1, d2, d3] => { results := [.lit (.bool true)], args := [d1, d2, d3] }
  | _ => none }
def searchPlansRow : OpenClaim := { program := "yticmdpcahpimhaa", sum := "d2630308554b3ec6e42621195c7d3052c2ed12deb22f9cedc57986f6679f515d", func := "tosher/tosherlaw08.SearchPlans", spec := "searchPlans", unfollowed := true, recurses := true, apart := false }
def SearchPlansSaid : Prop := searchPlansRow.holds Try.pinned (OpenSpec.ofChange searchPlansSpec)

/-- ITS FALSE NEIGHBOUR: 'it returns false'. Refute it at one input. -/
def searchPlansWrong : ChangeSpec := { name := "searchPlans", fn := fun _ => fun
  | [d1, d2, d3] => { results := [.lit (.bool false)], args := [d1, d2, d3] }
  | _ => none }
def SearchPlansWrongFalsely : Prop := searchPlansRow.holds Try.pinned (OpenSpec.ofChange searchPlansWrong)

/-- 'tosherlaw08.SearchBests': WHATEVER THE INPUT: true; the input reads as it did. -/
def searchBestsSpec : ChangeSpec := { name := "searchBests", fn := fun _ => fun
  | [d1, d2] => { results := [.lit (.bool true)], args := [d1, d2] }
  | _ => none }
def searchBestsRow : OpenClaim := { program := "yticmdpcahpimhaa", sum := "d2630308554b3ec6e42621195c7d3052c2ed12deb22f9cedc57986f6679f515d", func := "tosher/tosherlaw08.SearchBests", spec := "searchBests", unfollowed := true, recurses := true, apart := false }
def SearchBestsSaid : Prop := searchBestsRow.holds Try.pinned (OpenSpec.ofChange searchBestsSpec)

/-- ITS FALSE NEIGHBOUR: 'it returns false'. Refute it at one input. -/
def searchBestsWrong : ChangeSpec := { name := "searchBests", fn := fun _ => fun
  | [d1, d2] => { results := [.lit (.bool false)], args := [d1, d2] }
  | _ => none }
def SearchBestsWrongFalsely : Prop := searchBestsRow.holds Try.pinned (OpenSpec.ofChange searchBestsWrong)

/-- 'tosherlaw08.SearchCounts': WHATEVER THE INPUT: true; the input reads as it did. -/
def searchCountsSpec : ChangeSpec := { name := "searchCounts", fn := fun _ => fun
  | [d] => { results := [.lit (.bool true)], args := [d] }
  | _ => none }
def searchCountsRow : OpenClaim := { program := "yticmdpcahpimhaa", sum := "d2630308554b3ec6e42621195c7d3052c2ed12deb22f9cedc57986f6679f515d", func := "tosher/tosherlaw08.SearchCounts", spec := "searchCounts", unfollowed := true, recurses := true, apart := false }
def SearchCountsSaid : Prop := searchCountsRow.holds Try.pinned (OpenSpec.ofChange searchCountsSpec)

/-- ITS FALSE NEIGHBOUR: 'it returns false'. Refute it at one input. -/
def searchCountsWrong : ChangeSpec := { name := "searchCounts", fn := fun _ => fun
  | [d] => { results := [.lit (.bool false)], args := [d] }
  | _ => none }
def SearchCountsWrongFalsely : Prop := searchCountsRow.holds Try.pinned (OpenSpec.ofChange searchCountsWrong)

/-- 'tosherlaw08.SearchTrees': WHATEVER THE INPUT: true; the input reads as it did. -/
def searchTreesSpec : ChangeSpec := { name := "searchTrees", fn := fun _ => fun
  | [d1, d2] => { results := [.lit (.bool true)], args := [d1, d2] }
  | _ => none }
def searchTreesRow : OpenClaim := { program := "yticmdpcahpimhaa", sum := "d2630308554b3ec6e42621195c7d3052c2ed12deb22f9cedc57986f6679f515d", func := "tosher/tosherlaw08.SearchTrees", spec := "searchTrees", unfollowed := true, recurses := true, apart := false }
def SearchTreesSaid : Prop := searchTreesRow.holds Try.pinned (OpenSpec.ofChange searchTreesSpec)

/-- ITS FALSE NEIGHBOUR: 'it returns false'. Refute it at one input. -/
def searchTreesWrong : ChangeSpec := { name := "searchTrees", fn := fun _ => fun
  | [d1, d2] => { results := [.lit (.bool false)], args := [d1, d2] }
  | _ => none }
def SearchTreesWrongFalsely : Prop := searchTreesRow.holds Try.pinned (OpenSpec.ofChange searchTreesWrong)

/-- 'tosherlaw08.SearchLooks': WHATEVER THE INPUT: true; the input reads as it did. -/
def searchLooksSpec : ChangeSpec := { name := "searchLooks", fn := fun _ => fun
  | [d1, d2] => { results := [.lit (.bool true)], args := [d1, d2] }
  | _ => none }
def searchLooksRow : OpenClaim := { program := "yticmdpcahpimhaa", sum := "d2630308554b3ec6e42621195c7d3052c2ed12deb22f9cedc57986f6679f515d", func := "tosher/tosherlaw08.SearchLooks", spec := "searchLooks", unfollowed := true, recurses := true, apart := false }
def SearchLooksSaid : Prop := searchLooksRow.holds Try.pinned (OpenSpec.ofChange searchLooksSpec)

/-- ITS FALSE NEIGHBOUR: 'it returns false'. Refute it at one input. -/
def searchLooksWrong : ChangeSpec := { name := "searchLooks", fn := fun _ => fun
  | [d1, d2] => { results := [.lit (.bool false)], args := [d1, d2] }
  | _ => none }
def SearchLooksWrongFalsely : Prop := searchLooksRow.holds Try.pinned (OpenSpec.ofChange searchLooksWrong)

/-- 'tosherlaw08.SearchMarks': WHATEVER THE INPUT: true; the input reads as it did. -/
def searchMarksSpec : ChangeSpec := { name := "searchMarks", fn := fun _ => fun
  | [d1, d2, d3] => { results := [.lit (.bool true)], args := [d1, d2, d3] }
  | _ => none }
def searchMarksRow : OpenClaim := { program := "yticmdpcahpimhaa", sum := "d2630308554b3ec6e42621195c7d3052c2ed12deb22f9cedc57986f6679f515d", func := "tosher/tosherlaw08.SearchMarks", spec := "searchMarks", unfollowed := true, recurses := true, apart := false }
def SearchMarksSaid : Prop := searchMarksRow.holds Try.pinned (OpenSpec.ofChange searchMarksSpec)

/-- ITS FALSE NEIGHBOUR: 'it returns false'. Refute it at one input. -/
def searchMarksWrong : ChangeSpec := { name := "searchMarks", fn := fun _ => fun
  | [d1, d2, d3] => { results := [.lit (.bool false)], args := [d1, d2, d3] }
  | _ => none }
def SearchMarksWrongFalsely : Prop := searchMarksRow.holds Try.pinned (OpenSpec.ofChange searchMarksWrong)

/-- 'tosherlaw08.SearchLamps': WHATEVER THE INPUT: true; the input reads as it did. -/
def searchLampsSpec : ChangeSpec := { name := "searchLamps", fn := fun _ => fun
  | [d1, d2, d3] => { results := [.lit (.bool true)], args := [d1, d2, d3] }
  | _ => none }
def searchLampsRow : OpenClaim := { program := "yticmdpcahpimhaa", sum := "d2630308554b3ec6e42621195c7d3052c2ed12deb22f9cedc57986f6679f515d", func := "tosher/tosherlaw08.SearchLamps", spec := "searchLamps", unfollowed := true, recurses := true, apart := false }
def SearchLampsSaid : Prop := searchLampsRow.holds Try.pinned (OpenSpec.ofChange searchLampsSpec)

/-- ITS FALSE NEIGHBOUR: 'it returns false'. Refute it at one input. -/
def searchLampsWrong : ChangeSpec := { name := "searchLamps", fn := fun _ => fun
  | [d1, d2, d3] => { results := [.lit (.bool false)], args := [d1, d2, d3] }
  | _ => none }
def SearchLampsWrongFalsely : Prop := searchLampsRow.holds Try.pinned (OpenSpec.ofChange searchLampsWrong)

/-- 'tosherlaw08.SearchKnuth': WHATEVER THE INPUT: true; the input reads as it did. -/
def searchKnuthSpec : ChangeSpec := { name := "searchKnuth", fn := fun _ => fun
  | [d1, d2, d3] => { results := [.lit (.bool true)], args := [d1, d2, d3] }
  | _ => none }
def searchKnuthRow : OpenClaim := { program := "yticmdpcahpimhaa", sum := "d2630308554b3ec6e42621195c7d3052c2ed12deb22f9cedc57986f6679f515d", func := "tosher/tosherlaw08.SearchKnuth", spec := "searchKnuth", unfollowed := true, recurses := true, apart := false }
def SearchKnuthSaid : Prop := searchKnuthRow.holds Try.pinned (OpenSpec.ofChange searchKnuthSpec)

/-- ITS FALSE NEIGHBOUR: 'it returns false'. Refute it at one input. -/
def searchKnuthWrong : ChangeSpec := { name := "searchKnuth", fn := fun _ => fun
  | [d1, d2, d3] => { results := [.lit (.bool false)], args := [d1, d2, d3] }
  | _ => none }
def SearchKnuthWrongFalsely : Prop := searchKnuthRow.holds Try.pinned (OpenSpec.ofChange searchKnuthWrong)

/-- 'tosherlaw08.SearchJordan': WHATEVER THE INPUT: true; the input reads as it did. -/
def searchJordanSpec : ChangeSpec := { name := "searchJordan", fn := fun _ => fun
  | [d1, d2] => { results := [.lit (.bool true)], args := [d1, d2] }
  | _ => none }
def searchJordanRow : OpenClaim := { program := "yticmdpcahpimhaa", sum := "d2630308554b3ec6e42621195c7d3052c2ed12deb22f9cedc57986f6679f515d", func := "tosher/tosherlaw08.SearchJordan", spec := "searchJordan", unfollowed := true, recurses := true, apart := false }
def SearchJordanSaid : Prop := searchJordanRow.holds Try.pinned (OpenSpec.ofChange searchJordanSpec)

/-- ITS FALSE NEIGHBOUR: 'it returns false'. Refute it at one input. -/
def searchJordanWrong : ChangeSpec := { name := "searchJordan", fn := fun _ => fun
  | [d1, d2] => { results := [.lit (.bool false)], args := [d1, d2] }
  | _ => none }
def SearchJordanWrongFalsely : Prop := searchJordanRow.holds Try.pinned (OpenSpec.ofChange searchJordanWrong)

/-- 'tosherlaw08.SearchBinomials': WHATEVER THE INPUT: true; the input reads as it did. -/
def searchBinomialsSpec : ChangeSpec := { name := "searchBinomials", fn := fun _ => fun
  | [d1, d2, d3] => { results := [.lit (.bool true)], args := [d1, d2, d3] }
  | _ => none }
def searchBinomialsRow : OpenClaim := { program := "yticmdpcahpimhaa", sum := "d2630308554b3ec6e42621195c7d3052c2ed12deb22f9cedc57986f6679f515d", func := "tosher/tosherlaw08.SearchBinomials", spec := "searchBinomials", unfollowed := true, recurses := true, apart := false }
def SearchBinomialsSaid : Prop := searchBinomialsRow.holds Try.pinned (OpenSpec.ofChange searchBinomialsSpec)

/-- ITS FALSE NEIGHBOUR: 'it returns false'. Refute it at one input. -/
def searchBinomialsWrong : ChangeSpec := { name := "searchBinomials", fn := fun _ => fun
  | [d1, d2, d3] => { results := [.lit (.bool false)], args := [d1, d2, d3] }
  | _ => none }
def SearchBinomialsWrongFalsely : Prop := searchBinomialsRow.holds Try.pinned (OpenSpec.ofChange searchBinomialsWrong)

/-- 'tosherlaw08.SearchOwn': WHATEVER THE INPUT: true; the input reads as it did. -/
def searchOwnSpec : ChangeSpec := { name := "searchOwn", fn := fun _ => fun
  | [d1, d2] => { results := [.lit (.bool true)], args := [d1, d2] }
  | _ => none }
def searchOwnRow : OpenClaim := { program := "yticmdpcahpimhaa", sum := "d2630308554b3ec6e42621195c7d3052c2ed12deb22f9cedc57986f6679f515d", func := "tosher/tosherlaw08.SearchOwn", spec := "searchOwn", unfollowed := true, recurses := true, apart := false }
def SearchOwnSaid : Prop := searchOwnRow.holds Try.pinned (OpenSpec.ofChange searchOwnSpec)

/-- ITS FALSE NEIGHBOUR: 'it returns false'. Refute it at one input. -/
def searchOwnWrong : ChangeSpec := { name := "searchOwn", fn := fun _ => fun
  | [d1, d2] => { results := [.lit (.bool false)], args := [d1, d2] }
  | _ => none }
def SearchOwnWrongFalsely : Prop := searchOwnRow.holds Try.pinned (OpenSpec.ofChange searchOwnWrong)

/-- 'tosherlaw08.SearchSums': WHATEVER THE INPUT: true; the input reads as it did. -/
def searchSumsSpec : ChangeSpec := { name := "searchSums", fn := fun _ => fun
  | [d1, d2] => { results := [.lit (.bool true)], args := [d1, d2] }
  | _ => none }
def searchSumsRow : OpenClaim := { program := "yticmdpcahpimhaa", sum := "d2630308554b3ec6e42621195c7d3052c2ed12deb22f9cedc57986f6679f515d", func := "tosher/tosherlaw08.SearchSums", spec := "searchSums", unfollowed := true, recurses := true, apart := false }
def SearchSumsSaid : Prop := searchSumsRow.holds Try.pinned (OpenSpec.ofChange searchSumsSpec)

/-- ITS FALSE NEIGHBOUR: 'it returns false'. Refute it at one input. -/
def searchSumsWrong : ChangeSpec := { name := "searchSums", fn := fun _ => fun
  | [d1, d2] => { results := [.lit (.bool false)], args := [d1, d2] }
  | _ => none }
def SearchSumsWrongFalsely : Prop := searchSumsRow.holds Try.pinned (OpenSpec.ofChange searchSumsWrong)

/- THE SECOND FORM. 'bulk': how many values and letters a reading holds, each counted each time it is reached (what is shared counts as often as it is met; a slice's spare places count too). A statement '..UptoSaid' is the law's where the arguments, and the package variables that the reading takes, are together of bulk at most 1048576: NARROWER than '..Said'. Prove '..Said' where nothing that the law and all that it calls make is longer than what came in: it says more and counts as full. Else prove '..UptoSaid'. A law counts once. -/
mutual
def uptoBulk {H : Type} : DataW H → Nat
  | .lit (.string bytes) => bytes.length + 1
  | .lit _ => 1
  | .nil => 1
  | .ptr d => uptoBulk d + 1
  | .slice elems spare => uptoBulkAll elems + uptoBulkAll spare + 1
  | .agg parts => uptoBulkAll parts + 1
  | .iface _ d => uptoBulk d + 1
  | .map entries => uptoBulkEntries entries + 1
  | .held _ => 1
def uptoBulkAll {H : Type} : List (DataW H) → Nat
  | [] => 0
  | d :: r => uptoBulk d + uptoBulkAll r
def uptoBulkEntries {H : Type} : List (Lit × DataW H) → Nat
  | [] => 0
  | x :: r => uptoBulkEntry x + uptoBulkEntries r
def uptoBulkEntry {H : Type} : Lit × DataW H → Nat
  | (.string bytes, d) => bytes.length + uptoBulk d + 1
  | (_, d) => uptoBulk d + 1
 end
def uptoSmall : (H : Type) → List (DataW H) → Bool := fun _ ds => decide (uptoBulkAll ds ≤ 1048576)
def OpenSpec.upto (s : _root_.Go.ChangeSpec) : _root_.Go.OpenSpec := { _root_.Go.OpenSpec.ofChange s with cond := some uptoSmall }

/-- 'tosherlaw08.SearchChecks', WHERE WHAT IT READS IS OF BULK AT MOST 1048576: true; the input reads as it did. -/
def searchChecksUptoRow : OpenClaim := { program := "yticmdpcahpimhaa", sum := "d2630308554b3ec6e42621195c7d3052c2ed12deb22f9cedc57986f6679f515d", func := "tosher/tosherlaw08.SearchChecks", spec := "searchChecks", unfollowed := true, recurses := true, apart := false, narrowed := true }
def SearchChecksUptoSaid : Prop := searchChecksUptoRow.holds Try.pinned (OpenSpec.upto searchChecksSpec)

/-- 'tosherlaw08.SearchPlans', WHERE WHAT IT READS IS OF BULK AT MOST 1048576: true; the input reads as it did. -/
def searchPlansUptoRow : OpenClaim := { program := "yticmdpcahpimhaa", sum := "d2630308554b3ec6e42621195c7d3052c2ed12deb22f9cedc57986f6679f515d", func := "tosher/tosherlaw08.SearchPlans", spec := "searchPlans", unfollowed := true, recurses := true, apart := false, narrowed := true }
def SearchPlansUptoSaid : Prop := searchPlansUptoRow.holds Try.pinned (OpenSpec.upto searchPlansSpec)

/-- 'tosherlaw08.SearchBests', WHERE WHAT IT READS IS OF BULK AT MOST 1048576: true; the input reads as it did. -/
def searchBestsUptoRow : OpenClaim := { program := "yticmdpcahpimhaa", sum := "d2630308554b3ec6e42621195c7d3052c2ed12deb22f9cedc57986f6679f515d", func := "tosher/tosherlaw08.SearchBests", spec := "searchBests", unfollowed := true, recurses := true, apart := false, narrowed := true }
def SearchBestsUptoSaid : Prop := searchBestsUptoRow.holds Try.pinned (OpenSpec.upto searchBestsSpec)

/-- 'tosherlaw08.SearchCounts', WHERE WHAT IT READS IS OF BULK AT MOST 1048576: true; the input reads as it did. -/
def searchCountsUptoRow : OpenClaim := { program := "yticmdpcahpimhaa", sum := "d2630308554b3ec6e42621195c7d3052c2ed12deb22f9cedc57986f6679f515d", func := "tosher/tosherlaw08.SearchCounts", spec := "searchCounts", unfollowed := true, recurses := true, apart := false, narrowed := true }
def SearchCountsUptoSaid : Prop := searchCountsUptoRow.holds Try.pinned (OpenSpec.upto searchCountsSpec)

/-- 'tosherlaw08.SearchTrees', WHERE WHAT IT READS IS OF BULK AT MOST 1048576: true; the input reads as it did. -/
def searchTreesUptoRow : OpenClaim := { program := "yticmdpcahpimhaa", sum := "d2630308554b3ec6e42621195c7d3052c2ed12deb22f9cedc57986f6679f515d", func := "tosher/tosherlaw08.SearchTrees", spec := "searchTrees", unfollowed := true, recurses := true, apart := false, narrowed := true }
def SearchTreesUptoSaid : Prop := searchTreesUptoRow.holds Try.pinned (OpenSpec.upto searchTreesSpec)

/-- 'tosherlaw08.SearchLooks', WHERE WHAT IT READS IS OF BULK AT MOST 1048576: true; the input reads as it did. -/
def searchLooksUptoRow : OpenClaim := { program := "yticmdpcahpimhaa", sum := "d2630308554b3ec6e42621195c7d3052c2ed12deb22f9cedc57986f6679f515d", func := "tosher/tosherlaw08.SearchLooks", spec := "searchLooks", unfollowed := true, recurses := true, apart := false, narrowed := true }
def SearchLooksUptoSaid : Prop := searchLooksUptoRow.holds Try.pinned (OpenSpec.upto searchLooksSpec)

/-- 'tosherlaw08.SearchMarks', WHERE WHAT IT READS IS OF BULK AT MOST 1048576: true; the input reads as it did. -/
def searchMarksUptoRow : OpenClaim := { program := "yticmdpcahpimhaa", sum := "d2630308554b3ec6e42621195c7d3052c2ed12deb22f9cedc57986f6679f515d", func := "tosher/tosherlaw08.SearchMarks", spec := "searchMarks", unfollowed := true, recurses := true, apart := false, narrowed := true }
def SearchMarksUptoSaid : Prop := searchMarksUptoRow.holds Try.pinned (OpenSpec.upto searchMarksSpec)

/-- 'tosherlaw08.SearchLamps', WHERE WHAT IT READS IS OF BULK AT MOST 1048576: true; the input reads as it did. -/
def searchLampsUptoRow : OpenClaim := { program := "yticmdpcahpimhaa", sum := "d2630308554b3ec6e42621195c7d3052c2ed12deb22f9cedc57986f6679f515d", func := "tosher/tosherlaw08.SearchLamps", spec := "searchLamps", unfollowed := true, recurses := true, apart := false, narrowed := true }
def SearchLampsUptoSaid : Prop := searchLampsUptoRow.holds Try.pinned (OpenSpec.upto searchLampsSpec)

/-- 'tosherlaw08.SearchKnuth', WHERE WHAT IT READS IS OF BULK AT MOST 1048576: true; the input reads as it did. -/
def searchKnuthUptoRow : OpenClaim := { program := "yticmdpcahpimhaa", sum := "d2630308554b3ec6e42621195c7d3052c2ed12deb22f9cedc57986f6679f515d", func := "tosher/tosherlaw08.SearchKnuth", spec := "searchKnuth", unfollowed := true, recurses := true, apart := false, narrowed := true }
def SearchKnuthUptoSaid : Prop := searchKnuthUptoRow.holds Try.pinned (OpenSpec.upto searchKnuthSpec)

/-- 'tosherlaw08.SearchJordan', WHERE WHAT IT READS IS OF BULK AT MOST 1048576: true; the input reads as it did. -/
def searchJordanUptoRow : OpenClaim := { program := "yticmdpcahpimhaa", sum := "d2630308554b3ec6e42621195c7d3052c2ed12deb22f9cedc57986f6679f515d", func := "tosher/tosherlaw08.SearchJordan", spec := "searchJordan", unfollowed := true, recurses := true, apart := false, narrowed := true }
def SearchJordanUptoSaid : Prop := searchJordanUptoRow.holds Try.pinned (OpenSpec.upto searchJordanSpec)

/-- 'tosherlaw08.SearchBinomials', WHERE WHAT IT READS IS OF BULK AT MOST 1048576: true; the input reads as it did. -/
def searchBinomialsUptoRow : OpenClaim := { program := "yticmdpcahpimhaa", sum := "d2630308554b3ec6e42621195c7d3052c2ed12deb22f9cedc57986f6679f515d", func := "tosher/tosherlaw08.SearchBinomials", spec := "searchBinomials", unfollowed := true, recurses := true, apart := false, narrowed := true }
def SearchBinomialsUptoSaid : Prop := searchBinomialsUptoRow.holds Try.pinned (OpenSpec.upto searchBinomialsSpec)

/-- 'tosherlaw08.SearchOwn', WHERE WHAT IT READS IS OF BULK AT MOST 1048576: true; the input reads as it did. -/
def searchOwnUptoRow : OpenClaim := { program := "yticmdpcahpimhaa", sum := "d2630308554b3ec6e42621195c7d3052c2ed12deb22f9cedc57986f6679f515d", func := "tosher/tosherlaw08.SearchOwn", spec := "searchOwn", unfollowed := true, recurses := true, apart := false, narrowed := true }
def SearchOwnUptoSaid : Prop := searchOwnUptoRow.holds Try.pinned (OpenSpec.upto searchOwnSpec)

/-- 'tosherlaw08.SearchSums', WHERE WHAT IT READS IS OF BULK AT MOST 1048576: true; the input reads as it did. -/
def searchSumsUptoRow : OpenClaim := { program := "yticmdpcahpimhaa", sum := "d2630308554b3ec6e42621195c7d3052c2ed12deb22f9cedc57986f6679f515d", func := "tosher/tosherlaw08.SearchSums", spec := "searchSums", unfollowed := true, recurses := true, apart := false, narrowed := true }
def SearchSumsUptoSaid : Prop := searchSumsUptoRow.holds Try.pinned (OpenSpec.upto searchSumsSpec)

end Rows
end Go.Proofs.Yticmdpcahpimhaa
