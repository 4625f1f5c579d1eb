/- The code of the functions that PEEE comes to. -/
import Derived.Test.YtedneplaibmppaaTypesC
set_option maxRecDepth 100000
set_option linter.unusedSectionVars false
set_option linter.unusedVariables false
namespace Go.Proofs.Ytedneplaibmppaa
open Go.Rx Go.RowKit
noncomputable section
abbrev kF:=false
abbrev kE:=true
abbrev fL0:List Bool:=[kF,kF,kF,kF,kF,kF,kF,kF,kF,kF,kF,kF]
abbrev fL1:List Bool:=[kF,kF,kF,kF,kF,kF,kF,kF]
abbrev fL2:List Bool:=[kF,kF,kF,kF,kF,kF,kF,kF,kF,kF,kF,kF,kF,kF,kF,kF,kF,kF,kF,kE,kF]
abbrev fL3:List Bool:=[kF,kF,kF,kF,kF,kF,kF,kF,kF,kF,kF,kF,kF,kF,kF,kF,kF,kF,kF,kF,kF]
abbrev fL4:List Bool:=[kF,kF,kF,kF,kF,kF,kF,kF,kF,kF,kF,kF,kF,kF,kF,kF,kF]
abbrev fL5:List Bool:=[kF,kF,kF,kF,kF,kF,kF,kF,kF,kF,kF,kF,kF,kF,kF]
abbrev fL6:List Bool:=[kF,kF,kF,kF,kF,kF,kF,kF,kF,kF,kF,kF,kF,kF,kF,kF,kE,kF]
abbrev fL7:List Bool:=[kF,kF,kF,kF,kF,kF,kF,kF,kF,kF,kF,kF,kF,kF,kF,kF,kF,kF]
abbrev fL8:List Bool:=[kF,kF,kF,kF,kE,kF,kF,kF]
abbrev fL9:List Bool:=[kF,kF,kF,kF,kF,kF,kF,kE,kE,kF,kF,kF]
abbrev fL10:List Bool:=[kF,kF,kF,kF,kF,kF,kF,kE,kE,kE,kF,kF]
abbrev fL11:List Bool:=[kF,kF,kE,kF,kF,kF,kF,kE,kE,kF,kF,kF,kF,kF]
abbrev fL12:List Bool:=[kF,kF,kF,kF,kF,kE,kF,kF,kF,kF,kF,kF,kF,kF,kF,kF,kF]
abbrev fL13:List Bool:=[kF,kF,kF,kF,kF,kF,kF,kF,kF,kF,kF,kF,kF,kF]
abbrev fL14:List Bool:=[kF,kF,kF,kF,kF,kF,kE,kF,kF,kF,kF,kF,kF,kF,kF]
abbrev fL15:List Bool:=[kF,kF,kE,kF,kF,kF,kF,kF]
abbrev fL16:List Bool:=[kF,kF,kF,kF,kF,kF,kF,kE,kF,kF,kF,kF]
abbrev fL17:List Bool:=[kF,kF,kE,kF,kF,kF,kF,kF,kF,kF,kF,kF,kF,kF]
abbrev fL18:List Bool:=[kF,kF,kF,kF,kF,kF]
abbrev fL19:List Bool:=[kF,kF,kF,kF,kF,kF,kE,kF,kF,kF,kF,kF,kE,kF,kF]
abbrev fL20:List Bool:=[kF,kF,kF,kF,kF,kE,kF,kF,kF,kF,kF,kF,kF,kF,kE,kF,kF]
abbrev fL21:List Bool:=[kF,kF,kE,kF,kF,kF]
abbrev fL22:List Bool:=[kF,kF,kE,kE,kF,kF]
abbrev fL23:List Bool:=[kF,kF,kF,kF,kF,kF,kF,kE,kE,kE,kF,kE]
abbrev fL24:List Bool:=[kF,kF,kF,kF,kE,kF,kF,kE]
abbrev fL25:List Bool:=[kF,kF,kF,kF,kF,kF,kE,kF]
abbrev fL26:List Bool:=[kF,kF,kE,kF,kF,kF,kF,kE,kF,kF,kF,kF,kF,kF]
abbrev fL27:List Bool:=[kF,kF,kE,kF,kF,kF,kE,kF]
abbrev kO (d:Nat) (t:TOp):G:=⟨some d,t,none⟩
abbrev kT:=Operand.tmp
abbrev kC (n:Int):Operand:=.const (.int .i64 n)
abbrev kN:Value:=.slice none 0 0
abbrev kA:=TOp.ar .i64
variable [Unknowns] {xs : List Value} {h : Hp} {Q : Value → Hp → Prop}
def c12 : C := (.seq (.ops [kO 3 (.box 25 (kT 0)),
 kO 6 (.mov (.const (.bool kF)))])
 (.seq (.ahead [kO 13 (.loadN 3 (kT 3)),
 kO 14 (.mov (kT 1)),
 kO 15 (.call 38 [.tmp 14]),
 kO 16 (.call 37 [.tmp 13,.tmp 15,(kC 12)]),
 kO 7 (.alloc 26 [.int .i64 0,kN,kN]),
 ⟨none,.store 3 (kT 7) (kT 16),none⟩]
 [⟨kF,kE,fL18,fL21⟩,
 ⟨kF,kF,fL18,fL18⟩,
 ⟨kE,kF,fL18,fL21⟩,
 ⟨kE,kF,fL21,fL22⟩,
 ⟨kF,kE,fL18,fL22⟩,
 ⟨kE,kF,fL22,[kF,kF,kE,kE,kF,kE]⟩]
 [kF,kF,kF,kF,kE,kF])
 (.seq (.seq (.ops [kO 8 (.mov (kC 0))])
 (.block 0 (.loop (.seq (.seq (.ops [kO 17 (.mov (kT 8)),
 kO 18 (kA .lss (kT 17) (kC 2))])
 (.cond (kT 18) .skip
 (.exit 0)))
 (.seq (.block 1 (.seq (.ops [kO 22 (.loadN 3 (kT 7)),
 kO 23 (.call 18 [.tmp 22]),
 kO 24 (.mov (kT 2)),
 kO 25 (.call 35 [.tmp 23,.tmp 24]),
 kO 21 (.mov (kT 25)),
 kO 26 (.ext (kT 21) 0),
 kO 27 (.ext (kT 21) 1),
 kO 28 (.ext (kT 21) 2),
 kO 9 (.mov (kT 26)),
 kO 10 (.mov (kT 27)),
 kO 11 (.mov (kT 28))])
 (.seq (.seq (.ops [kO 29 (.mov (kT 2)),
 kO 30 (kA .lss (kT 29) (kC 0)),
 kO 31 (.mov (kT 30)),
 ⟨some 32,.mov (kT 2),(some (31,kF))⟩,
 ⟨some 33,kA .gtr (kT 32) (kC 9),(some (31,kF))⟩,
 kO 34 (.pick (kT 31) (.const (.bool kE)) (kT 33))])
 (.cond (kT 34) (.seq (.ops [kO 35 (.mov (kT 11)),
 kO 36 (kA .neq (kT 35) (kC 1)),
 kO 37 (.mov (kT 36)),
 ⟨some 38,.mov (kT 10),(some (37,kF))⟩,
 kO 39 (.pick (kT 37) (.const (.bool kE)) (kT 38)),
 kO 40 (.mov (kT 39)),
 ⟨some 41,.mov (kT 9),(some (40,kF))⟩,
 ⟨some 42,kA .neq (kT 41) (kC 0),(some (40,kF))⟩,
 kO 43 (.pick (kT 40) (.const (.bool kE)) (kT 42))])
 (.cond (kT 43) (.seq (.ops [kO 6 (.mov (.const (.bool kF)))])
 .ret)
 .skip))
 (.seq (.ops [kO 44 (.loadN 3 (kT 7)),
 kO 45 (.mov (kT 2)),
 kO 46 (.call 55 [.tmp 44,.tmp 45]),
 kO 12 (.mov (kT 46))])
 (.seq (.ops [kO 47 (.mov (kT 11)),
 kO 48 (kA .neq (kT 47) (kC 0)),
 kO 49 (.mov (kT 48)),
 ⟨some 50,.mov (kT 10),(some (49,kF))⟩,
 ⟨some 51,.mov (kT 12),(some (49,kF))⟩,
 ⟨some 52,kA .geq (kT 51) (kC 0),(some (49,kF))⟩,
 ⟨some 53,.raw (.binOp .neq 4 (kT 50) (kT 52) 4) 4,(some (49,kF))⟩,
 kO 54 (.pick (kT 49) (.const (.bool kE)) (kT 53)),
 kO 55 (.mov (kT 54)),
 ⟨some 56,.mov (kT 9),(some (55,kF))⟩,
 ⟨some 57,.mov (kT 12),(some (55,kF))⟩,
 ⟨some 58,.raw (.call ⟨.builtin .max,⟨[.tmp 57,(kC 0)]⟩,⟨[2,2]⟩⟩) 2,(some (55,kF))⟩,
 ⟨some 59,kA .neq (kT 56) (kT 58),(some (55,kF))⟩,
 kO 60 (.pick (kT 55) (.const (.bool kE)) (kT 59))])
 (.cond (kT 60) (.seq (.ops [kO 6 (.mov (.const (.bool kF)))])
 .ret)
 .skip)))))
 (.ops [kO 61 (.fldA 1 (kT 7)),
 kO 62 (.load1 (kT 61)),
 kO 63 (.mov (kT 2)),
 kO 64 (.cint .u64 (kT 63)),
 kO 65 (.fldA 1 (kT 7)),
 kO 66 (.load1 (kT 65)),
 kO 67 (.lenS (kT 66)),
 kO 68 (.cint .u64 (kT 67)),
 kO 69 (.ar .u64 .rem (kT 64) (kT 68)),
 kO 70 (.cint .i64 (kT 69)),
 kO 71 (.idxS 1 (kT 62) (kT 70)),
 kO 72 (.load1 (kT 71)),
 kO 2 (.mov (kT 72))]))))
 (.ops [kO 19 (.mov (kT 8)),
 kO 20 (kA .add (kT 19) (kC 1)),
 kO 8 (.mov (kT 20))]))))))
 (.seq (.ops [kO 73 (.call 21 []),
 kO 6 (.mov (kT 73))])
 .ret))))
theorem enter12 (hl : xs.length ≤ 74) (w : wq E 74 none c12 (frameOf xs) h [] (leaveQ E [.tmp 6] Q)) : CallP E 12 xs h Q :=
  CallP.enterQ (fn := Try.f12) (fn_get Try.func12) (code := Try.f12.body.get rfl) rfl rfl rfl (by kernel_rfl) rfl (fun _ => rfl) hl w
theorem can12 : callable E 12 = true := callable_get Try.func12 rfl rfl
def c17 : C := (.seq (.ops [kO 1 (.box 25 (kT 0)),
 kO 2 (.alloc 26 [.int .i64 0,kN,kN])])
 (.seq (.ahead [kO 6 (.fldA 0 (kT 1)),
 kO 7 (.load1 (kT 6)),
 kO 8 (.fldA 1 (kT 1)),
 kO 9 (.load1 (kT 8)),
 kO 10 (.call 49 [.tmp 9,(kC 13)]),
 kO 11 (.aggr [.int .i64 0,kN,kN] [(0,1,(kT 7)),(1,1,(kT 10))]),
 kO 3 (.alloc 26 [.int .i64 0,kN,kN]),
 ⟨none,.store 3 (kT 3) (kT 11),none⟩]
 [⟨kF,kE,fL1,fL8⟩,
 ⟨kF,kE,fL1,fL8⟩,
 ⟨kF,kF,fL1,fL1⟩,
 ⟨kF,kF,fL1,fL1⟩,
 ⟨kE,kF,fL1,fL8⟩,
 ⟨kF,kF,fL8,fL8⟩,
 ⟨kF,kE,fL1,fL8⟩,
 ⟨kE,kF,fL8,fL24⟩]
 fL25)
 (.seq (.seq (.ops [kO 4 (.mov (kC 0))])
 (.block 0 (.loop (.seq (.seq (.ops [kO 12 (.mov (kT 4)),
 kO 13 (.fldA 2 (kT 1)),
 kO 14 (.load1 (kT 13)),
 kO 15 (.lenS (kT 14)),
 kO 16 (kA .lss (kT 12) (kT 15)),
 kO 17 (.mov (kT 16)),
 ⟨some 18,.mov (kT 4),(some (17,kE))⟩,
 ⟨some 19,kA .leq (kT 18) (kC 12),(some (17,kE))⟩,
 kO 20 (.pick (kT 17) (kT 19) (.const (.bool kF)))])
 (.cond (kT 20) .skip
 (.exit 0)))
 (.seq (.block 1 (.seq (.ops [kO 23 (.fldA 2 (kT 3)),
 kO 24 (.load1 (kT 23)),
 kO 5 (.mov (kT 24))])
 (.ops [kO 25 (.mov (kT 5)),
 kO 26 (.fldA 2 (kT 1)),
 kO 27 (.load1 (kT 26)),
 kO 28 (.mov (kT 4)),
 kO 29 (.idxS 1 (kT 27) (kT 28)),
 kO 30 (.load1 (kT 29)),
 kO 31 (.call 49 [.tmp 30,(kC 26)]),
 kO 32 (.slit 22 1 [kN] [(0,1,(kT 31))]),
 kO 33 (.append 22 1 24 (kT 25) (kT 32)),
 kO 34 (.fldA 2 (kT 3)),
 ⟨none,.store 1 (kT 34) (kT 33),none⟩])))
 (.ops [kO 21 (.mov (kT 4)),
 kO 22 (kA .add (kT 21) (kC 1)),
 kO 4 (.mov (kT 22))]))))))
 (.seq (.ops [kO 35 (.loadN 3 (kT 3)),
 ⟨none,.store 3 (kT 2) (kT 35),none⟩])
 .ret))))
theorem enter17 (hl : xs.length ≤ 36) (w : wq E 36 none c17 (frameOf xs) h [] (leaveQ E [.cell 2 26] Q)) : CallP E 17 xs h Q :=
  CallP.enterQ (fn := Try.f17) (fn_get Try.func17) (code := Try.f17.body.get rfl) rfl rfl rfl (by kernel_rfl) rfl (fun _ => rfl) hl w
theorem can17 : callable E 17 = true := callable_get Try.func17 rfl rfl
def c18 : C := (.seq (.ops [kO 1 (.box 26 (kT 0)),
 kO 2 (.alloc 25 [.int .i64 0,kN,kN])])
 (.seq (.ahead [kO 6 (.fldA 0 (kT 1)),
 kO 7 (.load1 (kT 6)),
 kO 8 (.fldA 1 (kT 1)),
 kO 9 (.load1 (kT 8)),
 kO 10 (.call 49 [.tmp 9,(kC 13)]),
 kO 11 (.aggr [.int .i64 0,kN,kN] [(0,1,(kT 7)),(1,1,(kT 10))]),
 kO 3 (.alloc 25 [.int .i64 0,kN,kN]),
 ⟨none,.store 3 (kT 3) (kT 11),none⟩]
 [⟨kF,kE,fL1,fL8⟩,
 ⟨kF,kE,fL1,fL8⟩,
 ⟨kF,kF,fL1,fL1⟩,
 ⟨kF,kF,fL1,fL1⟩,
 ⟨kE,kF,fL1,fL8⟩,
 ⟨kF,kF,fL8,fL8⟩,
 ⟨kF,kE,fL1,fL8⟩,
 ⟨kE,kF,fL8,fL24⟩]
 fL25)
 (.seq (.seq (.ops [kO 4 (.mov (kC 0))])
 (.block 0 (.loop (.seq (.seq (.ops [kO 12 (.mov (kT 4)),
 kO 13 (.fldA 2 (kT 1)),
 kO 14 (.load1 (kT 13)),
 kO 15 (.lenS (kT 14)),
 kO 16 (kA .lss (kT 12) (kT 15)),
 kO 17 (.mov (kT 16)),
 ⟨some 18,.mov (kT 4),(some (17,kE))⟩,
 ⟨some 19,kA .leq (kT 18) (kC 12),(some (17,kE))⟩,
 kO 20 (.pick (kT 17) (kT 19) (.const (.bool kF)))])
 (.cond (kT 20) .skip
 (.exit 0)))
 (.seq (.block 1 (.seq (.ops [kO 23 (.fldA 2 (kT 3)),
 kO 24 (.load1 (kT 23)),
 kO 5 (.mov (kT 24))])
 (.ops [kO 25 (.mov (kT 5)),
 kO 26 (.fldA 2 (kT 1)),
 kO 27 (.load1 (kT 26)),
 kO 28 (.mov (kT 4)),
 kO 29 (.idxS 1 (kT 27) (kT 28)),
 kO 30 (.load1 (kT 29)),
 kO 31 (.call 49 [.tmp 30,(kC 26)]),
 kO 32 (.slit 22 1 [kN] [(0,1,(kT 31))]),
 kO 33 (.append 22 1 24 (kT 25) (kT 32)),
 kO 34 (.fldA 2 (kT 3)),
 ⟨none,.store 1 (kT 34) (kT 33),none⟩])))
 (.ops [kO 21 (.mov (kT 4)),
 kO 22 (kA .add (kT 21) (kC 1)),
 kO 4 (.mov (kT 22))]))))))
 (.seq (.ops [kO 35 (.loadN 3 (kT 3)),
 ⟨none,.store 3 (kT 2) (kT 35),none⟩])
 .ret))))
theorem enter18 (hl : xs.length ≤ 36) (w : wq E 36 none c18 (frameOf xs) h [] (leaveQ E [.cell 2 25] Q)) : CallP E 18 xs h Q :=
  CallP.enterQ (fn := Try.f18) (fn_get Try.func18) (code := Try.f18.body.get rfl) rfl rfl rfl (by kernel_rfl) rfl (fun _ => rfl) hl w
theorem can18 : callable E 18 = true := callable_get Try.func18 rfl rfl
def c20 : C := (.seq (.ops [kO 1 (.box 25 (kT 0)),
 kO 2 (.mov (kC 0))])
 (.seq (.ops [kO 7 (.fldA 1 (kT 1)),
 kO 8 (.load1 (kT 7)),
 kO 9 (.lenS (kT 8)),
 kO 3 (.alloc 3 [.int .i64 0]),
 ⟨none,.store 1 (kT 3) (kT 9),none⟩])
 (.seq (.seq (.ops [kO 10 (.fldA 0 (kT 1)),
 kO 11 (.load1 (kT 10)),
 kO 12 (kA .lss (kT 11) (kC 2)),
 kO 13 (.mov (kT 12)),
 ⟨some 14,.fldA 0 (kT 1),(some (13,kF))⟩,
 ⟨some 15,.load1 (kT 14),(some (13,kF))⟩,
 ⟨some 16,kA .gtr (kT 15) (kC 5),(some (13,kF))⟩,
 kO 17 (.pick (kT 13) (.const (.bool kE)) (kT 16)),
 kO 18 (.mov (kT 17)),
 ⟨some 19,.load1 (kT 3),(some (18,kF))⟩,
 ⟨some 20,kA .lss (kT 19) (kC 1),(some (18,kF))⟩,
 kO 21 (.pick (kT 18) (.const (.bool kE)) (kT 20)),
 kO 22 (.mov (kT 21)),
 ⟨some 23,.load1 (kT 3),(some (22,kF))⟩,
 ⟨some 24,kA .gtr (kT 23) (kC 12),(some (22,kF))⟩,
 kO 25 (.pick (kT 22) (.const (.bool kE)) (kT 24)),
 kO 26 (.mov (kT 25)),
 ⟨some 27,.fldA 1 (kT 1),(some (26,kF))⟩,
 ⟨some 28,.load1 (kT 27),(some (26,kF))⟩,
 ⟨some 29,.call 57 [.tmp 28],(some (26,kF))⟩,
 ⟨some 30,.not (kT 29),(some (26,kF))⟩,
 kO 31 (.pick (kT 26) (.const (.bool kE)) (kT 30)),
 kO 32 (.mov (kT 31)),
 ⟨some 33,.fldA 2 (kT 1),(some (32,kF))⟩,
 ⟨some 34,.load1 (kT 33),(some (32,kF))⟩,
 ⟨some 35,.lenS (kT 34),(some (32,kF))⟩,
 ⟨some 36,.load1 (kT 3),(some (32,kF))⟩,
 ⟨some 37,kA .neq (kT 35) (kT 36),(some (32,kF))⟩,
 kO 38 (.pick (kT 32) (.const (.bool kE)) (kT 37))])
 (.cond (kT 38) (.seq (.ops [kO 2 (.mov (kC 50))])
 .ret)
 .skip))
 (.seq (.ops [kO 39 (.func (.func 58) [] [.tmp 3]),
 kO 4 (.mov (kT 39))])
 (.seq (.seq (.ops [kO 40 (.fldA 2 (kT 1)),
 kO 41 (.load1 (kT 40)),
 kO 42 (.lenS (kT 41)),
 kO 43 (.mov (kC 0))])
 (.block 0 (.loop (.seq (.ops [kO 44 (kA .lss (kT 43) (kT 42))])
 (.seq (.cond (kT 44) .skip
 (.exit 0))
 (.seq (.block 1 (.seq (.ops [kO 45 (.mov (kT 43)),
 kO 46 (.idxS 1 (kT 41) (kT 43)),
 kO 47 (.load1 (kT 46)),
 kO 5 (.mov (kT 45)),
 kO 6 (.mov (kT 47))])
 (.seq (.ops [kO 48 (.mov (kT 6)),
 kO 49 (.lenS (kT 48)),
 kO 50 (.fldA 0 (kT 1)),
 kO 51 (.load1 (kT 50)),
 kO 52 (kA .neq (kT 49) (kT 51)),
 kO 53 (.mov (kT 52)),
 ⟨some 54,.mov (kT 6),(some (53,kF))⟩,
 ⟨some 55,.mov (kT 4),(some (53,kF))⟩,
 ⟨some 56,.call 59 [.tmp 54,.tmp 55],(some (53,kF))⟩,
 kO 57 (.pick (kT 53) (.const (.bool kE)) (kT 56)),
 kO 58 (.mov (kT 57)),
 ⟨some 59,.fldA 1 (kT 1),(some (58,kF))⟩,
 ⟨some 60,.load1 (kT 59),(some (58,kF))⟩,
 ⟨some 61,.mov (kT 6),(some (58,kF))⟩,
 ⟨some 62,.idxS 1 (kT 61) (kC 0),(some (58,kF))⟩,
 ⟨some 63,.load1 (kT 62),(some (58,kF))⟩,
 ⟨some 64,.idxS 1 (kT 60) (kT 63),(some (58,kF))⟩,
 ⟨some 65,.load1 (kT 64),(some (58,kF))⟩,
 ⟨some 66,.fldA 1 (kT 1),(some (58,kF))⟩,
 ⟨some 67,.load1 (kT 66),(some (58,kF))⟩,
 ⟨some 68,.mov (kT 5),(some (58,kF))⟩,
 ⟨some 69,.idxS 1 (kT 67) (kT 68),(some (58,kF))⟩,
 ⟨some 70,.load1 (kT 69),(some (58,kF))⟩,
 ⟨some 71,kA .neq (kT 65) (kT 70),(some (58,kF))⟩,
 kO 72 (.pick (kT 58) (.const (.bool kE)) (kT 71))])
 (.cond (kT 72) (.seq (.ops [kO 2 (.mov (kC 50))])
 .ret)
 .skip))))
 (.ops [kO 73 (kA .add (kT 43) (kC 1)),
 kO 43 (.mov (kT 73))])))))))
 (.seq (.ops [kO 2 (.mov (kC 0))])
 .ret))))))
theorem enter20 (hl : xs.length ≤ 74) (w : wq E 74 none c20 (frameOf xs) h [] (leaveQ E [.tmp 2] Q)) : CallP E 20 xs h Q :=
  CallP.enterQ (fn := Try.f20) (fn_get Try.func20) (code := Try.f20.body.get rfl) rfl rfl rfl (by kernel_rfl) rfl (fun _ => rfl) hl w
theorem can20 : callable E 20 = true := callable_get Try.func20 rfl rfl
def c21 : C := (.seq (.ops [kO 0 (.mov (.const (.bool kF)))])
 (.seq (.ops [kO 15 (.call 22 []),
 kO 1 (.alloc 25 [.int .i64 0,kN,kN]),
 ⟨none,.store 3 (kT 1) (kT 15),none⟩])
 (.seq (.ops [kO 17 (.loadN 3 (kT 1)),
 kO 18 (.call 24 [.tmp 17,(kC 8)]),
 kO 16 (.mov (kT 18)),
 kO 19 (.ext (kT 16) 0),
 kO 20 (.ext (kT 16) 1),
 kO 2 (.mov (kT 19)),
 kO 3 (.mov (kT 20))])
 (.seq (.ops [kO 22 (.slit 3 2 [.int .i64 0,.int .i64 0] [(0,1,(kC 0)),(1,1,(kC 1))]),
 kO 23 (.call 50 [(kC 2),(.const kN),.tmp 22]),
 kO 21 (.mov (kT 23)),
 kO 24 (.ext (kT 21) 0),
 kO 25 (.ext (kT 21) 1),
 kO 4 (.alloc 25 [.int .i64 0,kN,kN]),
 ⟨none,.store 3 (kT 4) (kT 24),none⟩,
 kO 5 (.mov (kT 25))])
 (.seq (.ops [kO 27 (.loadN 3 (kT 1)),
 kO 28 (.call 28 [.tmp 27,(kC 2),(kC 0)]),
 kO 26 (.mov (kT 28)),
 kO 29 (.ext (kT 26) 0),
 kO 30 (.ext (kT 26) 1),
 kO 6 (.alloc 25 [.int .i64 0,kN,kN]),
 ⟨none,.store 3 (kT 6) (kT 29),none⟩,
 kO 7 (.mov (kT 30))])
 (.seq (.ops [kO 32 (.loadN 3 (kT 1)),
 kO 33 (.call 35 [.tmp 32,(kC 1)]),
 kO 31 (.mov (kT 33)),
 kO 34 (.ext (kT 31) 0),
 kO 35 (.ext (kT 31) 1),
 kO 36 (.ext (kT 31) 2),
 kO 8 (.mov (kT 34)),
 kO 9 (.mov (kT 35)),
 kO 10 (.mov (kT 36))])
 (.seq (.ops [kO 38 (.loadN 3 (kT 4)),
 kO 39 (.call 33 [.tmp 38]),
 kO 37 (.mov (kT 39)),
 kO 40 (.ext (kT 37) 0),
 kO 41 (.ext (kT 37) 1),
 kO 42 (.ext (kT 37) 2),
 kO 43 (.ext (kT 37) 3),
 kO 11 (.mov (kT 40)),
 kO 12 (.mov (kT 41)),
 kO 13 (.mov (kT 42)),
 kO 14 (.mov (kT 43))])
 (.seq (.ops [kO 44 (.loadN 3 (kT 1)),
 kO 45 (.call 17 [.tmp 44]),
 kO 46 (.call 60 []),
 kO 47 (.call 41 [.tmp 45,.tmp 46]),
 kO 48 (.mov (kT 47)),
 ⟨some 49,.mov (kT 3),(some (48,kE))⟩,
 ⟨some 50,kA .eql (kT 49) (kC 0),(some (48,kE))⟩,
 kO 51 (.pick (kT 48) (kT 50) (.const (.bool kF))),
 kO 52 (.mov (kT 51)),
 ⟨some 53,.mov (kT 2),(some (52,kE))⟩,
 ⟨some 54,.slit 3 8 [.int .i64 0,.int .i64 0,.int .i64 0,.int .i64 0,.int .i64 0,.int .i64 0,.int .i64 0,.int .i64 0] [(0,1,(kC 0)),(1,1,(kC 1)),(2,1,(kC 1)),(3,1,(kC 0)),(4,1,(kC 1)),(5,1,(kC 0)),(6,1,(kC 0)),(7,1,(kC 1))],(some (52,kE))⟩,
 ⟨some 55,.call 61 [.tmp 53,.tmp 54],(some (52,kE))⟩,
 kO 56 (.pick (kT 52) (kT 55) (.const (.bool kF))),
 kO 57 (.mov (kT 56)),
 ⟨some 58,.mov (kT 5),(some (57,kE))⟩,
 ⟨some 59,kA .eql (kT 58) (kC 0),(some (57,kE))⟩,
 kO 60 (.pick (kT 57) (kT 59) (.const (.bool kF))),
 kO 61 (.mov (kT 60)),
 ⟨some 62,.loadN 3 (kT 4),(some (61,kE))⟩,
 ⟨some 63,.call 17 [.tmp 62],(some (61,kE))⟩,
 ⟨some 64,.slit 3 3 [.int .i64 0,.int .i64 0,.int .i64 0] [(0,1,(kC 0)),(1,1,(kC 0)),(2,1,(kC 1))],(some (61,kE))⟩,
 ⟨some 65,.slit 3 2 [.int .i64 0,.int .i64 0] [(0,1,(kC 1)),(1,1,(kC 2))],(some (61,kE))⟩,
 ⟨some 66,.slit 3 2 [.int .i64 0,.int .i64 0] [(0,1,(kC 1)),(1,1,(kC 1))],(some (61,kE))⟩,
 ⟨some 67,.slit 3 2 [.int .i64 0,.int .i64 0] [(0,1,(kC 2)),(1,1,(kC 2))],(some (61,kE))⟩,
 ⟨some 68,.slit 22 3 [kN,kN,kN] [(0,1,(kT 65)),(1,1,(kT 66)),(2,1,(kT 67))],(some (61,kE))⟩,
 ⟨some 69,.aggr [.int .i64 0,kN,kN] [(0,1,(kC 2)),(1,1,(kT 64)),(2,1,(kT 68))],(some (61,kE))⟩,
 ⟨some 70,.call 41 [.tmp 63,.tmp 69],(some (61,kE))⟩,
 kO 71 (.pick (kT 61) (kT 70) (.const (.bool kF))),
 kO 72 (.mov (kT 71)),
 ⟨some 73,.mov (kT 7),(some (72,kE))⟩,
 ⟨some 74,kA .eql (kT 73) (kC 0),(some (72,kE))⟩,
 kO 75 (.pick (kT 72) (kT 74) (.const (.bool kF))),
 kO 76 (.mov (kT 75)),
 ⟨some 77,.loadN 3 (kT 6),(some (76,kE))⟩,
 ⟨some 78,.call 17 [.tmp 77],(some (76,kE))⟩,
 ⟨some 79,.call 60 [],(some (76,kE))⟩,
 ⟨some 80,.call 41 [.tmp 78,.tmp 79],(some (76,kE))⟩,
 kO 81 (.pick (kT 76) (kT 80) (.const (.bool kF))),
 kO 82 (.mov (kT 81)),
 ⟨some 83,.mov (kT 10),(some (82,kE))⟩,
 ⟨some 84,kA .eql (kT 83) (kC 0),(some (82,kE))⟩,
 kO 85 (.pick (kT 82) (kT 84) (.const (.bool kF))),
 kO 86 (.mov (kT 85)),
 ⟨some 87,.mov (kT 9),(some (86,kE))⟩,
 kO 88 (.pick (kT 86) (kT 87) (.const (.bool kF))),
 kO 89 (.mov (kT 88)),
 ⟨some 90,.mov (kT 8),(some (89,kE))⟩,
 ⟨some 91,kA .eql (kT 90) (kC 1),(some (89,kE))⟩,
 kO 92 (.pick (kT 89) (kT 91) (.const (.bool kF))),
 kO 93 (.mov (kT 92)),
 ⟨some 94,.mov (kT 14),(some (93,kE))⟩,
 ⟨some 95,kA .eql (kT 94) (kC 0),(some (93,kE))⟩,
 kO 96 (.pick (kT 93) (kT 95) (.const (.bool kF))),
 kO 97 (.mov (kT 96)),
 ⟨some 98,.mov (kT 13),(some (97,kE))⟩,
 kO 99 (.pick (kT 97) (kT 98) (.const (.bool kF))),
 kO 100 (.mov (kT 99)),
 ⟨some 101,.mov (kT 11),(some (100,kE))⟩,
 ⟨some 102,kA .eql (kT 101) (kC 0),(some (100,kE))⟩,
 kO 103 (.pick (kT 100) (kT 102) (.const (.bool kF))),
 kO 104 (.mov (kT 103)),
 ⟨some 105,.mov (kT 12),(some (104,kE))⟩,
 ⟨some 106,kA .eql (kT 105) (kC 2),(some (104,kE))⟩,
 kO 107 (.pick (kT 104) (kT 106) (.const (.bool kF))),
 kO 108 (.mov (kT 107)),
 ⟨some 109,.aggr [.int .i64 0,kN,kN] [],(some (108,kE))⟩,
 ⟨some 110,.call 20 [.tmp 109],(some (108,kE))⟩,
 ⟨some 111,kA .eql (kT 110) (kC 50),(some (108,kE))⟩,
 kO 112 (.pick (kT 108) (kT 111) (.const (.bool kF))),
 kO 0 (.mov (kT 112))])
 .ret))))))))
theorem enter21 (hl : xs.length ≤ 113) (w : wq E 113 none c21 (frameOf xs) h [] (leaveQ E [.tmp 0] Q)) : CallP E 21 xs h Q :=
  CallP.enterQ (fn := Try.f21) (fn_get Try.func21) (code := Try.f21.body.get rfl) rfl rfl rfl (by kernel_rfl) rfl (fun _ => rfl) hl w
theorem can21 : callable E 21 = true := callable_get Try.func21 rfl rfl
def c22 : C := (.seq (.ops [kO 0 (.alloc 25 [.int .i64 0,kN,kN])])
 (.seq (.ops [kO 1 (.slit 3 2 [.int .i64 0,.int .i64 0] [(0,1,(kC 0)),(1,1,(kC 1))]),
 kO 2 (.slit 3 2 [.int .i64 0,.int .i64 0] [(0,1,(kC 0)),(1,1,(kC 1))]),
 kO 3 (.slit 3 2 [.int .i64 0,.int .i64 0] [(0,1,(kC 1)),(1,1,(kC 0))]),
 kO 4 (.slit 22 2 [kN,kN] [(0,1,(kT 2)),(1,1,(kT 3))]),
 kO 5 (.aggr [.int .i64 0,kN,kN] [(0,1,(kC 2)),(1,1,(kT 1)),(2,1,(kT 4))]),
 ⟨none,.store 3 (kT 0) (kT 5),none⟩])
 .ret))
theorem enter22 (hl : xs.length ≤ 6) (w : wq E 6 none c22 (frameOf xs) h [] (leaveQ E [.cell 0 25] Q)) : CallP E 22 xs h Q :=
  CallP.enterQ (fn := Try.f22) (fn_get Try.func22) (code := Try.f22.body.get rfl) rfl rfl rfl (by kernel_rfl) rfl (fun _ => rfl) hl w
theorem can22 : callable E 22 = true := callable_get Try.func22 rfl rfl
def c24 : C := (.seq (.ops [kO 2 (.box 25 (kT 0)),
 kO 4 (.mov (.const kN)),
 kO 5 (.mov (kC 0))])
 (.seq (.seq (.ops [kO 9 (.loadN 3 (kT 2)),
 kO 10 (.call 20 [.tmp 9]),
 kO 6 (.mov (kT 10))])
 (.seq (.ops [kO 11 (.mov (kT 6)),
 kO 12 (kA .neq (kT 11) (kC 0))])
 (.cond (kT 12) (.seq (.ops [kO 13 (.mov (kT 6)),
 kO 4 (.mov (.const kN)),
 kO 5 (.mov (kT 13))])
 .ret)
 .skip)))
 (.seq (.seq (.ops [kO 14 (.mov (kT 1)),
 kO 15 (kA .lss (kT 14) (kC 0)),
 kO 16 (.mov (kT 15)),
 ⟨some 17,.mov (kT 1),(some (16,kF))⟩,
 ⟨some 18,kA .gtr (kT 17) (kC 1000),(some (16,kF))⟩,
 kO 19 (.pick (kT 16) (.const (.bool kE)) (kT 18))])
 (.cond (kT 19) (.seq (.ops [kO 4 (.mov (.const kN)),
 kO 5 (.mov (kC 1))])
 .ret)
 .skip))
 (.seq (.ops [kO 20 (.mov (kT 1)),
 kO 21 (.make 3 [.int .i64 0] 8 (kT 20) (kT 20)),
 kO 7 (.mov (kT 21))])
 (.seq (.seq (.ops [kO 22 (.mov (kT 7)),
 kO 23 (.lenS (kT 22)),
 kO 24 (.mov (kC 0))])
 (.block 0 (.loop (.seq (.ops [kO 25 (kA .lss (kT 24) (kT 23))])
 (.seq (.cond (kT 25) .skip
 (.exit 0))
 (.seq (.block 1 (.seq (.ops [kO 26 (.mov (kT 24)),
 kO 8 (.mov (kT 26))])
 (.ops [kO 27 (.mov (kT 7)),
 kO 28 (.mov (kT 8)),
 kO 29 (.loadN 3 (kT 2)),
 kO 30 (.mov (kT 8)),
 kO 31 (.call 62 [.tmp 29,(kC 0),.tmp 30]),
 kO 32 (.idxS 1 (kT 27) (kT 28)),
 ⟨none,.store 1 (kT 32) (kT 31),none⟩])))
 (.ops [kO 33 (kA .add (kT 24) (kC 1)),
 kO 24 (.mov (kT 33))])))))))
 (.seq (.ops [kO 34 (.mov (kT 7)),
 kO 4 (.mov (kT 34)),
 kO 5 (.mov (kC 0))])
 .ret))))))
theorem enter24 (hl : xs.length ≤ 35) (w : wq E 35 none c24 (frameOf xs) h [] (leaveQ E [.tmp 4,.tmp 5] Q)) : CallP E 24 xs h Q :=
  CallP.enterQ (fn := Try.f24) (fn_get Try.func24) (code := Try.f24.body.get rfl) rfl rfl rfl (by kernel_rfl) rfl (fun _ => rfl) hl w
theorem can24 : callable E 24 = true := callable_get Try.func24 rfl rfl
def c28 : C := (.seq (.ops [kO 3 (.box 25 (kT 0)),
 kO 6 (.alloc 25 [.int .i64 0,kN,kN]),
 kO 7 (.mov (kC 0))])
 (.seq (.seq (.ops [kO 9 (.loadN 3 (kT 3)),
 kO 10 (.call 20 [.tmp 9]),
 kO 8 (.mov (kT 10))])
 (.seq (.ops [kO 11 (.mov (kT 8)),
 kO 12 (kA .neq (kT 11) (kC 0))])
 (.cond (kT 12) (.seq (.ops [kO 13 (.aggr [.int .i64 0,kN,kN] []),
 kO 14 (.mov (kT 8)),
 ⟨none,.store 3 (kT 6) (kT 13),none⟩,
 kO 7 (.mov (kT 14))])
 .ret)
 .skip)))
 (.seq (.seq (.ops [kO 15 (.mov (kT 1)),
 kO 16 (kA .lss (kT 15) (kC 1)),
 kO 17 (.mov (kT 16)),
 ⟨some 18,.mov (kT 1),(some (17,kF))⟩,
 ⟨some 19,kA .gtr (kT 18) (kC 30),(some (17,kF))⟩,
 kO 20 (.pick (kT 17) (.const (.bool kE)) (kT 19)),
 kO 21 (.mov (kT 20)),
 ⟨some 22,.mov (kT 2),(some (21,kF))⟩,
 ⟨some 23,kA .lss (kT 22) (kC 0),(some (21,kF))⟩,
 kO 24 (.pick (kT 21) (.const (.bool kE)) (kT 23)),
 kO 25 (.mov (kT 24)),
 ⟨some 26,.mov (kT 2),(some (25,kF))⟩,
 ⟨some 27,kA .gtr (kT 26) (kC 100),(some (25,kF))⟩,
 kO 28 (.pick (kT 25) (.const (.bool kE)) (kT 27))])
 (.cond (kT 28) (.seq (.ops [kO 29 (.aggr [.int .i64 0,kN,kN] []),
 ⟨none,.store 3 (kT 6) (kT 29),none⟩,
 kO 7 (.mov (kC 1))])
 .ret)
 .skip))
 (.seq (.ops [kO 30 (.loadN 3 (kT 3)),
 kO 31 (.mov (kT 1)),
 kO 32 (.mov (kT 2)),
 kO 33 (.call 67 [.tmp 30,.tmp 31,.tmp 32]),
 kO 34 (.call 66 [.tmp 33]),
 kO 35 (.ext (kT 34) 0),
 kO 36 (.ext (kT 34) 1),
 ⟨none,.store 3 (kT 6) (kT 35),none⟩,
 kO 7 (.mov (kT 36))])
 .ret))))
theorem enter28 (hl : xs.length ≤ 37) (w : wq E 37 none c28 (frameOf xs) h [] (leaveQ E [.cell 6 25,.tmp 7] Q)) : CallP E 28 xs h Q :=
  CallP.enterQ (fn := Try.f28) (fn_get Try.func28) (code := Try.f28.body.get rfl) rfl rfl rfl (by kernel_rfl) rfl (fun _ => rfl) hl w
theorem can28 : callable E 28 = true := callable_get Try.func28 rfl rfl
def c33 : C := (.seq (.ops [kO 1 (.box 25 (kT 0)),
 kO 2 (.mov (kC 0)),
 kO 3 (.mov (kC 0)),
 kO 4 (.mov (.const (.bool kF))),
 kO 5 (.mov (kC 0))])
 (.seq (.seq (.ops [kO 6 (.loadN 3 (kT 1)),
 kO 7 (.call 20 [.tmp 6]),
 kO 5 (.mov (kT 7))])
 (.seq (.ops [kO 8 (.mov (kT 5)),
 kO 9 (kA .neq (kT 8) (kC 0))])
 (.cond (kT 9) (.seq (.ops [kO 10 (.mov (kT 5)),
 kO 2 (.mov (kC 0)),
 kO 3 (.mov (kC 0)),
 kO 4 (.mov (.const (.bool kF))),
 kO 5 (.mov (kT 10))])
 .ret)
 .skip)))
 (.seq (.seq (.ops [kO 3 (.mov (kC 1))])
 (.block 0 (.loop (.seq (.seq (.ops [kO 11 (.mov (kT 3)),
 kO 12 (kA .leq (kT 11) (kC 30))])
 (.cond (kT 12) .skip
 (.exit 0)))
 (.seq (.block 1 (.seq (.ops [kO 15 (.loadN 3 (kT 1)),
 kO 16 (.mov (kT 3)),
 kO 17 (.call 77 [.tmp 15,(kC 60),.tmp 16])])
 (.cond (kT 17) (.seq (.ops [kO 18 (.loadN 3 (kT 1)),
 kO 19 (.mov (kT 3)),
 kO 20 (.call 78 [.tmp 18,.tmp 19]),
 kO 21 (.mov (kT 3)),
 kO 2 (.mov (kT 20)),
 kO 3 (.mov (kT 21)),
 kO 4 (.mov (.const (.bool kE))),
 kO 5 (.mov (kC 0))])
 .ret)
 .skip)))
 (.ops [kO 13 (.mov (kT 3)),
 kO 14 (kA .add (kT 13) (kC 1)),
 kO 3 (.mov (kT 14))]))))))
 (.seq (.ops [kO 2 (.mov (kC 0)),
 kO 3 (.mov (kC 0)),
 kO 4 (.mov (.const (.bool kF))),
 kO 5 (.mov (kC 0))])
 .ret))))
theorem enter33 (hl : xs.length ≤ 22) (w : wq E 22 none c33 (frameOf xs) h [] (leaveQ E [.tmp 2,.tmp 3,.tmp 4,.tmp 5] Q)) : CallP E 33 xs h Q :=
  CallP.enterQ (fn := Try.f33) (fn_get Try.func33) (code := Try.f33.body.get rfl) rfl rfl rfl (by kernel_rfl) rfl (fun _ => rfl) hl w
theorem can33 : callable E 33 = true := callable_get Try.func33 rfl rfl
def c35 : C := (.seq (.ops [kO 2 (.box 25 (kT 0)),
 kO 4 (.mov (kC 0)),
 kO 5 (.mov (.const (.bool kF))),
 kO 6 (.mov (kC 0))])
 (.seq (.seq (.ops [kO 10 (.loadN 3 (kT 2)),
 kO 11 (.call 20 [.tmp 10]),
 kO 7 (.mov (kT 11))])
 (.seq (.ops [kO 12 (.mov (kT 7)),
 kO 13 (kA .neq (kT 12) (kC 0))])
 (.cond (kT 13) (.seq (.ops [kO 14 (.mov (kT 7)),
 kO 4 (.mov (kC 0)),
 kO 5 (.mov (.const (.bool kF))),
 kO 6 (.mov (kT 14))])
 .ret)
 .skip)))
 (.seq (.seq (.ops [kO 15 (.mov (kT 1)),
 kO 16 (.call 79 [.tmp 15]),
 kO 17 (.not (kT 16))])
 (.cond (kT 17) (.seq (.ops [kO 4 (.mov (kC 0)),
 kO 5 (.mov (.const (.bool kF))),
 kO 6 (.mov (kC 1))])
 .ret)
 .skip))
 (.seq (.ops [kO 19 (.loadN 3 (kT 2)),
 kO 20 (.mov (kT 1)),
 kO 21 (.call 80 [.tmp 19,.tmp 20]),
 kO 18 (.mov (kT 21)),
 kO 22 (.ext (kT 18) 0),
 kO 23 (.ext (kT 18) 1),
 kO 8 (.mov (kT 22)),
 kO 9 (.mov (kT 23))])
 (.seq (.ops [kO 24 (.mov (kT 8)),
 kO 25 (.mov (kT 9)),
 kO 4 (.mov (kT 24)),
 kO 5 (.mov (kT 25)),
 kO 6 (.mov (kC 0))])
 .ret)))))
theorem enter35 (hl : xs.length ≤ 26) (w : wq E 26 none c35 (frameOf xs) h [] (leaveQ E [.tmp 4,.tmp 5,.tmp 6] Q)) : CallP E 35 xs h Q :=
  CallP.enterQ (fn := Try.f35) (fn_get Try.func35) (code := Try.f35.body.get rfl) rfl rfl rfl (by kernel_rfl) rfl (fun _ => rfl) hl w
theorem can35 : callable E 35 = true := callable_get Try.func35 rfl rfl
def c37 : C := (.seq (.ops [kO 3 (.box 25 (kT 0)),
 kO 6 (.alloc 26 [.int .i64 0,kN,kN])])
 (.seq (.ops [kO 17 (.fldA 1 (kT 3)),
 kO 18 (.load1 (kT 17)),
 kO 19 (.lenS (kT 18)),
 kO 20 (.mov (kT 2)),
 kO 21 (.raw (.call ⟨.builtin .min,⟨[.tmp 19,.tmp 20]⟩,⟨[3,3]⟩⟩) 3),
 kO 22 (.raw (.call ⟨.builtin .max,⟨[(kC 1),.tmp 21]⟩,⟨[3,3]⟩⟩) 3),
 kO 7 (.mov (kT 22))])
 (.seq (.ops [kO 23 (.mov (kT 1)),
 kO 24 (.aggr [.int .i64 0,kN,kN] [(0,1,(kT 23))]),
 kO 8 (.alloc 26 [.int .i64 0,kN,kN]),
 ⟨none,.store 3 (kT 8) (kT 24),none⟩])
 (.seq (.seq (.ops [kO 9 (.mov (kC 0))])
 (.block 0 (.loop (.seq (.seq (.ops [kO 25 (.mov (kT 9)),
 kO 26 (.mov (kT 7)),
 kO 27 (kA .lss (kT 25) (kT 26))])
 (.cond (kT 27) .skip
 (.exit 0)))
 (.seq (.block 1 (.seq (.ops [kO 10 (.mov (kC 0))])
 (.seq (.seq (.ops [kO 30 (.mov (kT 9)),
 kO 31 (.fldA 1 (kT 3)),
 kO 32 (.load1 (kT 31)),
 kO 33 (.lenS (kT 32)),
 kO 34 (kA .lss (kT 30) (kT 33))])
 (.cond (kT 34) (.ops [kO 35 (.fldA 1 (kT 3)),
 kO 36 (.load1 (kT 35)),
 kO 37 (.mov (kT 9)),
 kO 38 (.idxS 1 (kT 36) (kT 37)),
 kO 39 (.load1 (kT 38)),
 kO 40 (.cint .u64 (kT 39)),
 kO 41 (.ar .u64 .rem (kT 40) (.const (.int .u64 10))),
 kO 42 (.cint .i64 (kT 41)),
 kO 10 (.mov (kT 42))])
 .skip))
 (.seq (.ops [kO 43 (.fldA 1 (kT 8)),
 kO 44 (.load1 (kT 43)),
 kO 11 (.mov (kT 44))])
 (.ops [kO 45 (.mov (kT 11)),
 kO 46 (.mov (kT 10)),
 kO 47 (.slit 3 1 [.int .i64 0] [(0,1,(kT 46))]),
 kO 48 (.append 3 1 8 (kT 45) (kT 47)),
 kO 49 (.fldA 1 (kT 8)),
 ⟨none,.store 1 (kT 49) (kT 48),none⟩])))))
 (.ops [kO 28 (.mov (kT 9)),
 kO 29 (kA .add (kT 28) (kC 1)),
 kO 9 (.mov (kT 29))]))))))
 (.seq (.seq (.ops [kO 12 (.mov (kC 0))])
 (.block 2 (.loop (.seq (.seq (.ops [kO 50 (.mov (kT 12)),
 kO 51 (.mov (kT 7)),
 kO 52 (kA .lss (kT 50) (kT 51))])
 (.cond (kT 52) .skip
 (.exit 2)))
 (.seq (.block 3 (.seq (.ops [kO 13 (.mov (.const kN))])
 (.seq (.seq (.ops [kO 14 (.mov (kC 0))])
 (.block 4 (.loop (.seq (.seq (.ops [kO 55 (.mov (kT 14)),
 kO 56 (.mov (kT 1)),
 kO 57 (kA .lss (kT 55) (kT 56))])
 (.cond (kT 57) .skip
 (.exit 4)))
 (.seq (.block 5 (.seq (.ops [kO 60 (.mov (kT 12)),
 kO 15 (.mov (kT 60))])
 (.seq (.seq (.ops [kO 61 (.mov (kT 12)),
 kO 62 (.fldA 2 (kT 3)),
 kO 63 (.load1 (kT 62)),
 kO 64 (.lenS (kT 63)),
 kO 65 (kA .lss (kT 61) (kT 64)),
 kO 66 (.mov (kT 65)),
 ⟨some 67,.mov (kT 14),(some (66,kE))⟩,
 ⟨some 68,.fldA 2 (kT 3),(some (66,kE))⟩,
 ⟨some 69,.load1 (kT 68),(some (66,kE))⟩,
 ⟨some 70,.mov (kT 12),(some (66,kE))⟩,
 ⟨some 71,.idxS 1 (kT 69) (kT 70),(some (66,kE))⟩,
 ⟨some 72,.load1 (kT 71),(some (66,kE))⟩,
 ⟨some 73,.lenS (kT 72),(some (66,kE))⟩,
 ⟨some 74,kA .lss (kT 67) (kT 73),(some (66,kE))⟩,
 kO 75 (.pick (kT 66) (kT 74) (.const (.bool kF)))])
 (.cond (kT 75) (.ops [kO 76 (.fldA 2 (kT 3)),
 kO 77 (.load1 (kT 76)),
 kO 78 (.mov (kT 12)),
 kO 79 (.idxS 1 (kT 77) (kT 78)),
 kO 80 (.load1 (kT 79)),
 kO 81 (.mov (kT 14)),
 kO 82 (.idxS 1 (kT 80) (kT 81)),
 kO 83 (.load1 (kT 82)),
 kO 84 (.cint .u64 (kT 83)),
 kO 85 (.mov (kT 7)),
 kO 86 (.cint .u64 (kT 85)),
 kO 87 (.ar .u64 .rem (kT 84) (kT 86)),
 kO 88 (.cint .i64 (kT 87)),
 kO 15 (.mov (kT 88))])
 .skip))
 (.seq (.seq (.ops [kO 89 (.mov (kT 14)),
 kO 90 (kA .eql (kT 89) (kC 0)),
 kO 91 (.mov (kT 90)),
 ⟨some 92,.fldA 1 (kT 8),(some (91,kE))⟩,
 ⟨some 93,.load1 (kT 92),(some (91,kE))⟩,
 ⟨some 94,.mov (kT 15),(some (91,kE))⟩,
 ⟨some 95,.idxS 1 (kT 93) (kT 94),(some (91,kE))⟩,
 ⟨some 96,.load1 (kT 95),(some (91,kE))⟩,
 ⟨some 97,.fldA 1 (kT 8),(some (91,kE))⟩,
 ⟨some 98,.load1 (kT 97),(some (91,kE))⟩,
 ⟨some 99,.mov (kT 12),(some (91,kE))⟩,
 ⟨some 100,.idxS 1 (kT 98) (kT 99),(some (91,kE))⟩,
 ⟨some 101,.load1 (kT 100),(some (91,kE))⟩,
 ⟨some 102,kA .neq (kT 96) (kT 101),(some (91,kE))⟩,
 kO 103 (.pick (kT 91) (kT 102) (.const (.bool kF)))])
 (.cond (kT 103) (.ops [kO 104 (.mov (kT 12)),
 kO 15 (.mov (kT 104))])
 .skip))
 (.ops [kO 105 (.mov (kT 13)),
 kO 106 (.mov (kT 15)),
 kO 107 (.slit 3 1 [.int .i64 0] [(0,1,(kT 106))]),
 kO 108 (.append 3 1 8 (kT 105) (kT 107)),
 kO 13 (.mov (kT 108))])))))
 (.ops [kO 58 (.mov (kT 14)),
 kO 59 (kA .add (kT 58) (kC 1)),
 kO 14 (.mov (kT 59))]))))))
 (.seq (.ops [kO 109 (.fldA 2 (kT 8)),
 kO 110 (.load1 (kT 109)),
 kO 16 (.mov (kT 110))])
 (.ops [kO 111 (.mov (kT 16)),
 kO 112 (.mov (kT 13)),
 kO 113 (.slit 22 1 [kN] [(0,1,(kT 112))]),
 kO 114 (.append 22 1 24 (kT 111) (kT 113)),
 kO 115 (.fldA 2 (kT 8)),
 ⟨none,.store 1 (kT 115) (kT 114),none⟩])))))
 (.ops [kO 53 (.mov (kT 12)),
 kO 54 (kA .add (kT 53) (kC 1)),
 kO 12 (.mov (kT 54))]))))))
 (.seq (.ops [kO 116 (.loadN 3 (kT 8)),
 ⟨none,.store 3 (kT 6) (kT 116),none⟩])
 .ret))))))
theorem enter37 (hl : xs.length ≤ 117) (w : wq E 117 none c37 (frameOf xs) h [] (leaveQ E [.cell 6 26] Q)) : CallP E 37 xs h Q :=
  CallP.enterQ (fn := Try.f37) (fn_get Try.func37) (code := Try.f37.body.get rfl) rfl rfl rfl (by kernel_rfl) rfl (fun _ => rfl) hl w
theorem can37 : callable E 37 = true := callable_get Try.func37 rfl rfl
def c38 : C := (.seq (.ops [kO 2 (.mov (kC 0))])
 (.seq (.ops [kO 3 (.mov (kT 0)),
 kO 4 (.cint .u64 (kT 3)),
 kO 5 (.ar .u64 .rem (kT 4) (.const (.int .u64 4))),
 kO 6 (.cint .i64 (kT 5)),
 kO 7 (kA .add (kC 2) (kT 6)),
 kO 2 (.mov (kT 7))])
 .ret))
theorem enter38 (hl : xs.length ≤ 8) (w : wq E 8 none c38 (frameOf xs) h [] (leaveQ E [.tmp 2] Q)) : CallP E 38 xs h Q :=
  CallP.enterQ (fn := Try.f38) (fn_get Try.func38) (code := Try.f38.body.get rfl) rfl rfl rfl (by kernel_rfl) rfl (fun _ => rfl) hl w
theorem can38 : callable E 38 = true := callable_get Try.func38 rfl rfl
def c41 : C := (.seq (.ops [kO 2 (.box 26 (kT 0)),
 kO 3 (.box 26 (kT 1)),
 kO 4 (.mov (.const (.bool kF)))])
 (.seq (.seq (.ops [kO 7 (.fldA 0 (kT 2)),
 kO 8 (.load1 (kT 7)),
 kO 9 (.fldA 0 (kT 3)),
 kO 10 (.load1 (kT 9)),
 kO 11 (kA .neq (kT 8) (kT 10)),
 kO 12 (.mov (kT 11)),
 ⟨some 13,.fldA 1 (kT 2),(some (12,kF))⟩,
 ⟨some 14,.load1 (kT 13),(some (12,kF))⟩,
 ⟨some 15,.lenS (kT 14),(some (12,kF))⟩,
 ⟨some 16,.fldA 1 (kT 3),(some (12,kF))⟩,
 ⟨some 17,.load1 (kT 16),(some (12,kF))⟩,
 ⟨some 18,.lenS (kT 17),(some (12,kF))⟩,
 ⟨some 19,kA .neq (kT 15) (kT 18),(some (12,kF))⟩,
 kO 20 (.pick (kT 12) (.const (.bool kE)) (kT 19)),
 kO 21 (.mov (kT 20)),
 ⟨some 22,.fldA 2 (kT 2),(some (21,kF))⟩,
 ⟨some 23,.load1 (kT 22),(some (21,kF))⟩,
 ⟨some 24,.lenS (kT 23),(some (21,kF))⟩,
 ⟨some 25,.fldA 2 (kT 3),(some (21,kF))⟩,
 ⟨some 26,.load1 (kT 25),(some (21,kF))⟩,
 ⟨some 27,.lenS (kT 26),(some (21,kF))⟩,
 ⟨some 28,kA .neq (kT 24) (kT 27),(some (21,kF))⟩,
 kO 29 (.pick (kT 21) (.const (.bool kE)) (kT 28))])
 (.cond (kT 29) (.seq (.ops [kO 4 (.mov (.const (.bool kF)))])
 .ret)
 .skip))
 (.seq (.seq (.ops [kO 5 (.mov (kC 0))])
 (.block 0 (.loop (.seq (.seq (.ops [kO 30 (.mov (kT 5)),
 kO 31 (.fldA 1 (kT 2)),
 kO 32 (.load1 (kT 31)),
 kO 33 (.lenS (kT 32)),
 kO 34 (kA .lss (kT 30) (kT 33))])
 (.cond (kT 34) .skip
 (.exit 0)))
 (.seq (.block 1 (.seq (.seq (.ops [kO 37 (.fldA 1 (kT 2)),
 kO 38 (.load1 (kT 37)),
 kO 39 (.mov (kT 5)),
 kO 40 (.idxS 1 (kT 38) (kT 39)),
 kO 41 (.load1 (kT 40)),
 kO 42 (.fldA 1 (kT 3)),
 kO 43 (.load1 (kT 42)),
 kO 44 (.mov (kT 5)),
 kO 45 (.idxS 1 (kT 43) (kT 44)),
 kO 46 (.load1 (kT 45)),
 kO 47 (kA .neq (kT 41) (kT 46)),
 kO 48 (.mov (kT 47)),
 ⟨some 49,.fldA 2 (kT 2),(some (48,kF))⟩,
 ⟨some 50,.load1 (kT 49),(some (48,kF))⟩,
 ⟨some 51,.mov (kT 5),(some (48,kF))⟩,
 ⟨some 52,.idxS 1 (kT 50) (kT 51),(some (48,kF))⟩,
 ⟨some 53,.load1 (kT 52),(some (48,kF))⟩,
 ⟨some 54,.lenS (kT 53),(some (48,kF))⟩,
 ⟨some 55,.fldA 2 (kT 3),(some (48,kF))⟩,
 ⟨some 56,.load1 (kT 55),(some (48,kF))⟩,
 ⟨some 57,.mov (kT 5),(some (48,kF))⟩,
 ⟨some 58,.idxS 1 (kT 56) (kT 57),(some (48,kF))⟩,
 ⟨some 59,.load1 (kT 58),(some (48,kF))⟩,
 ⟨some 60,.lenS (kT 59),(some (48,kF))⟩,
 ⟨some 61,kA .neq (kT 54) (kT 60),(some (48,kF))⟩,
 kO 62 (.pick (kT 48) (.const (.bool kE)) (kT 61))])
 (.cond (kT 62) (.seq (.ops [kO 4 (.mov (.const (.bool kF)))])
 .ret)
 .skip))
 (.seq (.ops [kO 6 (.mov (kC 0))])
 (.block 2 (.loop (.seq (.seq (.ops [kO 63 (.mov (kT 6)),
 kO 64 (.fldA 2 (kT 2)),
 kO 65 (.load1 (kT 64)),
 kO 66 (.mov (kT 5)),
 kO 67 (.idxS 1 (kT 65) (kT 66)),
 kO 68 (.load1 (kT 67)),
 kO 69 (.lenS (kT 68)),
 kO 70 (kA .lss (kT 63) (kT 69))])
 (.cond (kT 70) .skip
 (.exit 2)))
 (.seq (.block 3 (.seq (.ops [kO 73 (.fldA 2 (kT 2)),
 kO 74 (.load1 (kT 73)),
 kO 75 (.mov (kT 5)),
 kO 76 (.idxS 1 (kT 74) (kT 75)),
 kO 77 (.load1 (kT 76)),
 kO 78 (.mov (kT 6)),
 kO 79 (.idxS 1 (kT 77) (kT 78)),
 kO 80 (.load1 (kT 79)),
 kO 81 (.fldA 2 (kT 3)),
 kO 82 (.load1 (kT 81)),
 kO 83 (.mov (kT 5)),
 kO 84 (.idxS 1 (kT 82) (kT 83)),
 kO 85 (.load1 (kT 84)),
 kO 86 (.mov (kT 6)),
 kO 87 (.idxS 1 (kT 85) (kT 86)),
 kO 88 (.load1 (kT 87)),
 kO 89 (kA .neq (kT 80) (kT 88))])
 (.cond (kT 89) (.seq (.ops [kO 4 (.mov (.const (.bool kF)))])
 .ret)
 .skip)))
 (.ops [kO 71 (.mov (kT 6)),
 kO 72 (kA .add (kT 71) (kC 1)),
 kO 6 (.mov (kT 72))]))))))))
 (.ops [kO 35 (.mov (kT 5)),
 kO 36 (kA .add (kT 35) (kC 1)),
 kO 5 (.mov (kT 36))]))))))
 (.seq (.ops [kO 4 (.mov (.const (.bool kE)))])
 .ret))))
theorem enter41 (hl : xs.length ≤ 90) (w : wq E 90 none c41 (frameOf xs) h [] (leaveQ E [.tmp 4] Q)) : CallP E 41 xs h Q :=
  CallP.enterQ (fn := Try.f41) (fn_get Try.func41) (code := Try.f41.body.get rfl) rfl rfl rfl (by kernel_rfl) rfl (fun _ => rfl) hl w
theorem can41 : callable E 41 = true := callable_get Try.func41 rfl rfl
def c49 : C := (.seq (.ops [kO 4 (.mov (.const kN))])
 (.seq (.ops [kO 5 (.mov (.const kN))])
 (.seq (.ops [kO 6 (.mov (kT 5)),
 kO 7 (.mov (kT 0)),
 kO 8 (.mov (kT 0)),
 kO 9 (.lenS (kT 8)),
 kO 10 (.mov (kT 1)),
 kO 11 (.raw (.call ⟨.builtin .min,⟨[.tmp 9,.tmp 10]⟩,⟨[3,3]⟩⟩) 3),
 kO 12 (.cutS 1 (kT 7) none (some (kT 11)) none),
 kO 13 (.append 3 1 8 (kT 6) (kT 12)),
 kO 4 (.mov (kT 13))])
 .ret)))
theorem enter49 (hl : xs.length ≤ 14) (w : wq E 14 none c49 (frameOf xs) h [] (leaveQ E [.tmp 4] Q)) : CallP E 49 xs h Q :=
  CallP.enterQ (fn := Try.f49) (fn_get Try.func49) (code := Try.f49.body.get rfl) rfl rfl rfl (by kernel_rfl) rfl (fun _ => rfl) hl w
theorem can49 : callable E 49 = true := callable_get Try.func49 rfl rfl
def c50 : C := (.seq (.ops [kO 6 (.alloc 25 [.int .i64 0,kN,kN]),
 kO 7 (.mov (kC 0))])
 (.seq (.seq (.ops [kO 9 (.mov (kT 0)),
 kO 10 (kA .lss (kT 9) (kC 2)),
 kO 11 (.mov (kT 10)),
 ⟨some 12,.mov (kT 0),(some (11,kF))⟩,
 ⟨some 13,kA .gtr (kT 12) (kC 5),(some (11,kF))⟩,
 kO 14 (.pick (kT 11) (.const (.bool kE)) (kT 13)),
 kO 15 (.mov (kT 14)),
 ⟨some 16,.mov (kT 1),(some (15,kF))⟩,
 ⟨some 17,.lenS (kT 16),(some (15,kF))⟩,
 ⟨some 18,kA .gtr (kT 17) (kC 20),(some (15,kF))⟩,
 kO 19 (.pick (kT 15) (.const (.bool kE)) (kT 18)),
 kO 20 (.mov (kT 19)),
 ⟨some 21,.mov (kT 2),(some (20,kF))⟩,
 ⟨some 22,.lenS (kT 21),(some (20,kF))⟩,
 ⟨some 23,kA .lss (kT 22) (kC 1),(some (20,kF))⟩,
 kO 24 (.pick (kT 20) (.const (.bool kE)) (kT 23)),
 kO 25 (.mov (kT 24)),
 ⟨some 26,.mov (kT 2),(some (25,kF))⟩,
 ⟨some 27,.lenS (kT 26),(some (25,kF))⟩,
 ⟨some 28,kA .gtr (kT 27) (kC 20),(some (25,kF))⟩,
 kO 29 (.pick (kT 25) (.const (.bool kE)) (kT 28))])
 (.cond (kT 29) (.seq (.ops [kO 30 (.aggr [.int .i64 0,kN,kN] []),
 ⟨none,.store 3 (kT 6) (kT 30),none⟩,
 kO 7 (.mov (kC 1))])
 .ret)
 .skip))
 (.seq (.seq (.ops [kO 31 (.mov (kT 1)),
 kO 32 (.call 57 [.tmp 31]),
 kO 33 (.not (kT 32)),
 kO 34 (.mov (kT 33)),
 ⟨some 35,.mov (kT 2),(some (34,kF))⟩,
 ⟨some 36,.call 57 [.tmp 35],(some (34,kF))⟩,
 ⟨some 37,.not (kT 36),(some (34,kF))⟩,
 kO 38 (.pick (kT 34) (.const (.bool kE)) (kT 37))])
 (.cond (kT 38) (.seq (.ops [kO 39 (.aggr [.int .i64 0,kN,kN] []),
 ⟨none,.store 3 (kT 6) (kT 39),none⟩,
 kO 7 (.mov (kC 1))])
 .ret)
 .skip))
 (.seq (.ops [kO 40 (.mov (kT 1)),
 kO 41 (.mov (kT 2)),
 kO 42 (.slit 22 2 [kN,kN] [(0,1,(kT 40)),(1,1,(kT 41))]),
 kO 43 (.call 84 [.tmp 42]),
 kO 44 (.mov (kT 1)),
 kO 45 (.lenS (kT 44)),
 kO 46 (.aggr [kN,.int .i64 0] [(0,1,(kT 43)),(1,1,(kT 45))]),
 kO 8 (.alloc 121 [kN,.int .i64 0]),
 ⟨none,.store 2 (kT 8) (kT 46),none⟩])
 (.seq (.ops [kO 47 (.loadN 2 (kT 8)),
 kO 48 (.mov (kT 0)),
 kO 49 (.call 85 [.tmp 47,.tmp 48]),
 kO 50 (.call 66 [.tmp 49]),
 kO 51 (.ext (kT 50) 0),
 kO 52 (.ext (kT 50) 1),
 ⟨none,.store 3 (kT 6) (kT 51),none⟩,
 kO 7 (.mov (kT 52))])
 .ret)))))
theorem enter50 (hl : xs.length ≤ 53) (w : wq E 53 none c50 (frameOf xs) h [] (leaveQ E [.cell 6 25,.tmp 7] Q)) : CallP E 50 xs h Q :=
  CallP.enterQ (fn := Try.f50) (fn_get Try.func50) (code := Try.f50.body.get rfl) rfl rfl rfl (by kernel_rfl) rfl (fun _ => rfl) hl w
theorem can50 : callable E 50 = true := callable_get Try.func50 rfl rfl
def c55 : C := (.seq (.ops [kO 2 (.box 26 (kT 0)),
 kO 4 (.mov (kC 0))])
 (.seq (.seq (.ops [kO 12 (.fldA 1 (kT 2)),
 kO 13 (.load1 (kT 12)),
 kO 14 (.idxS 1 (kT 13) (kC 0)),
 kO 15 (.load1 (kT 14)),
 kO 16 (.mov (kT 1)),
 kO 17 (kA .eql (kT 15) (kT 16))])
 (.cond (kT 17) (.seq (.ops [kO 4 (.mov (kC 0))])
 .ret)
 .skip))
 (.seq (.ops [kO 18 (.fldA 1 (kT 2)),
 kO 19 (.load1 (kT 18)),
 kO 20 (.lenS (kT 19)),
 kO 5 (.mov (kT 20))])
 (.seq (.ops [kO 21 (.mov (kT 5)),
 kO 22 (.make 4 [.bool kF] 1 (kT 21) (kT 21)),
 kO 23 (.slit 87 1 [kN] [(0,1,(kT 22))]),
 kO 6 (.mov (kT 23))])
 (.seq (.ops [kO 24 (.mov (kT 6)),
 kO 25 (.idxS 1 (kT 24) (kC 0)),
 kO 26 (.load1 (kT 25)),
 kO 27 (.idxS 1 (kT 26) (kC 0)),
 ⟨none,.store 1 (kT 27) (.const (.bool kE)),none⟩])
 (.seq (.seq (.ops [kO 7 (.mov (kC 0))])
 (.block 0 (.loop (.seq (.seq (.ops [kO 28 (.mov (kT 7)),
 kO 29 (.mov (kT 5)),
 kO 30 (kA .leq (kT 28) (kT 29))])
 (.cond (kT 30) .skip
 (.exit 0)))
 (.seq (.block 1 (.seq (.ops [kO 33 (.mov (kT 5)),
 kO 34 (.make 4 [.bool kF] 1 (kT 33) (kT 33)),
 kO 8 (.mov (kT 34))])
 (.seq (.ops [kO 9 (.mov (.const (.bool kF)))])
 (.seq (.seq (.ops [kO 10 (.mov (kC 0))])
 (.block 2 (.loop (.seq (.seq (.ops [kO 35 (.mov (kT 10)),
 kO 36 (.mov (kT 5)),
 kO 37 (kA .lss (kT 35) (kT 36))])
 (.cond (kT 37) .skip
 (.exit 2)))
 (.seq (.block 3 (.seq (.ops [kO 40 (.mov (kT 9)),
 kO 41 (.mov (kT 40)),
 ⟨some 42,.mov (kT 6),(some (41,kF))⟩,
 ⟨some 43,.mov (kT 7),(some (41,kF))⟩,
 ⟨some 44,.idxS 1 (kT 42) (kT 43),(some (41,kF))⟩,
 ⟨some 45,.load1 (kT 44),(some (41,kF))⟩,
 ⟨some 46,.mov (kT 10),(some (41,kF))⟩,
 ⟨some 47,.idxS 1 (kT 45) (kT 46),(some (41,kF))⟩,
 ⟨some 48,.load1 (kT 47),(some (41,kF))⟩,
 ⟨some 49,.mov (kT 48),(some (41,kF))⟩,
 ⟨some 50,.fldA 1 (kT 2),(some (49,kE))⟩,
 ⟨some 51,.load1 (kT 50),(some (49,kE))⟩,
 ⟨some 52,.mov (kT 10),(some (49,kE))⟩,
 ⟨some 53,.idxS 1 (kT 51) (kT 52),(some (49,kE))⟩,
 ⟨some 54,.load1 (kT 53),(some (49,kE))⟩,
 ⟨some 55,.mov (kT 1),(some (49,kE))⟩,
 ⟨some 56,kA .eql (kT 54) (kT 55),(some (49,kE))⟩,
 ⟨some 57,.pick (kT 49) (kT 56) (.const (.bool kF)),(some (41,kF))⟩,
 kO 58 (.pick (kT 41) (.const (.bool kE)) (kT 57)),
 kO 9 (.mov (kT 58))])
 (.seq (.ops [kO 11 (.mov (kC 0))])
 (.block 4 (.loop (.seq (.seq (.ops [kO 59 (.mov (kT 11)),
 kO 60 (.fldA 0 (kT 2)),
 kO 61 (.load1 (kT 60)),
 kO 62 (kA .lss (kT 59) (kT 61)),
 kO 63 (.mov (kT 62)),
 ⟨some 64,.mov (kT 6),(some (63,kE))⟩,
 ⟨some 65,.mov (kT 7),(some (63,kE))⟩,
 ⟨some 66,.idxS 1 (kT 64) (kT 65),(some (63,kE))⟩,
 ⟨some 67,.load1 (kT 66),(some (63,kE))⟩,
 ⟨some 68,.mov (kT 10),(some (63,kE))⟩,
 ⟨some 69,.idxS 1 (kT 67) (kT 68),(some (63,kE))⟩,
 ⟨some 70,.load1 (kT 69),(some (63,kE))⟩,
 kO 71 (.pick (kT 63) (kT 70) (.const (.bool kF)))])
 (.cond (kT 71) .skip
 (.exit 4)))
 (.seq (.block 5 (.ops [kO 74 (.mov (kT 8)),
 kO 75 (.fldA 2 (kT 2)),
 kO 76 (.load1 (kT 75)),
 kO 77 (.mov (kT 10)),
 kO 78 (.idxS 1 (kT 76) (kT 77)),
 kO 79 (.load1 (kT 78)),
 kO 80 (.mov (kT 11)),
 kO 81 (.idxS 1 (kT 79) (kT 80)),
 kO 82 (.load1 (kT 81)),
 kO 83 (.idxS 1 (kT 74) (kT 82)),
 ⟨none,.store 1 (kT 83) (.const (.bool kE)),none⟩]))
 (.ops [kO 72 (.mov (kT 11)),
 kO 73 (kA .add (kT 72) (kC 1)),
 kO 11 (.mov (kT 73))]))))))))
 (.ops [kO 38 (.mov (kT 10)),
 kO 39 (kA .add (kT 38) (kC 1)),
 kO 10 (.mov (kT 39))]))))))
 (.seq (.seq (.ops [kO 84 (.mov (kT 9))])
 (.cond (kT 84) (.seq (.ops [kO 85 (.loadN 3 (kT 2)),
 kO 86 (.mov (kT 6)),
 kO 87 (.mov (kT 7)),
 kO 88 (.mov (kT 1)),
 kO 89 (.call 87 [.tmp 85,.tmp 86,.tmp 87,.tmp 88]),
 kO 4 (.mov (kT 89))])
 .ret)
 .skip))
 (.ops [kO 90 (.mov (kT 6)),
 kO 91 (.mov (kT 8)),
 kO 92 (.slit 87 1 [kN] [(0,1,(kT 91))]),
 kO 93 (.append 87 1 24 (kT 90) (kT 92)),
 kO 6 (.mov (kT 93))]))))))
 (.ops [kO 31 (.mov (kT 7)),
 kO 32 (kA .add (kT 31) (kC 1)),
 kO 7 (.mov (kT 32))]))))))
 (.seq (.ops [kO 4 (.mov (.const (.int .i64 (-1))))])
 .ret)))))))
theorem enter55 (hl : xs.length ≤ 94) (w : wq E 94 none c55 (frameOf xs) h [] (leaveQ E [.tmp 4] Q)) : CallP E 55 xs h Q :=
  CallP.enterQ (fn := Try.f55) (fn_get Try.func55) (code := Try.f55.body.get rfl) rfl rfl rfl (by kernel_rfl) rfl (fun _ => rfl) hl w
theorem can55 : callable E 55 = true := callable_get Try.func55 rfl rfl
def c57 : C := (.seq (.ops [kO 2 (.mov (.const (.bool kF)))])
 (.seq (.ops [kO 3 (.mov (kT 0)),
 kO 4 (.call 59 [.tmp 3,.func 89]),
 kO 5 (.not (kT 4)),
 kO 2 (.mov (kT 5))])
 .ret))
theorem enter57 (hl : xs.length ≤ 6) (w : wq E 6 none c57 (frameOf xs) h [] (leaveQ E [.tmp 2] Q)) : CallP E 57 xs h Q :=
  CallP.enterQ (fn := Try.f57) (fn_get Try.func57) (code := Try.f57.body.get rfl) rfl rfl rfl (by kernel_rfl) rfl (fun _ => rfl) hl w
theorem can57 : callable E 57 = true := callable_get Try.func57 rfl rfl
def c58 : C := (.seq (.ops [kO 3 (.mov (.const (.bool kF)))])
 (.seq (.ops [kO 4 (.mov (kT 0)),
 kO 5 (kA .lss (kT 4) (kC 0)),
 kO 6 (.mov (kT 5)),
 ⟨some 7,.mov (kT 0),(some (6,kF))⟩,
 ⟨some 8,.load1 (kT 1),(some (6,kF))⟩,
 ⟨some 9,kA .geq (kT 7) (kT 8),(some (6,kF))⟩,
 kO 10 (.pick (kT 6) (.const (.bool kE)) (kT 9)),
 kO 3 (.mov (kT 10))])
 .ret))
theorem enter58 (hl : xs.length ≤ 11) (w : wq E 11 none c58 (frameOf xs) h [] (leaveQ E [.tmp 3] Q)) : CallP E 58 xs h Q :=
  CallP.enterQ (fn := Try.f58) (fn_get Try.func58) (code := Try.f58.body.get rfl) rfl rfl rfl (by kernel_rfl) rfl (fun _ => rfl) hl w
theorem can58 : callable E 58 = true := callable_get Try.func58 rfl rfl
def c59 : C := (.seq (.ops [kO 4 (.mov (.const (.bool kF)))])
 (.seq (.ops [kO 5 (.mov (kT 0)),
 kO 6 (.mov (kT 1)),
 kO 7 (.call 90 [.tmp 5,.tmp 6]),
 kO 8 (kA .geq (kT 7) (kC 0)),
 kO 4 (.mov (kT 8))])
 .ret))
theorem enter59 (hl : xs.length ≤ 9) (w : wq E 9 none c59 (frameOf xs) h [] (leaveQ E [.tmp 4] Q)) : CallP E 59 xs h Q :=
  CallP.enterQ (fn := Try.f59) (fn_get Try.func59) (code := Try.f59.body.get rfl) rfl rfl rfl (by kernel_rfl) rfl (fun _ => rfl) hl w
theorem can59 : callable E 59 = true := callable_get Try.func59 rfl rfl
def c60 : C := (.seq (.ops [kO 0 (.alloc 26 [.int .i64 0,kN,kN])])
 (.seq (.ops [kO 1 (.slit 3 2 [.int .i64 0,.int .i64 0] [(0,1,(kC 0)),(1,1,(kC 1))]),
 kO 2 (.slit 3 2 [.int .i64 0,.int .i64 0] [(0,1,(kC 0)),(1,1,(kC 1))]),
 kO 3 (.slit 3 2 [.int .i64 0,.int .i64 0] [(0,1,(kC 1)),(1,1,(kC 0))]),
 kO 4 (.slit 22 2 [kN,kN] [(0,1,(kT 2)),(1,1,(kT 3))]),
 kO 5 (.aggr [.int .i64 0,kN,kN] [(0,1,(kC 2)),(1,1,(kT 1)),(2,1,(kT 4))]),
 ⟨none,.store 3 (kT 0) (kT 5),none⟩])
 .ret))
theorem enter60 (hl : xs.length ≤ 6) (w : wq E 6 none c60 (frameOf xs) h [] (leaveQ E [.cell 0 26] Q)) : CallP E 60 xs h Q :=
  CallP.enterQ (fn := Try.f60) (fn_get Try.func60) (code := Try.f60.body.get rfl) rfl rfl rfl (by kernel_rfl) rfl (fun _ => rfl) hl w
theorem can60 : callable E 60 = true := callable_get Try.func60 rfl rfl
def c61 : C := (.seq (.ops [kO 4 (.mov (.const (.bool kF)))])
 (.seq (.seq (.ops [kO 6 (.mov (kT 0)),
 kO 7 (.lenS (kT 6)),
 kO 8 (.mov (kT 1)),
 kO 9 (.lenS (kT 8)),
 kO 10 (kA .neq (kT 7) (kT 9))])
 (.cond (kT 10) (.seq (.ops [kO 4 (.mov (.const (.bool kF)))])
 .ret)
 .skip))
 (.seq (.seq (.ops [kO 5 (.mov (kC 0))])
 (.block 0 (.loop (.seq (.seq (.ops [kO 11 (.mov (kT 5)),
 kO 12 (.mov (kT 0)),
 kO 13 (.lenS (kT 12)),
 kO 14 (kA .lss (kT 11) (kT 13))])
 (.cond (kT 14) .skip
 (.exit 0)))
 (.seq (.block 1 (.seq (.ops [kO 17 (.mov (kT 0)),
 kO 18 (.mov (kT 5)),
 kO 19 (.idxS 1 (kT 17) (kT 18)),
 kO 20 (.load1 (kT 19)),
 kO 21 (.mov (kT 1)),
 kO 22 (.mov (kT 5)),
 kO 23 (.idxS 1 (kT 21) (kT 22)),
 kO 24 (.load1 (kT 23)),
 kO 25 (kA .neq (kT 20) (kT 24))])
 (.cond (kT 25) (.seq (.ops [kO 4 (.mov (.const (.bool kF)))])
 .ret)
 .skip)))
 (.ops [kO 15 (.mov (kT 5)),
 kO 16 (kA .add (kT 15) (kC 1)),
 kO 5 (.mov (kT 16))]))))))
 (.seq (.ops [kO 4 (.mov (.const (.bool kE)))])
 .ret))))
theorem enter61 (hl : xs.length ≤ 26) (w : wq E 26 none c61 (frameOf xs) h [] (leaveQ E [.tmp 4] Q)) : CallP E 61 xs h Q :=
  CallP.enterQ (fn := Try.f61) (fn_get Try.func61) (code := Try.f61.body.get rfl) rfl rfl rfl (by kernel_rfl) rfl (fun _ => rfl) hl w
theorem can61 : callable E 61 = true := callable_get Try.func61 rfl rfl
def c62 : C := (.seq (.ops [kO 3 (.box 25 (kT 0)),
 kO 4 (.box 3 (kT 1)),
 kO 6 (.mov (kC 0))])
 (.seq (.seq (.ops [kO 8 (.mov (kT 2)),
 kO 9 (.fldA 0 (kT 3)),
 kO 10 (.load1 (kT 9)),
 kO 11 (.call 91 [.tmp 8,.tmp 10])])
 (.block 0 (.range (kT 11) ⟨[12]⟩ (.ops [kO 7 (.mov (kT 12))])
 (.block 1 (.ops [kO 13 (.fldA 2 (kT 3)),
 kO 14 (.load1 (kT 13)),
 kO 15 (.load1 (kT 4)),
 kO 16 (.idxS 1 (kT 14) (kT 15)),
 kO 17 (.load1 (kT 16)),
 kO 18 (.mov (kT 7)),
 kO 19 (.idxS 1 (kT 17) (kT 18)),
 kO 20 (.load1 (kT 19)),
 ⟨none,.store 1 (kT 4) (kT 20),none⟩])))))
 (.seq (.ops [kO 21 (.fldA 1 (kT 3)),
 kO 22 (.load1 (kT 21)),
 kO 23 (.load1 (kT 4)),
 kO 24 (.idxS 1 (kT 22) (kT 23)),
 kO 25 (.load1 (kT 24)),
 kO 6 (.mov (kT 25))])
 .ret)))
theorem enter62 (hl : xs.length ≤ 26) (w : wq E 26 none c62 (frameOf xs) h [] (leaveQ E [.tmp 6] Q)) : CallP E 62 xs h Q :=
  CallP.enterQ (fn := Try.f62) (fn_get Try.func62) (code := Try.f62.body.get rfl) rfl rfl rfl (by kernel_rfl) rfl (fun _ => rfl) hl w
theorem can62 : callable E 62 = true := callable_get Try.func62 rfl rfl
def c63 : C := (.seq (.ops [kO 1 (.box 25 (kT 0)),
 kO 2 (.alloc 25 [.int .i64 0,kN,kN])])
 (.seq (.ops [kO 11 (.loadN 3 (kT 1)),
 kO 12 (.call 92 [.tmp 11]),
 kO 3 (.alloc 22 [kN]),
 ⟨none,.store 1 (kT 3) (kT 12),none⟩])
 (.seq (.ops [kO 13 (.newMap),
 kO 4 (.alloc 114 [.map none]),
 ⟨none,.store 1 (kT 4) (kT 13),none⟩])
 (.seq (.seq (.ops [kO 14 (.load1 (kT 3)),
 kO 15 (.lenS (kT 14)),
 kO 16 (.mov (kC 0))])
 (.block 0 (.loop (.seq (.ops [kO 17 (kA .lss (kT 16) (kT 15))])
 (.seq (.cond (kT 17) .skip
 (.exit 0))
 (.seq (.block 1 (.seq (.ops [kO 18 (.mov (kT 16)),
 kO 19 (.idxS 1 (kT 14) (kT 16)),
 kO 20 (.load1 (kT 19)),
 kO 5 (.mov (kT 18)),
 kO 6 (.mov (kT 20))])
 (.seq (.ops [kO 22 (.load1 (kT 4)),
 kO 23 (.mov (kT 6)),
 kO 24 (.raw (.lookup 114 (kT 22) (kT 23) kE) 115),
 kO 21 (.mov (kT 24)),
 kO 25 (.ext (kT 21) 0),
 kO 26 (.ext (kT 21) 1),
 kO 7 (.mov (kT 25)),
 kO 8 (.mov (kT 26))])
 (.seq (.ops [kO 27 (.mov (kT 8)),
 kO 28 (.not (kT 27))])
 (.cond (kT 28) (.ops [kO 29 (.load1 (kT 4)),
 kO 30 (.mov (kT 6)),
 kO 31 (.mov (kT 5)),
 ⟨none,.raw (.mapUpdate 114 (kT 29) (kT 30) (kT 31)) 0,none⟩])
 .skip)))))
 (.ops [kO 32 (kA .add (kT 16) (kC 1)),
 kO 16 (.mov (kT 32))])))))))
 (.seq (.ops [kO 33 (.func (.func 93) [] [.tmp 1,.tmp 4]),
 kO 9 (.mov (kT 33))])
 (.seq (.ops [kO 34 (.func (.func 94) [] [.tmp 3,.tmp 1,.tmp 4]),
 kO 10 (.mov (kT 34))])
 (.seq (.ops [kO 35 (.fldA 0 (kT 1)),
 kO 36 (.load1 (kT 35)),
 kO 37 (.load1 (kT 3)),
 kO 38 (.idxS 1 (kT 37) (kC 0)),
 kO 39 (.load1 (kT 38)),
 kO 40 (.mov (kT 9)),
 kO 41 (.mov (kT 10)),
 kO 42 (.call 70 [.tmp 36,.tmp 39,.tmp 40,.tmp 41]),
 ⟨none,.store 3 (kT 2) (kT 42),none⟩])
 .ret)))))))
theorem enter63 (hl : xs.length ≤ 43) (w : wq E 43 none c63 (frameOf xs) h [] (leaveQ E [.cell 2 25] Q)) : CallP E 63 xs h Q :=
  CallP.enterQ (fn := Try.f63) (fn_get Try.func63) (code := Try.f63.body.get rfl) rfl rfl rfl (by kernel_rfl) rfl (fun _ => rfl) hl w
theorem can63 : callable E 63 = true := callable_get Try.func63 rfl rfl
def c65 : C := (.seq (.ops [kO 2 (.box 25 (kT 0)),
 kO 3 (.box 25 (kT 1)),
 kO 4 (.mov (kC 0)),
 kO 5 (.mov (.const (.bool kF)))])
 (.scope (.seq (.ops [kO 16 (.aggr [.int .i64 0,.int .i64 0] [(0,1,(kC 0)),(1,1,(kC 0))]),
 kO 6 (.alloc 106 [.int .i64 0,.int .i64 0]),
 ⟨none,.store 2 (kT 6) (kT 16),none⟩])
 (.seq (.ops [kO 17 (.newMap),
 kO 18 (.loadN 2 (kT 6)),
 ⟨none,.raw (.insert 131 (kT 17) (kT 18) (.const (.bool kE))) 0,none⟩,
 kO 19 (.mov (kT 17)),
 kO 7 (.mov (kT 19))])
 (.seq (.ops [kO 20 (.loadN 2 (kT 6)),
 kO 21 (.aggr [.int .i64 0,.int .i64 0,.int .i64 0,.int .i64 0] [(0,2,(kT 20)),(2,1,(.const (.int .i64 (-1))))]),
 kO 22 (.slit 133 1 [.int .i64 0,.int .i64 0,.int .i64 0,.int .i64 0] [(0,4,(kT 21))]),
 kO 8 (.mov (kT 22))])
 (.seq (.ops [kO 9 (.mov (.const (.int .i64 (-1))))])
 (.seq .skip
 (.seq (.seq (.ops [kO 10 (.mov (kC 0))])
 (.block 0 (.loop (.seq (.seq (.ops [kO 23 (.mov (kT 10)),
 kO 24 (.mov (kT 8)),
 kO 25 (.lenS (kT 24)),
 kO 26 (kA .lss (kT 23) (kT 25))])
 (.cond (kT 26) .skip
 (.exit 0)))
 (.seq (.block 1 (.seq (.ops [kO 29 (.mov (kT 8)),
 kO 30 (.mov (kT 10)),
 kO 31 (.idxS 4 (kT 29) (kT 30)),
 kO 32 (.fldA 0 (kT 31)),
 kO 33 (.loadN 2 (kT 32)),
 kO 11 (.alloc 106 [.int .i64 0,.int .i64 0]),
 ⟨none,.store 2 (kT 11) (kT 33),none⟩])
 (.seq (.seq (.ops [kO 34 (.fldA 1 (kT 2)),
 kO 35 (.load1 (kT 34)),
 kO 36 (.fldA 0 (kT 11)),
 kO 37 (.load1 (kT 36)),
 kO 38 (.idxS 1 (kT 35) (kT 37)),
 kO 39 (.load1 (kT 38)),
 kO 40 (.fldA 1 (kT 3)),
 kO 41 (.load1 (kT 40)),
 kO 42 (.fldA 1 (kT 11)),
 kO 43 (.load1 (kT 42)),
 kO 44 (.idxS 1 (kT 41) (kT 43)),
 kO 45 (.load1 (kT 44)),
 kO 46 (kA .neq (kT 39) (kT 45))])
 (.cond (kT 46) (.seq (.ops [kO 47 (.mov (kT 10)),
 kO 9 (.mov (kT 47))])
 (.exit 0))
 .skip))
 (.seq (.ops [kO 48 (.fldA 0 (kT 2)),
 kO 49 (.load1 (kT 48)),
 kO 50 (.mov (kC 0))])
 (.block 2 (.loop (.seq (.ops [kO 51 (kA .lss (kT 50) (kT 49))])
 (.seq (.cond (kT 51) .skip
 (.exit 2))
 (.seq (.block 3 (.seq (.ops [kO 52 (.mov (kT 50)),
 kO 12 (.mov (kT 52))])
 (.seq (.draw [kO 53 (.fldA 2 (kT 2)),
 kO 54 (.load1 (kT 53)),
 kO 55 (.fldA 0 (kT 11)),
 kO 56 (.load1 (kT 55)),
 kO 57 (.idxS 1 (kT 54) (kT 56)),
 kO 58 (.load1 (kT 57)),
 kO 59 (.mov (kT 12)),
 kO 60 (.idxS 1 (kT 58) (kT 59)),
 kO 61 (.load1 (kT 60)),
 kO 62 (.fldA 2 (kT 3)),
 kO 63 (.load1 (kT 62)),
 kO 64 (.fldA 1 (kT 11)),
 kO 65 (.load1 (kT 64)),
 kO 66 (.idxS 1 (kT 63) (kT 65)),
 kO 67 (.load1 (kT 66)),
 kO 68 (.mov (kT 12)),
 kO 69 (.idxS 1 (kT 67) (kT 68)),
 kO 70 (.load1 (kT 69)),
 kO 71 (.aggr [.int .i64 0,.int .i64 0] [(0,1,(kT 61)),(1,1,(kT 70))]),
 kO 13 (.alloc 106 [.int .i64 0,.int .i64 0]),
 ⟨none,.store 2 (kT 13) (kT 71),none⟩]
 [⟨kF,kE,fL3,fL2⟩,
 ⟨kF,kE,fL3,fL2⟩,
 ⟨kF,kE,fL3,fL2⟩,
 ⟨kF,kE,fL3,fL2⟩,
 ⟨kF,kE,fL3,fL2⟩,
 ⟨kF,kE,fL3,fL2⟩,
 ⟨kF,kE,fL3,fL2⟩,
 ⟨kF,kE,fL3,fL2⟩,
 ⟨kF,kE,fL3,fL2⟩,
 ⟨kF,kE,fL3,fL2⟩,
 ⟨kF,kE,fL3,fL2⟩,
 ⟨kF,kE,fL3,fL2⟩,
 ⟨kF,kE,fL3,fL2⟩,
 ⟨kF,kE,fL3,fL2⟩,
 ⟨kF,kE,fL3,fL2⟩,
 ⟨kF,kE,fL3,fL2⟩,
 ⟨kF,kE,fL3,fL2⟩,
 ⟨kF,kE,fL3,fL2⟩,
 ⟨kF,kE,fL3,fL2⟩,
 ⟨kE,kF,fL3,fL2⟩,
 ⟨kE,kF,fL2,[kF,kF,kF,kF,kF,kF,kF,kF,kF,kF,kF,kF,kF,kF,kF,kF,kF,kF,kF,kE,kE]⟩])
 (.seq (.ops [kO 72 (.mov (kT 7)),
 kO 73 (.loadN 2 (kT 13)),
 kO 74 (.raw (.lookup 131 (kT 72) (kT 73) kF) 4),
 kO 75 (.not (kT 74))])
 (.cond (kT 75) (.seq (.ops [kO 76 (.mov (kT 7)),
 kO 77 (.loadN 2 (kT 13)),
 ⟨none,.raw (.mapUpdate 131 (kT 76) (kT 77) (.const (.bool kE))) 0,none⟩])
 (.ops [kO 78 (.mov (kT 8)),
 kO 79 (.loadN 2 (kT 13)),
 kO 80 (.mov (kT 10)),
 kO 81 (.mov (kT 12)),
 kO 82 (.aggr [.int .i64 0,.int .i64 0,.int .i64 0,.int .i64 0] [(0,2,(kT 79)),(2,1,(kT 80)),(3,1,(kT 81))]),
 kO 83 (.slit 133 1 [.int .i64 0,.int .i64 0,.int .i64 0,.int .i64 0] [(0,4,(kT 82))]),
 kO 84 (.append 133 4 32 (kT 78) (kT 83)),
 kO 8 (.mov (kT 84))]))
 .skip)))))
 (.ops [kO 85 (kA .add (kT 50) (kC 1)),
 kO 50 (.mov (kT 85))]))))))))))
 (.ops [kO 27 (.mov (kT 10)),
 kO 28 (kA .add (kT 27) (kC 1)),
 kO 10 (.mov (kT 28))]))))))
 (.seq (.seq (.ops [kO 86 (.mov (kT 9)),
 kO 87 (kA .lss (kT 86) (kC 0))])
 (.cond (kT 87) (.seq (.ops [kO 4 (.mov (kC 0)),
 kO 5 (.mov (.const (.bool kF)))])
 .ret)
 .skip))
 (.seq (.ops [kO 14 (.mov (kC 0))])
 (.seq (.seq (.ops [kO 88 (.mov (kT 9)),
 kO 15 (.mov (kT 88))])
 (.block 4 (.loop (.seq (.seq (.ops [kO 89 (.mov (kT 8)),
 kO 90 (.mov (kT 15)),
 kO 91 (.idxS 4 (kT 89) (kT 90)),
 kO 92 (.fldA 2 (kT 91)),
 kO 93 (.load1 (kT 92)),
 kO 94 (kA .geq (kT 93) (kC 0))])
 (.cond (kT 94) .skip
 (.exit 4)))
 (.seq (.block 5 (.ops [kO 100 (.mov (kT 14)),
 kO 101 (.fldA 0 (kT 2)),
 kO 102 (.load1 (kT 101)),
 kO 103 (kA .mul (kT 100) (kT 102)),
 kO 104 (.mov (kT 8)),
 kO 105 (.mov (kT 15)),
 kO 106 (.idxS 4 (kT 104) (kT 105)),
 kO 107 (.fldA 3 (kT 106)),
 kO 108 (.load1 (kT 107)),
 kO 109 (kA .add (kT 103) (kT 108)),
 kO 14 (.mov (kT 109))]))
 (.ops [kO 95 (.mov (kT 8)),
 kO 96 (.mov (kT 15)),
 kO 97 (.idxS 4 (kT 95) (kT 96)),
 kO 98 (.fldA 2 (kT 97)),
 kO 99 (.load1 (kT 98)),
 kO 15 (.mov (kT 99))]))))))
 (.seq (.ops [kO 110 (.mov (kT 14)),
 kO 4 (.mov (kT 110)),
 kO 5 (.mov (.const (.bool kE)))])
 .ret))))))))))))
theorem enter65 (hl : xs.length ≤ 111) (w : wq E 111 none c65 (frameOf xs) h [] (leaveQ E [.tmp 4,.tmp 5] Q)) : CallP E 65 xs h Q :=
  CallP.enterQ (fn := Try.f65) (fn_get Try.func65) (code := Try.f65.body.get rfl) rfl rfl rfl (by kernel_rfl) rfl (fun _ => rfl) hl w
theorem can65 : callable E 65 = true := callable_get Try.func65 rfl rfl
def c66 : C := (.seq (.ops [kO 1 (.box 25 (kT 0)),
 kO 2 (.alloc 25 [.int .i64 0,kN,kN]),
 kO 3 (.mov (kC 0))])
 (.seq (.ops [kO 5 (.loadN 3 (kT 1)),
 kO 6 (.call 63 [.tmp 5]),
 kO 4 (.alloc 25 [.int .i64 0,kN,kN]),
 ⟨none,.store 3 (kT 4) (kT 6),none⟩])
 (.seq (.seq (.ops [kO 7 (.fldA 1 (kT 4)),
 kO 8 (.load1 (kT 7)),
 kO 9 (.lenS (kT 8)),
 kO 10 (kA .gtr (kT 9) (kC 12))])
 (.cond (kT 10) (.seq (.ops [kO 11 (.aggr [.int .i64 0,kN,kN] []),
 ⟨none,.store 3 (kT 2) (kT 11),none⟩,
 kO 3 (.mov (kC 8))])
 .ret)
 .skip))
 (.seq (.ops [kO 12 (.loadN 3 (kT 4)),
 ⟨none,.store 3 (kT 2) (kT 12),none⟩,
 kO 3 (.mov (kC 0))])
 .ret))))
theorem enter66 (hl : xs.length ≤ 13) (w : wq E 13 none c66 (frameOf xs) h [] (leaveQ E [.cell 2 25,.tmp 3] Q)) : CallP E 66 xs h Q :=
  CallP.enterQ (fn := Try.f66) (fn_get Try.func66) (code := Try.f66.body.get rfl) rfl rfl rfl (by kernel_rfl) rfl (fun _ => rfl) hl w
theorem can66 : callable E 66 = true := callable_get Try.func66 rfl rfl
def c67 : C := (.seq (.ops [kO 3 (.box 25 (kT 0)),
 kO 4 (.box 3 (kT 1)),
 kO 6 (.alloc 25 [.int .i64 0,kN,kN])])
 (.seq (.ops [kO 9 (.func (.func 95) [] [.tmp 3]),
 kO 7 (.mov (kT 9))])
 (.seq (.ops [kO 10 (.func (.func 96) [] [.tmp 4,.tmp 3]),
 kO 8 (.mov (kT 10))])
 (.seq (.ops [kO 11 (.fldA 0 (kT 3)),
 kO 12 (.load1 (kT 11)),
 kO 13 (.mov (kT 2)),
 kO 14 (.aggr [.int .i64 0,.int .i64 0] [(0,1,(kC 0)),(1,1,(kT 13))]),
 kO 15 (.mov (kT 7)),
 kO 16 (.mov (kT 8)),
 kO 17 (.call 97 [.tmp 12,.tmp 14,.tmp 15,.tmp 16]),
 ⟨none,.store 3 (kT 6) (kT 17),none⟩])
 .ret))))
theorem enter67 (hl : xs.length ≤ 18) (w : wq E 18 none c67 (frameOf xs) h [] (leaveQ E [.cell 6 25] Q)) : CallP E 67 xs h Q :=
  CallP.enterQ (fn := Try.f67) (fn_get Try.func67) (code := Try.f67.body.get rfl) rfl rfl rfl (by kernel_rfl) rfl (fun _ => rfl) hl w
theorem can67 : callable E 67 = true := callable_get Try.func67 rfl rfl
def c70 : C := (.seq (.ops [kO 8 (.alloc 25 [.int .i64 0,kN,kN])])
 (.seq (.ops [kO 18 (.mov (kT 0)),
 kO 19 (.aggr [.int .i64 0,kN,kN] [(0,1,(kT 18))]),
 kO 9 (.alloc 25 [.int .i64 0,kN,kN]),
 ⟨none,.store 3 (kT 9) (kT 19),none⟩])
 (.seq (.ops [kO 20 (.newMap),
 kO 21 (.mov (kT 1)),
 ⟨none,.raw (.insert 114 (kT 20) (kT 21) (kC 0)) 0,none⟩,
 kO 22 (.mov (kT 20)),
 kO 10 (.mov (kT 22))])
 (.seq (.ops [kO 23 (.mov (kT 1)),
 kO 24 (.slit 3 1 [.int .i64 0] [(0,1,(kT 23))]),
 kO 11 (.mov (kT 24))])
 (.seq (.seq (.ops [kO 12 (.mov (kC 0))])
 (.block 0 (.loop (.seq (.seq (.ops [kO 25 (.mov (kT 12)),
 kO 26 (.mov (kT 11)),
 kO 27 (.lenS (kT 26)),
 kO 28 (kA .lss (kT 25) (kT 27))])
 (.cond (kT 28) .skip
 (.exit 0)))
 (.seq (.block 1 (.seq (.draw [kO 31 (.fldA 1 (kT 9)),
 kO 32 (.load1 (kT 31)),
 kO 33 (.mov (kT 2)),
 kO 34 (.mov (kT 11)),
 kO 35 (.mov (kT 12)),
 kO 36 (.idxS 1 (kT 34) (kT 35)),
 kO 37 (.load1 (kT 36)),
 kO 38 (.callv (kT 33) [.tmp 37]),
 kO 39 (.slit 3 1 [.int .i64 0] [(0,1,(kT 38))]),
 kO 40 (.append 3 1 8 (kT 32) (kT 39)),
 kO 41 (.fldA 1 (kT 9)),
 ⟨none,.store 1 (kT 41) (kT 40),none⟩]
 [⟨kF,kE,fL0,fL9⟩,
 ⟨kF,kE,fL0,fL9⟩,
 ⟨kF,kF,fL0,fL0⟩,
 ⟨kF,kF,fL0,fL0⟩,
 ⟨kF,kF,fL0,fL0⟩,
 ⟨kF,kF,fL0,fL0⟩,
 ⟨kF,kF,fL0,fL0⟩,
 ⟨kE,kF,fL0,fL16⟩,
 ⟨kE,kF,fL16,fL9⟩,
 ⟨kE,kF,fL9,fL10⟩,
 ⟨kF,kF,fL10,fL10⟩,
 ⟨kE,kF,fL10,fL23⟩])
 (.seq (.ops [kO 42 (.mov (kT 0)),
 kO 43 (.make 3 [.int .i64 0] 8 (kT 42) (kT 42)),
 kO 13 (.mov (kT 43))])
 (.seq (.seq (.ops [kO 44 (.mov (kT 13)),
 kO 45 (.lenS (kT 44)),
 kO 46 (.mov (kC 0))])
 (.block 2 (.loop (.seq (.ops [kO 47 (kA .lss (kT 46) (kT 45))])
 (.seq (.cond (kT 47) .skip
 (.exit 2))
 (.seq (.block 3 (.seq (.ops [kO 48 (.mov (kT 46)),
 kO 14 (.mov (kT 48))])
 (.seq (.ops [kO 49 (.mov (kT 3)),
 kO 50 (.mov (kT 11)),
 kO 51 (.mov (kT 12)),
 kO 52 (.idxS 1 (kT 50) (kT 51)),
 kO 53 (.load1 (kT 52)),
 kO 54 (.mov (kT 14)),
 kO 55 (.callv (kT 49) [.tmp 53,.tmp 54]),
 kO 15 (.mov (kT 55))])
 (.seq (.seq (.ops [kO 57 (.mov (kT 10)),
 kO 58 (.mov (kT 15)),
 kO 59 (.raw (.lookup 114 (kT 57) (kT 58) kE) 115),
 kO 56 (.mov (kT 59)),
 kO 60 (.ext (kT 56) 0),
 kO 61 (.ext (kT 56) 1),
 kO 16 (.mov (kT 60)),
 kO 17 (.mov (kT 61))])
 (.seq (.ops [kO 62 (.mov (kT 17)),
 kO 63 (.not (kT 62))])
 (.cond (kT 63) (.seq (.ops [kO 64 (.mov (kT 10)),
 kO 65 (.mov (kT 15)),
 kO 66 (.mov (kT 11)),
 kO 67 (.lenS (kT 66)),
 ⟨none,.raw (.mapUpdate 114 (kT 64) (kT 65) (kT 67)) 0,none⟩])
 (.ops [kO 68 (.mov (kT 11)),
 kO 69 (.mov (kT 15)),
 kO 70 (.slit 3 1 [.int .i64 0] [(0,1,(kT 69))]),
 kO 71 (.append 3 1 8 (kT 68) (kT 70)),
 kO 11 (.mov (kT 71))]))
 .skip)))
 (.ops [kO 72 (.mov (kT 13)),
 kO 73 (.mov (kT 14)),
 kO 74 (.mov (kT 10)),
 kO 75 (.mov (kT 15)),
 kO 76 (.raw (.lookup 114 (kT 74) (kT 75) kF) 3),
 kO 77 (.idxS 1 (kT 72) (kT 73)),
 ⟨none,.store 1 (kT 77) (kT 76),none⟩])))))
 (.ops [kO 78 (kA .add (kT 46) (kC 1)),
 kO 46 (.mov (kT 78))])))))))
 (.ops [kO 79 (.fldA 2 (kT 9)),
 kO 80 (.load1 (kT 79)),
 kO 81 (.mov (kT 13)),
 kO 82 (.slit 22 1 [kN] [(0,1,(kT 81))]),
 kO 83 (.append 22 1 24 (kT 80) (kT 82)),
 kO 84 (.fldA 2 (kT 9)),
 ⟨none,.store 1 (kT 84) (kT 83),none⟩])))))
 (.ops [kO 29 (.mov (kT 12)),
 kO 30 (kA .add (kT 29) (kC 1)),
 kO 12 (.mov (kT 30))]))))))
 (.seq (.ops [kO 85 (.loadN 3 (kT 9)),
 ⟨none,.store 3 (kT 8) (kT 85),none⟩])
 .ret))))))
theorem enter70 (hl : xs.length ≤ 86) (w : wq E 86 none c70 (frameOf xs) h [] (leaveQ E [.cell 8 25] Q)) : CallP E 70 xs h Q :=
  CallP.enterQ (fn := Try.f70) (fn_get Try.func70) (code := Try.f70.body.get rfl) rfl rfl rfl (by kernel_rfl) rfl (fun _ => rfl) hl w
theorem can70 : callable E 70 = true := callable_get Try.func70 rfl rfl
def c77 : C := (.seq (.ops [kO 3 (.box 25 (kT 0)),
 kO 6 (.mov (.const (.bool kF)))])
 (.seq (.draw [kO 10 (.loadN 3 (kT 3)),
 kO 11 (.mov (kT 1)),
 kO 12 (.call 67 [.tmp 10,(kC 1),.tmp 11]),
 kO 13 (.loadN 3 (kT 3)),
 kO 14 (.mov (kT 1)),
 kO 15 (.mov (kT 2)),
 kO 16 (kA .add (kT 14) (kT 15)),
 kO 17 (.call 67 [.tmp 13,(kC 1),.tmp 16]),
 kO 18 (.call 65 [.tmp 12,.tmp 17]),
 kO 9 (.mov (kT 18)),
 kO 19 (.ext (kT 9) 0),
 kO 20 (.ext (kT 9) 1),
 kO 7 (.mov (kT 19)),
 kO 8 (.mov (kT 20))]
 [⟨kF,kF,fL13,fL13⟩,
 ⟨kF,kF,fL13,fL13⟩,
 ⟨kE,kF,fL13,fL17⟩,
 ⟨kF,kE,fL13,fL17⟩,
 ⟨kF,kE,fL13,fL17⟩,
 ⟨kF,kE,fL13,fL17⟩,
 ⟨kF,kE,fL13,fL17⟩,
 ⟨kE,kF,fL17,fL26⟩,
 ⟨kE,kF,fL26,fL11⟩,
 ⟨kF,kF,fL11,fL11⟩,
 ⟨kF,kF,fL11,fL11⟩,
 ⟨kF,kF,fL11,fL11⟩,
 ⟨kF,kF,fL11,fL11⟩,
 ⟨kF,kF,fL11,fL11⟩])
 (.seq (.ops [kO 21 (.mov (kT 8)),
 kO 22 (.not (kT 21)),
 kO 6 (.mov (kT 22))])
 .ret)))
theorem enter77 (hl : xs.length ≤ 23) (w : wq E 23 none c77 (frameOf xs) h [] (leaveQ E [.tmp 6] Q)) : CallP E 77 xs h Q :=
  CallP.enterQ (fn := Try.f77) (fn_get Try.func77) (code := Try.f77.body.get rfl) rfl rfl rfl (by kernel_rfl) rfl (fun _ => rfl) hl w
theorem can77 : callable E 77 = true := callable_get Try.func77 rfl rfl
def c78 : C := (.seq (.ops [kO 2 (.box 25 (kT 0)),
 kO 4 (.mov (kC 0))])
 (.seq (.ops [kO 5 (.mov (kC 60))])
 (.seq (.block 0 (.loop (.seq (.seq (.draw [kO 6 (.mov (kT 5)),
 kO 7 (kA .gtr (kT 6) (kC 0)),
 kO 8 (.mov (kT 7)),
 ⟨some 9,.loadN 3 (kT 2),(some (8,kE))⟩,
 ⟨some 10,.mov (kT 5),(some (8,kE))⟩,
 ⟨some 11,kA .sub (kT 10) (kC 1),(some (8,kE))⟩,
 ⟨some 12,.call 62 [.tmp 9,(kC 0),.tmp 11],(some (8,kE))⟩,
 ⟨some 13,.loadN 3 (kT 2),(some (8,kE))⟩,
 ⟨some 14,.mov (kT 5),(some (8,kE))⟩,
 ⟨some 15,kA .sub (kT 14) (kC 1),(some (8,kE))⟩,
 ⟨some 16,.mov (kT 1),(some (8,kE))⟩,
 ⟨some 17,kA .add (kT 15) (kT 16),(some (8,kE))⟩,
 ⟨some 18,.call 62 [.tmp 13,(kC 0),.tmp 17],(some (8,kE))⟩,
 ⟨some 19,kA .eql (kT 12) (kT 18),(some (8,kE))⟩,
 kO 20 (.pick (kT 8) (kT 19) (.const (.bool kF)))]
 [⟨kF,kF,fL5,fL5⟩,
 ⟨kF,kF,fL5,fL5⟩,
 ⟨kF,kF,fL5,fL5⟩,
 ⟨kF,kF,fL5,fL5⟩,
 ⟨kF,kF,fL5,fL5⟩,
 ⟨kF,kF,fL5,fL5⟩,
 ⟨kE,kF,fL5,fL14⟩,
 ⟨kF,kE,fL5,fL14⟩,
 ⟨kF,kE,fL5,fL14⟩,
 ⟨kF,kE,fL5,fL14⟩,
 ⟨kF,kE,fL5,fL14⟩,
 ⟨kF,kE,fL5,fL14⟩,
 ⟨kE,kF,fL14,fL19⟩,
 ⟨kF,kF,fL19,fL19⟩,
 ⟨kF,kF,fL19,fL19⟩])
 (.cond (kT 20) .skip
 (.exit 0)))
 (.block 1 (.ops [kO 21 (.mov (kT 5)),
 kO 22 (kA .sub (kT 21) (kC 1)),
 kO 5 (.mov (kT 22))])))))
 (.seq (.ops [kO 23 (.mov (kT 5)),
 kO 4 (.mov (kT 23))])
 .ret))))
theorem enter78 (hl : xs.length ≤ 24) (w : wq E 24 none c78 (frameOf xs) h [] (leaveQ E [.tmp 4] Q)) : CallP E 78 xs h Q :=
  CallP.enterQ (fn := Try.f78) (fn_get Try.func78) (code := Try.f78.body.get rfl) rfl rfl rfl (by kernel_rfl) rfl (fun _ => rfl) hl w
theorem can78 : callable E 78 = true := callable_get Try.func78 rfl rfl
def c79 : C := (.seq (.ops [kO 2 (.mov (.const (.bool kF)))])
 (.seq (.ops [kO 3 (.mov (kT 0)),
 kO 4 (kA .geq (kT 3) (kC 0)),
 kO 5 (.mov (kT 4)),
 ⟨some 6,.mov (kT 0),(some (5,kE))⟩,
 ⟨some 7,kA .lss (kT 6) (kC 10),(some (5,kE))⟩,
 kO 8 (.pick (kT 5) (kT 7) (.const (.bool kF))),
 kO 2 (.mov (kT 8))])
 .ret))
theorem enter79 (hl : xs.length ≤ 9) (w : wq E 9 none c79 (frameOf xs) h [] (leaveQ E [.tmp 2] Q)) : CallP E 79 xs h Q :=
  CallP.enterQ (fn := Try.f79) (fn_get Try.func79) (code := Try.f79.body.get rfl) rfl rfl rfl (by kernel_rfl) rfl (fun _ => rfl) hl w
theorem can79 : callable E 79 = true := callable_get Try.func79 rfl rfl
def c80 : C := (.seq (.ops [kO 2 (.box 25 (kT 0)),
 kO 4 (.mov (kC 0)),
 kO 5 (.mov (.const (.bool kF)))])
 (.seq (.ops [kO 11 (.fldA 1 (kT 2)),
 kO 12 (.load1 (kT 11)),
 kO 13 (.lenS (kT 12)),
 kO 14 (.make 2 [.int .i64 0] 8 (kT 13) (kT 13)),
 kO 6 (.mov (kT 14))])
 (.seq (.seq (.ops [kO 15 (.fldA 1 (kT 2)),
 kO 16 (.load1 (kT 15)),
 kO 17 (.lenS (kT 16)),
 kO 18 (.mov (kC 0))])
 (.block 0 (.loop (.seq (.ops [kO 19 (kA .lss (kT 18) (kT 17))])
 (.seq (.cond (kT 19) .skip
 (.exit 0))
 (.seq (.block 1 (.seq (.ops [kO 20 (.mov (kT 18)),
 kO 21 (.idxS 1 (kT 16) (kT 18)),
 kO 22 (.load1 (kT 21)),
 kO 7 (.mov (kT 20)),
 kO 8 (.mov (kT 22))])
 (.seq (.ops [kO 23 (.mov (kT 6)),
 kO 24 (.mov (kT 7)),
 kO 25 (.idxS 1 (kT 23) (kT 24)),
 ⟨none,.store 1 (kT 25) (.const (.int .i64 (-1))),none⟩])
 (.seq (.ops [kO 26 (.mov (kT 8)),
 kO 27 (.mov (kT 1)),
 kO 28 (kA .eql (kT 26) (kT 27))])
 (.cond (kT 28) (.ops [kO 29 (.mov (kT 6)),
 kO 30 (.mov (kT 7)),
 kO 31 (.idxS 1 (kT 29) (kT 30)),
 ⟨none,.store 1 (kT 31) (kC 0),none⟩])
 .skip)))))
 (.ops [kO 32 (kA .add (kT 18) (kC 1)),
 kO 18 (.mov (kT 32))])))))))
 (.seq (.seq (.ops [kO 33 (.fldA 1 (kT 2)),
 kO 34 (.load1 (kT 33)),
 kO 35 (.lenS (kT 34)),
 kO 36 (.mov (kC 0))])
 (.block 2 (.loop (.seq (.ops [kO 37 (kA .lss (kT 36) (kT 35))])
 (.seq (.cond (kT 37) .skip
 (.exit 2))
 (.seq (.block 3 (.seq (.ops [kO 38 (.fldA 1 (kT 2)),
 kO 39 (.load1 (kT 38)),
 kO 40 (.lenS (kT 39)),
 kO 41 (.make 2 [.int .i64 0] 8 (kT 40) (kT 40)),
 kO 9 (.mov (kT 41))])
 (.seq (.seq (.ops [kO 42 (.fldA 1 (kT 2)),
 kO 43 (.load1 (kT 42)),
 kO 44 (.lenS (kT 43)),
 kO 45 (.mov (kC 0))])
 (.block 4 (.loop (.seq (.ops [kO 46 (kA .lss (kT 45) (kT 44))])
 (.seq (.cond (kT 46) .skip
 (.exit 4))
 (.seq (.block 5 (.seq (.ops [kO 47 (.mov (kT 45)),
 kO 10 (.mov (kT 47))])
 (.ops [kO 48 (.mov (kT 9)),
 kO 49 (.mov (kT 10)),
 kO 50 (.loadN 3 (kT 2)),
 kO 51 (.mov (kT 6)),
 kO 52 (.mov (kT 10)),
 kO 53 (.call 98 [.tmp 50,.tmp 51,.tmp 52]),
 kO 54 (.idxS 1 (kT 48) (kT 49)),
 ⟨none,.store 1 (kT 54) (kT 53),none⟩])))
 (.ops [kO 55 (kA .add (kT 45) (kC 1)),
 kO 45 (.mov (kT 55))])))))))
 (.ops [kO 56 (.mov (kT 9)),
 kO 6 (.mov (kT 56))]))))
 (.ops [kO 57 (kA .add (kT 36) (kC 1)),
 kO 36 (.mov (kT 57))])))))))
 (.seq (.ops [kO 58 (.mov (kT 6)),
 kO 59 (.idxS 1 (kT 58) (kC 0)),
 kO 60 (.load1 (kT 59)),
 kO 61 (.raw (.call ⟨.builtin .max,⟨[.tmp 60,(kC 0)]⟩,⟨[2,2]⟩⟩) 2),
 kO 62 (.mov (kT 6)),
 kO 63 (.idxS 1 (kT 62) (kC 0)),
 kO 64 (.load1 (kT 63)),
 kO 65 (kA .geq (kT 64) (kC 0)),
 kO 4 (.mov (kT 61)),
 kO 5 (.mov (kT 65))])
 .ret)))))
theorem enter80 (hl : xs.length ≤ 66) (w : wq E 66 none c80 (frameOf xs) h [] (leaveQ E [.tmp 4,.tmp 5] Q)) : CallP E 80 xs h Q :=
  CallP.enterQ (fn := Try.f80) (fn_get Try.func80) (code := Try.f80.body.get rfl) rfl rfl rfl (by kernel_rfl) rfl (fun _ => rfl) hl w
theorem can80 : callable E 80 = true := callable_get Try.func80 rfl rfl
def c84 : C := (.seq (.ops [kO 2 (.mov (.const kN))])
 (.seq (.ops [kO 3 (.mov (.const kN))])
 (.seq (.seq (.ops [kO 6 (.mov (kT 0)),
 kO 7 (.lenS (kT 6)),
 kO 8 (.mov (kC 0))])
 (.block 0 (.loop (.seq (.ops [kO 9 (kA .lss (kT 8) (kT 7))])
 (.seq (.cond (kT 9) .skip
 (.exit 0))
 (.seq (.block 1 (.seq (.ops [kO 10 (.idxS 1 (kT 6) (kT 8)),
 kO 11 (.load1 (kT 10)),
 kO 5 (.mov (kT 11))])
 (.ops [kO 12 (.mov (kT 3)),
 kO 13 (.mov (kT 5)),
 kO 14 (.append 3 1 8 (kT 12) (kT 13)),
 kO 3 (.mov (kT 14))])))
 (.ops [kO 15 (kA .add (kT 8) (kC 1)),
 kO 8 (.mov (kT 15))])))))))
 (.seq (.ops [kO 16 (.mov (kT 3)),
 kO 2 (.mov (kT 16))])
 .ret))))
theorem enter84 (hl : xs.length ≤ 17) (w : wq E 17 none c84 (frameOf xs) h [] (leaveQ E [.tmp 2] Q)) : CallP E 84 xs h Q :=
  CallP.enterQ (fn := Try.f84) (fn_get Try.func84) (code := Try.f84.body.get rfl) rfl rfl rfl (by kernel_rfl) rfl (fun _ => rfl) hl w
theorem can84 : callable E 84 = true := callable_get Try.func84 rfl rfl
def c85 : C := (.seq (.ops [kO 2 (.box 121 (kT 0)),
 kO 3 (.box 3 (kT 1)),
 kO 4 (.alloc 25 [.int .i64 0,kN,kN])])
 (.seq (.ops [kO 7 (.func (.func 100) [] [.tmp 2]),
 kO 5 (.mov (kT 7))])
 (.seq (.ops [kO 8 (.func (.func 101) [] [.tmp 2,.tmp 3]),
 kO 6 (.mov (kT 8))])
 (.seq (.draw [kO 9 (.load1 (kT 3)),
 kO 10 (.loadN 2 (kT 2)),
 kO 11 (.call 102 [.tmp 10,(kC 1)]),
 kO 12 (.aggr [.int .i64 0,.int .i64 0] [(0,1,(kT 11)),(1,1,(kC 0))]),
 kO 13 (.mov (kT 5)),
 kO 14 (.mov (kT 6)),
 kO 15 (.call 103 [.tmp 9,.tmp 12,.tmp 13,.tmp 14]),
 ⟨none,.store 3 (kT 4) (kT 15),none⟩]
 [⟨kF,kE,fL1,fL15⟩,
 ⟨kF,kF,fL1,fL1⟩,
 ⟨kE,kF,fL1,fL15⟩,
 ⟨kF,kF,fL15,fL15⟩,
 ⟨kF,kE,fL1,fL15⟩,
 ⟨kF,kE,fL1,fL15⟩,
 ⟨kE,kF,fL15,fL27⟩,
 ⟨kE,kF,fL27,[kF,kF,kE,kF,kF,kF,kE,kE]⟩])
 .ret))))
theorem enter85 (hl : xs.length ≤ 16) (w : wq E 16 none c85 (frameOf xs) h [] (leaveQ E [.cell 4 25] Q)) : CallP E 85 xs h Q :=
  CallP.enterQ (fn := Try.f85) (fn_get Try.func85) (code := Try.f85.body.get rfl) rfl rfl rfl (by kernel_rfl) rfl (fun _ => rfl) hl w
theorem can85 : callable E 85 = true := callable_get Try.func85 rfl rfl
def c87 : C := (.seq (.ops [kO 4 (.box 26 (kT 0)),
 kO 8 (.mov (kC 0))])
 (.seq (.ops [kO 17 (.fldA 1 (kT 4)),
 kO 18 (.load1 (kT 17)),
 kO 19 (.lenS (kT 18)),
 kO 9 (.mov (kT 19))])
 (.seq (.ops [kO 20 (.mov (kT 9)),
 kO 21 (.make 4 [.bool kF] 1 (kT 20) (kT 20)),
 kO 10 (.mov (kT 21))])
 (.seq (.seq (.ops [kO 11 (.mov (kC 0))])
 (.block 0 (.loop (.seq (.seq (.ops [kO 22 (.mov (kT 11)),
 kO 23 (.mov (kT 9)),
 kO 24 (kA .lss (kT 22) (kT 23))])
 (.cond (kT 24) .skip
 (.exit 0)))
 (.seq (.block 1 (.ops [kO 27 (.mov (kT 10)),
 kO 28 (.mov (kT 11)),
 kO 29 (.fldA 1 (kT 4)),
 kO 30 (.load1 (kT 29)),
 kO 31 (.mov (kT 11)),
 kO 32 (.idxS 1 (kT 30) (kT 31)),
 kO 33 (.load1 (kT 32)),
 kO 34 (.mov (kT 3)),
 kO 35 (kA .eql (kT 33) (kT 34)),
 kO 36 (.idxS 1 (kT 27) (kT 28)),
 ⟨none,.store 1 (kT 36) (kT 35),none⟩]))
 (.ops [kO 25 (.mov (kT 11)),
 kO 26 (kA .add (kT 25) (kC 1)),
 kO 11 (.mov (kT 26))]))))))
 (.seq (.ops [kO 12 (.mov (kC 0))])
 (.seq (.block 2 (.loop (.seq (.seq (.ops [kO 37 (.mov (kT 2)),
 kO 38 (kA .gtr (kT 37) (kC 0))])
 (.cond (kT 38) .skip
 (.exit 2)))
 (.seq (.block 3 (.seq (.ops [kO 13 (.mov (kC 0))])
 (.block 4 (.loop (.seq (.seq (.ops [kO 41 (.mov (kT 13)),
 kO 42 (.fldA 0 (kT 4)),
 kO 43 (.load1 (kT 42)),
 kO 44 (kA .lss (kT 41) (kT 43))])
 (.cond (kT 44) .skip
 (.exit 4)))
 (.seq (.block 5 (.seq (.ops [kO 47 (.mov (kT 9)),
 kO 48 (.make 4 [.bool kF] 1 (kT 47) (kT 47)),
 kO 14 (.mov (kT 48))])
 (.seq (.ops [kO 15 (.mov (.const (.bool kF)))])
 (.seq (.seq (.ops [kO 16 (.mov (kC 0))])
 (.block 6 (.loop (.seq (.seq (.ops [kO 49 (.mov (kT 16)),
 kO 50 (.mov (kT 9)),
 kO 51 (kA .lss (kT 49) (kT 50))])
 (.cond (kT 51) .skip
 (.exit 6)))
 (.seq (.block 7 (.seq (.ops [kO 54 (.mov (kT 14)),
 kO 55 (.mov (kT 16)),
 kO 56 (.mov (kT 10)),
 kO 57 (.fldA 2 (kT 4)),
 kO 58 (.load1 (kT 57)),
 kO 59 (.mov (kT 16)),
 kO 60 (.idxS 1 (kT 58) (kT 59)),
 kO 61 (.load1 (kT 60)),
 kO 62 (.mov (kT 13)),
 kO 63 (.idxS 1 (kT 61) (kT 62)),
 kO 64 (.load1 (kT 63)),
 kO 65 (.idxS 1 (kT 56) (kT 64)),
 kO 66 (.load1 (kT 65)),
 kO 67 (.idxS 1 (kT 54) (kT 55)),
 ⟨none,.store 1 (kT 67) (kT 66),none⟩])
 (.ops [kO 68 (.mov (kT 15)),
 kO 69 (.mov (kT 68)),
 ⟨some 70,.mov (kT 14),(some (69,kF))⟩,
 ⟨some 71,.mov (kT 16),(some (69,kF))⟩,
 ⟨some 72,.idxS 1 (kT 70) (kT 71),(some (69,kF))⟩,
 ⟨some 73,.load1 (kT 72),(some (69,kF))⟩,
 ⟨some 74,.mov (kT 73),(some (69,kF))⟩,
 ⟨some 75,.mov (kT 1),(some (74,kE))⟩,
 ⟨some 76,.mov (kT 2),(some (74,kE))⟩,
 ⟨some 77,kA .sub (kT 76) (kC 1),(some (74,kE))⟩,
 ⟨some 78,.idxS 1 (kT 75) (kT 77),(some (74,kE))⟩,
 ⟨some 79,.load1 (kT 78),(some (74,kE))⟩,
 ⟨some 80,.mov (kT 16),(some (74,kE))⟩,
 ⟨some 81,.idxS 1 (kT 79) (kT 80),(some (74,kE))⟩,
 ⟨some 82,.load1 (kT 81),(some (74,kE))⟩,
 ⟨some 83,.pick (kT 74) (kT 82) (.const (.bool kF)),(some (69,kF))⟩,
 kO 84 (.pick (kT 69) (.const (.bool kE)) (kT 83)),
 kO 15 (.mov (kT 84))])))
 (.ops [kO 52 (.mov (kT 16)),
 kO 53 (kA .add (kT 52) (kC 1)),
 kO 16 (.mov (kT 53))]))))))
 (.seq (.ops [kO 85 (.mov (kT 15))])
 (.cond (kT 85) (.seq (.ops [kO 86 (.mov (kT 12)),
 kO 87 (.fldA 0 (kT 4)),
 kO 88 (.load1 (kT 87)),
 kO 89 (kA .mul (kT 86) (kT 88)),
 kO 90 (.mov (kT 13)),
 kO 91 (kA .add (kT 89) (kT 90)),
 kO 12 (.mov (kT 91))])
 (.seq (.ops [kO 92 (.mov (kT 14)),
 kO 10 (.mov (kT 92))])
 (.exit 4)))
 .skip))))))
 (.ops [kO 45 (.mov (kT 13)),
 kO 46 (kA .add (kT 45) (kC 1)),
 kO 13 (.mov (kT 46))])))))))
 (.ops [kO 39 (.mov (kT 2)),
 kO 40 (kA .sub (kT 39) (kC 1)),
 kO 2 (.mov (kT 40))])))))
 (.seq (.ops [kO 93 (.mov (kT 12)),
 kO 8 (.mov (kT 93))])
 .ret)))))))
theorem enter87 (hl : xs.length ≤ 94) (w : wq E 94 none c87 (frameOf xs) h [] (leaveQ E [.tmp 8] Q)) : CallP E 87 xs h Q :=
  CallP.enterQ (fn := Try.f87) (fn_get Try.func87) (code := Try.f87.body.get rfl) rfl rfl rfl (by kernel_rfl) rfl (fun _ => rfl) hl w
theorem can87 : callable E 87 = true := callable_get Try.func87 rfl rfl
def c89 : C := (.seq (.ops [kO 2 (.mov (.const (.bool kF)))])
 (.seq (.ops [kO 3 (.mov (kT 0)),
 kO 4 (.call 79 [.tmp 3]),
 kO 5 (.not (kT 4)),
 kO 2 (.mov (kT 5))])
 .ret))
theorem enter89 (hl : xs.length ≤ 6) (w : wq E 6 none c89 (frameOf xs) h [] (leaveQ E [.tmp 2] Q)) : CallP E 89 xs h Q :=
  CallP.enterQ (fn := Try.f89) (fn_get Try.func89) (code := Try.f89.body.get rfl) rfl rfl rfl (by kernel_rfl) rfl (fun _ => rfl) hl w
theorem can89 : callable E 89 = true := callable_get Try.func89 rfl rfl
def c90 : C := (.seq (.ops [kO 4 (.mov (kC 0))])
 (.seq (.seq (.ops [kO 6 (.mov (kT 0)),
 kO 7 (.lenS (kT 6)),
 kO 8 (.mov (kC 0))])
 (.block 0 (.loop (.seq (.ops [kO 9 (kA .lss (kT 8) (kT 7))])
 (.seq (.cond (kT 9) .skip
 (.exit 0))
 (.seq (.block 1 (.seq (.ops [kO 10 (.mov (kT 8)),
 kO 5 (.mov (kT 10))])
 (.seq (.ops [kO 11 (.mov (kT 1)),
 kO 12 (.mov (kT 0)),
 kO 13 (.mov (kT 5)),
 kO 14 (.idxS 1 (kT 12) (kT 13)),
 kO 15 (.load1 (kT 14)),
 kO 16 (.callv (kT 11) [.tmp 15])])
 (.cond (kT 16) (.seq (.ops [kO 17 (.mov (kT 5)),
 kO 4 (.mov (kT 17))])
 .ret)
 .skip))))
 (.ops [kO 18 (kA .add (kT 8) (kC 1)),
 kO 8 (.mov (kT 18))])))))))
 (.seq (.ops [kO 4 (.mov (.const (.int .i64 (-1))))])
 .ret)))
theorem enter90 (hl : xs.length ≤ 19) (w : wq E 19 none c90 (frameOf xs) h [] (leaveQ E [.tmp 4] Q)) : CallP E 90 xs h Q :=
  CallP.enterQ (fn := Try.f90) (fn_get Try.func90) (code := Try.f90.body.get rfl) rfl rfl rfl (by kernel_rfl) rfl (fun _ => rfl) hl w
theorem can90 : callable E 90 = true := callable_get Try.func90 rfl rfl
def c91 : C := (.seq (.ops [kO 2 (.box 2 (kT 0)),
 kO 3 (.box 3 (kT 1)),
 kO 4 (.mov (.const .nilFunc))])
 (.seq (.ops [kO 5 (.func (.func 104) [] [.tmp 2,.tmp 3]),
 kO 4 (.mov (kT 5))])
 .ret))
theorem enter91 (hl : xs.length ≤ 6) (w : wq E 6 none c91 (frameOf xs) h [] (leaveQ E [.tmp 4] Q)) : CallP E 91 xs h Q :=
  CallP.enterQ (fn := Try.f91) (fn_get Try.func91) (code := Try.f91.body.get rfl) rfl rfl rfl (by kernel_rfl) rfl (fun _ => rfl) hl w
theorem can91 : callable E 91 = true := callable_get Try.func91 rfl rfl
def c92 : C := (.seq (.ops [kO 1 (.box 25 (kT 0)),
 kO 2 (.mov (.const kN))])
 (.seq (.ops [kO 8 (.loadN 3 (kT 1)),
 kO 9 (.fldA 1 (kT 1)),
 kO 10 (.load1 (kT 9)),
 kO 11 (.call 105 [.tmp 8,.tmp 10]),
 kO 7 (.mov (kT 11)),
 kO 12 (.ext (kT 7) 0),
 kO 13 (.ext (kT 7) 1),
 kO 3 (.mov (kT 12)),
 kO 4 (.mov (kT 13))])
 (.block 0 (.loop (.block 1 (.seq (.ops [kO 15 (.loadN 3 (kT 1)),
 kO 16 (.mov (kT 3)),
 kO 17 (.call 105 [.tmp 15,.tmp 16]),
 kO 14 (.mov (kT 17)),
 kO 18 (.ext (kT 14) 0),
 kO 19 (.ext (kT 14) 1),
 kO 5 (.mov (kT 18)),
 kO 6 (.mov (kT 19))])
 (.seq (.seq (.ops [kO 20 (.mov (kT 6)),
 kO 21 (.mov (kT 4)),
 kO 22 (kA .eql (kT 20) (kT 21))])
 (.cond (kT 22) (.seq (.ops [kO 23 (.mov (kT 3)),
 kO 2 (.mov (kT 23))])
 .ret)
 .skip))
 (.ops [kO 24 (.mov (kT 5)),
 kO 25 (.mov (kT 6)),
 kO 3 (.mov (kT 24)),
 kO 4 (.mov (kT 25))]))))))))
theorem enter92 (hl : xs.length ≤ 26) (w : wq E 26 none c92 (frameOf xs) h [] (leaveQ E [.tmp 2] Q)) : CallP E 92 xs h Q :=
  CallP.enterQ (fn := Try.f92) (fn_get Try.func92) (code := Try.f92.body.get rfl) rfl rfl rfl (by kernel_rfl) rfl (fun _ => rfl) hl w
theorem can92 : callable E 92 = true := callable_get Try.func92 rfl rfl
def c93 : C := (.seq (.ops [kO 4 (.mov (kC 0))])
 (.seq (.ops [kO 5 (.fldA 1 (kT 1)),
 kO 6 (.load1 (kT 5)),
 kO 7 (.load1 (kT 2)),
 kO 8 (.mov (kT 0)),
 kO 9 (.raw (.lookup 114 (kT 7) (kT 8) kF) 3),
 kO 10 (.idxS 1 (kT 6) (kT 9)),
 kO 11 (.load1 (kT 10)),
 kO 4 (.mov (kT 11))])
 .ret))
theorem enter93 (hl : xs.length ≤ 12) (w : wq E 12 none c93 (frameOf xs) h [] (leaveQ E [.tmp 4] Q)) : CallP E 93 xs h Q :=
  CallP.enterQ (fn := Try.f93) (fn_get Try.func93) (code := Try.f93.body.get rfl) rfl rfl rfl (by kernel_rfl) rfl (fun _ => rfl) hl w
theorem can93 : callable E 93 = true := callable_get Try.func93 rfl rfl
def c94 : C := (.seq (.ops [kO 7 (.mov (kC 0))])
 (.seq (.ops [kO 8 (.load1 (kT 2)),
 kO 9 (.fldA 2 (kT 3)),
 kO 10 (.load1 (kT 9)),
 kO 11 (.load1 (kT 4)),
 kO 12 (.mov (kT 0)),
 kO 13 (.raw (.lookup 114 (kT 11) (kT 12) kF) 3),
 kO 14 (.idxS 1 (kT 10) (kT 13)),
 kO 15 (.load1 (kT 14)),
 kO 16 (.mov (kT 1)),
 kO 17 (.idxS 1 (kT 15) (kT 16)),
 kO 18 (.load1 (kT 17)),
 kO 19 (.idxS 1 (kT 8) (kT 18)),
 kO 20 (.load1 (kT 19)),
 kO 7 (.mov (kT 20))])
 .ret))
theorem enter94 (hl : xs.length ≤ 21) (w : wq E 21 none c94 (frameOf xs) h [] (leaveQ E [.tmp 7] Q)) : CallP E 94 xs h Q :=
  CallP.enterQ (fn := Try.f94) (fn_get Try.func94) (code := Try.f94.body.get rfl) rfl rfl rfl (by kernel_rfl) rfl (fun _ => rfl) hl w
theorem can94 : callable E 94 = true := callable_get Try.func94 rfl rfl
def c95 : C := (.seq (.ops [kO 2 (.box 136 (kT 0)),
 kO 3 (.mov (kC 0))])
 (.seq (.ops [kO 4 (.loadN 3 (kT 1)),
 kO 5 (.fldA 0 (kT 2)),
 kO 6 (.load1 (kT 5)),
 kO 7 (.fldA 1 (kT 2)),
 kO 8 (.load1 (kT 7)),
 kO 9 (.call 62 [.tmp 4,.tmp 6,.tmp 8]),
 kO 3 (.mov (kT 9))])
 .ret))
theorem enter95 (hl : xs.length ≤ 10) (w : wq E 10 none c95 (frameOf xs) h [] (leaveQ E [.tmp 3] Q)) : CallP E 95 xs h Q :=
  CallP.enterQ (fn := Try.f95) (fn_get Try.func95) (code := Try.f95.body.get rfl) rfl rfl rfl (by kernel_rfl) rfl (fun _ => rfl) hl w
theorem can95 : callable E 95 = true := callable_get Try.func95 rfl rfl
def c96 : C := (.seq (.ops [kO 4 (.box 136 (kT 0)),
 kO 6 (.alloc 136 [.int .i64 0,.int .i64 0])])
 (.seq (.ops [kO 8 (.load1 (kT 2)),
 kO 9 (.mov (kT 1)),
 kO 10 (kA .mul (kT 8) (kT 9)),
 kO 11 (.fldA 1 (kT 4)),
 kO 12 (.load1 (kT 11)),
 kO 13 (kA .add (kT 10) (kT 12)),
 kO 7 (.mov (kT 13))])
 (.seq (.ops [kO 14 (.fldA 2 (kT 3)),
 kO 15 (.load1 (kT 14)),
 kO 16 (.fldA 0 (kT 4)),
 kO 17 (.load1 (kT 16)),
 kO 18 (.idxS 1 (kT 15) (kT 17)),
 kO 19 (.load1 (kT 18)),
 kO 20 (.mov (kT 7)),
 kO 21 (.fldA 0 (kT 3)),
 kO 22 (.load1 (kT 21)),
 kO 23 (kA .rem (kT 20) (kT 22)),
 kO 24 (.idxS 1 (kT 19) (kT 23)),
 kO 25 (.load1 (kT 24)),
 kO 26 (.mov (kT 7)),
 kO 27 (.fldA 0 (kT 3)),
 kO 28 (.load1 (kT 27)),
 kO 29 (kA .quo (kT 26) (kT 28)),
 kO 30 (.aggr [.int .i64 0,.int .i64 0] [(0,1,(kT 25)),(1,1,(kT 29))]),
 ⟨none,.store 2 (kT 6) (kT 30),none⟩])
 .ret)))
theorem enter96 (hl : xs.length ≤ 31) (w : wq E 31 none c96 (frameOf xs) h [] (leaveQ E [.cell 6 136] Q)) : CallP E 96 xs h Q :=
  CallP.enterQ (fn := Try.f96) (fn_get Try.func96) (code := Try.f96.body.get rfl) rfl rfl rfl (by kernel_rfl) rfl (fun _ => rfl) hl w
theorem can96 : callable E 96 = true := callable_get Try.func96 rfl rfl
def c97 : C := (.seq (.ops [kO 5 (.box 136 (kT 1)),
 kO 8 (.alloc 25 [.int .i64 0,kN,kN])])
 (.seq (.ops [kO 18 (.mov (kT 0)),
 kO 19 (.aggr [.int .i64 0,kN,kN] [(0,1,(kT 18))]),
 kO 9 (.alloc 25 [.int .i64 0,kN,kN]),
 ⟨none,.store 3 (kT 9) (kT 19),none⟩])
 (.seq (.ops [kO 20 (.newMap),
 kO 21 (.loadN 2 (kT 5)),
 ⟨none,.raw (.insert 153 (kT 20) (kT 21) (kC 0)) 0,none⟩,
 kO 22 (.mov (kT 20)),
 kO 10 (.mov (kT 22))])
 (.seq (.ops [kO 23 (.loadN 2 (kT 5)),
 kO 24 (.slit 136 1 [.int .i64 0,.int .i64 0] [(0,2,(kT 23))]),
 kO 11 (.mov (kT 24))])
 (.seq (.seq (.ops [kO 12 (.mov (kC 0))])
 (.block 0 (.loop (.seq (.seq (.ops [kO 25 (.mov (kT 12)),
 kO 26 (.mov (kT 11)),
 kO 27 (.lenS (kT 26)),
 kO 28 (kA .lss (kT 25) (kT 27))])
 (.cond (kT 28) .skip
 (.exit 0)))
 (.seq (.block 1 (.seq (.draw [kO 31 (.fldA 1 (kT 9)),
 kO 32 (.load1 (kT 31)),
 kO 33 (.mov (kT 2)),
 kO 34 (.mov (kT 11)),
 kO 35 (.mov (kT 12)),
 kO 36 (.idxS 2 (kT 34) (kT 35)),
 kO 37 (.loadN 2 (kT 36)),
 kO 38 (.callv (kT 33) [.tmp 37]),
 kO 39 (.slit 3 1 [.int .i64 0] [(0,1,(kT 38))]),
 kO 40 (.append 3 1 8 (kT 32) (kT 39)),
 kO 41 (.fldA 1 (kT 9)),
 ⟨none,.store 1 (kT 41) (kT 40),none⟩]
 [⟨kF,kE,fL0,fL9⟩,
 ⟨kF,kE,fL0,fL9⟩,
 ⟨kF,kF,fL0,fL0⟩,
 ⟨kF,kF,fL0,fL0⟩,
 ⟨kF,kF,fL0,fL0⟩,
 ⟨kF,kF,fL0,fL0⟩,
 ⟨kF,kF,fL0,fL0⟩,
 ⟨kE,kF,fL0,fL16⟩,
 ⟨kE,kF,fL16,fL9⟩,
 ⟨kE,kF,fL9,fL10⟩,
 ⟨kF,kF,fL10,fL10⟩,
 ⟨kE,kF,fL10,fL23⟩])
 (.seq (.ops [kO 42 (.mov (kT 0)),
 kO 43 (.make 3 [.int .i64 0] 8 (kT 42) (kT 42)),
 kO 13 (.mov (kT 43))])
 (.seq (.seq (.ops [kO 44 (.mov (kT 13)),
 kO 45 (.lenS (kT 44)),
 kO 46 (.mov (kC 0))])
 (.block 2 (.loop (.seq (.ops [kO 47 (kA .lss (kT 46) (kT 45))])
 (.seq (.cond (kT 47) .skip
 (.exit 2))
 (.seq (.block 3 (.seq (.ops [kO 48 (.mov (kT 46)),
 kO 14 (.mov (kT 48))])
 (.seq (.ops [kO 49 (.mov (kT 3)),
 kO 50 (.mov (kT 11)),
 kO 51 (.mov (kT 12)),
 kO 52 (.idxS 2 (kT 50) (kT 51)),
 kO 53 (.loadN 2 (kT 52)),
 kO 54 (.mov (kT 14)),
 kO 55 (.callv (kT 49) [.tmp 53,.tmp 54]),
 kO 15 (.alloc 136 [.int .i64 0,.int .i64 0]),
 ⟨none,.store 2 (kT 15) (kT 55),none⟩])
 (.seq (.seq (.ops [kO 57 (.mov (kT 10)),
 kO 58 (.loadN 2 (kT 15)),
 kO 59 (.raw (.lookup 153 (kT 57) (kT 58) kE) 115),
 kO 56 (.mov (kT 59)),
 kO 60 (.ext (kT 56) 0),
 kO 61 (.ext (kT 56) 1),
 kO 16 (.mov (kT 60)),
 kO 17 (.mov (kT 61))])
 (.seq (.ops [kO 62 (.mov (kT 17)),
 kO 63 (.not (kT 62))])
 (.cond (kT 63) (.seq (.ops [kO 64 (.mov (kT 10)),
 kO 65 (.loadN 2 (kT 15)),
 kO 66 (.mov (kT 11)),
 kO 67 (.lenS (kT 66)),
 ⟨none,.raw (.mapUpdate 153 (kT 64) (kT 65) (kT 67)) 0,none⟩])
 (.ops [kO 68 (.mov (kT 11)),
 kO 69 (.loadN 2 (kT 15)),
 kO 70 (.slit 136 1 [.int .i64 0,.int .i64 0] [(0,2,(kT 69))]),
 kO 71 (.append 136 2 16 (kT 68) (kT 70)),
 kO 11 (.mov (kT 71))]))
 .skip)))
 (.ops [kO 72 (.mov (kT 13)),
 kO 73 (.mov (kT 14)),
 kO 74 (.mov (kT 10)),
 kO 75 (.loadN 2 (kT 15)),
 kO 76 (.raw (.lookup 153 (kT 74) (kT 75) kF) 3),
 kO 77 (.idxS 1 (kT 72) (kT 73)),
 ⟨none,.store 1 (kT 77) (kT 76),none⟩])))))
 (.ops [kO 78 (kA .add (kT 46) (kC 1)),
 kO 46 (.mov (kT 78))])))))))
 (.ops [kO 79 (.fldA 2 (kT 9)),
 kO 80 (.load1 (kT 79)),
 kO 81 (.mov (kT 13)),
 kO 82 (.slit 22 1 [kN] [(0,1,(kT 81))]),
 kO 83 (.append 22 1 24 (kT 80) (kT 82)),
 kO 84 (.fldA 2 (kT 9)),
 ⟨none,.store 1 (kT 84) (kT 83),none⟩])))))
 (.ops [kO 29 (.mov (kT 12)),
 kO 30 (kA .add (kT 29) (kC 1)),
 kO 12 (.mov (kT 30))]))))))
 (.seq (.ops [kO 85 (.loadN 3 (kT 9)),
 ⟨none,.store 3 (kT 8) (kT 85),none⟩])
 .ret))))))
theorem enter97 (hl : xs.length ≤ 86) (w : wq E 86 none c97 (frameOf xs) h [] (leaveQ E [.cell 8 25] Q)) : CallP E 97 xs h Q :=
  CallP.enterQ (fn := Try.f97) (fn_get Try.func97) (code := Try.f97.body.get rfl) rfl rfl rfl (by kernel_rfl) rfl (fun _ => rfl) hl w
theorem can97 : callable E 97 = true := callable_get Try.func97 rfl rfl
def c98 : C := (.seq (.ops [kO 3 (.box 25 (kT 0)),
 kO 6 (.mov (kC 0))])
 (.seq (.ops [kO 7 (.mov (.const (.int .i64 (-1))))])
 (.seq (.seq (.ops [kO 11 (.fldA 2 (kT 3)),
 kO 12 (.load1 (kT 11)),
 kO 13 (.mov (kT 2)),
 kO 14 (.idxS 1 (kT 12) (kT 13)),
 kO 15 (.load1 (kT 14)),
 kO 16 (.lenS (kT 15)),
 kO 17 (.mov (kC 0))])
 (.block 0 (.loop (.seq (.ops [kO 18 (kA .lss (kT 17) (kT 16))])
 (.seq (.cond (kT 18) .skip
 (.exit 0))
 (.seq (.block 1 (.seq (.ops [kO 19 (.mov (kT 17)),
 kO 20 (.idxS 1 (kT 15) (kT 17)),
 kO 21 (.load1 (kT 20)),
 kO 8 (.mov (kT 19)),
 kO 9 (.mov (kT 21))])
 (.seq (.seq (.ops [kO 22 (.mov (kT 1)),
 kO 23 (.mov (kT 9)),
 kO 24 (.idxS 1 (kT 22) (kT 23)),
 kO 25 (.load1 (kT 24)),
 kO 26 (kA .lss (kT 25) (kC 0))])
 (.cond (kT 26) (.exit 1)
 .skip))
 (.seq (.ops [kO 27 (.mov (kT 1)),
 kO 28 (.mov (kT 9)),
 kO 29 (.idxS 1 (kT 27) (kT 28)),
 kO 30 (.load1 (kT 29)),
 kO 31 (.fldA 0 (kT 3)),
 kO 32 (.load1 (kT 31)),
 kO 33 (kA .mul (kT 30) (kT 32)),
 kO 34 (.mov (kT 8)),
 kO 35 (kA .add (kT 33) (kT 34)),
 kO 10 (.mov (kT 35))])
 (.seq (.ops [kO 36 (.mov (kT 7)),
 kO 37 (kA .lss (kT 36) (kC 0)),
 kO 38 (.mov (kT 37)),
 ⟨some 39,.mov (kT 10),(some (38,kF))⟩,
 ⟨some 40,.mov (kT 7),(some (38,kF))⟩,
 ⟨some 41,kA .lss (kT 39) (kT 40),(some (38,kF))⟩,
 kO 42 (.pick (kT 38) (.const (.bool kE)) (kT 41))])
 (.cond (kT 42) (.ops [kO 43 (.mov (kT 10)),
 kO 7 (.mov (kT 43))])
 .skip))))))
 (.ops [kO 44 (kA .add (kT 17) (kC 1)),
 kO 17 (.mov (kT 44))])))))))
 (.seq (.ops [kO 45 (.mov (kT 7)),
 kO 6 (.mov (kT 45))])
 .ret))))
theorem enter98 (hl : xs.length ≤ 46) (w : wq E 46 none c98 (frameOf xs) h [] (leaveQ E [.tmp 6] Q)) : CallP E 98 xs h Q :=
  CallP.enterQ (fn := Try.f98) (fn_get Try.func98) (code := Try.f98.body.get rfl) rfl rfl rfl (by kernel_rfl) rfl (fun _ => rfl) hl w
theorem can98 : callable E 98 = true := callable_get Try.func98 rfl rfl
def c100 : C := (.seq (.ops [kO 2 (.box 147 (kT 0)),
 kO 3 (.mov (kC 0))])
 (.seq (.ops [kO 4 (.fldA 0 (kT 1)),
 kO 5 (.load1 (kT 4)),
 kO 6 (.fldA 1 (kT 2)),
 kO 7 (.load1 (kT 6)),
 kO 8 (.idxS 1 (kT 5) (kT 7)),
 kO 9 (.load1 (kT 8)),
 kO 3 (.mov (kT 9))])
 .ret))
theorem enter100 (hl : xs.length ≤ 10) (w : wq E 10 none c100 (frameOf xs) h [] (leaveQ E [.tmp 3] Q)) : CallP E 100 xs h Q :=
  CallP.enterQ (fn := Try.f100) (fn_get Try.func100) (code := Try.f100.body.get rfl) rfl rfl rfl (by kernel_rfl) rfl (fun _ => rfl) hl w
theorem can100 : callable E 100 = true := callable_get Try.func100 rfl rfl
def c101 : C := (.seq (.ops [kO 4 (.box 147 (kT 0)),
 kO 6 (.alloc 147 [.int .i64 0,.int .i64 0])])
 (.seq (.draw [kO 7 (.loadN 2 (kT 2)),
 kO 8 (.fldA 0 (kT 4)),
 kO 9 (.load1 (kT 8)),
 kO 10 (.load1 (kT 3)),
 kO 11 (kA .mul (kT 9) (kT 10)),
 kO 12 (.call 102 [.tmp 7,.tmp 11]),
 kO 13 (.loadN 2 (kT 2)),
 kO 14 (.fldA 1 (kT 4)),
 kO 15 (.load1 (kT 14)),
 kO 16 (.fldA 0 (kT 4)),
 kO 17 (.load1 (kT 16)),
 kO 18 (.mov (kT 1)),
 kO 19 (kA .mul (kT 17) (kT 18)),
 kO 20 (kA .add (kT 15) (kT 19)),
 kO 21 (.call 102 [.tmp 13,.tmp 20]),
 kO 22 (.aggr [.int .i64 0,.int .i64 0] [(0,1,(kT 12)),(1,1,(kT 21))]),
 ⟨none,.store 2 (kT 6) (kT 22),none⟩]
 [⟨kF,kF,fL4,fL4⟩,
 ⟨kF,kF,fL4,fL4⟩,
 ⟨kF,kF,fL4,fL4⟩,
 ⟨kF,kF,fL4,fL4⟩,
 ⟨kF,kF,fL4,fL4⟩,
 ⟨kE,kF,fL4,fL12⟩,
 ⟨kF,kE,fL4,fL12⟩,
 ⟨kF,kE,fL4,fL12⟩,
 ⟨kF,kE,fL4,fL12⟩,
 ⟨kF,kE,fL4,fL12⟩,
 ⟨kF,kE,fL4,fL12⟩,
 ⟨kF,kE,fL4,fL12⟩,
 ⟨kF,kE,fL4,fL12⟩,
 ⟨kF,kE,fL4,fL12⟩,
 ⟨kE,kF,fL12,fL20⟩,
 ⟨kF,kF,fL20,fL20⟩,
 ⟨kE,kF,fL20,[kF,kF,kF,kF,kF,kE,kF,kF,kF,kF,kF,kF,kF,kF,kE,kF,kE]⟩])
 .ret))
theorem enter101 (hl : xs.length ≤ 23) (w : wq E 23 none c101 (frameOf xs) h [] (leaveQ E [.cell 6 147] Q)) : CallP E 101 xs h Q :=
  CallP.enterQ (fn := Try.f101) (fn_get Try.func101) (code := Try.f101.body.get rfl) rfl rfl rfl (by kernel_rfl) rfl (fun _ => rfl) hl w
theorem can101 : callable E 101 = true := callable_get Try.func101 rfl rfl
def c102 : C := (.seq (.ops [kO 2 (.box 121 (kT 0)),
 kO 4 (.mov (kC 0))])
 (.seq (.seq (.ops [kO 5 (.mov (kT 1)),
 kO 6 (.fldA 1 (kT 2)),
 kO 7 (.load1 (kT 6)),
 kO 8 (kA .lss (kT 5) (kT 7))])
 (.cond (kT 8) (.seq (.ops [kO 9 (.mov (kT 1)),
 kO 4 (.mov (kT 9))])
 .ret)
 .skip))
 (.seq (.ops [kO 10 (.fldA 1 (kT 2)),
 kO 11 (.load1 (kT 10)),
 kO 12 (.mov (kT 1)),
 kO 13 (.fldA 1 (kT 2)),
 kO 14 (.load1 (kT 13)),
 kO 15 (kA .sub (kT 12) (kT 14)),
 kO 16 (.fldA 0 (kT 2)),
 kO 17 (.load1 (kT 16)),
 kO 18 (.lenS (kT 17)),
 kO 19 (.fldA 1 (kT 2)),
 kO 20 (.load1 (kT 19)),
 kO 21 (kA .sub (kT 18) (kT 20)),
 kO 22 (kA .rem (kT 15) (kT 21)),
 kO 23 (kA .add (kT 11) (kT 22)),
 kO 4 (.mov (kT 23))])
 .ret)))
theorem enter102 (hl : xs.length ≤ 24) (w : wq E 24 none c102 (frameOf xs) h [] (leaveQ E [.tmp 4] Q)) : CallP E 102 xs h Q :=
  CallP.enterQ (fn := Try.f102) (fn_get Try.func102) (code := Try.f102.body.get rfl) rfl rfl rfl (by kernel_rfl) rfl (fun _ => rfl) hl w
theorem can102 : callable E 102 = true := callable_get Try.func102 rfl rfl
def c103 : C := (.seq (.ops [kO 5 (.box 147 (kT 1)),
 kO 8 (.alloc 25 [.int .i64 0,kN,kN])])
 (.seq (.ops [kO 18 (.mov (kT 0)),
 kO 19 (.aggr [.int .i64 0,kN,kN] [(0,1,(kT 18))]),
 kO 9 (.alloc 25 [.int .i64 0,kN,kN]),
 ⟨none,.store 3 (kT 9) (kT 19),none⟩])
 (.seq (.ops [kO 20 (.newMap),
 kO 21 (.loadN 2 (kT 5)),
 ⟨none,.raw (.insert 156 (kT 20) (kT 21) (kC 0)) 0,none⟩,
 kO 22 (.mov (kT 20)),
 kO 10 (.mov (kT 22))])
 (.seq (.ops [kO 23 (.loadN 2 (kT 5)),
 kO 24 (.slit 147 1 [.int .i64 0,.int .i64 0] [(0,2,(kT 23))]),
 kO 11 (.mov (kT 24))])
 (.seq (.seq (.ops [kO 12 (.mov (kC 0))])
 (.block 0 (.loop (.seq (.seq (.ops [kO 25 (.mov (kT 12)),
 kO 26 (.mov (kT 11)),
 kO 27 (.lenS (kT 26)),
 kO 28 (kA .lss (kT 25) (kT 27))])
 (.cond (kT 28) .skip
 (.exit 0)))
 (.seq (.block 1 (.seq (.draw [kO 31 (.fldA 1 (kT 9)),
 kO 32 (.load1 (kT 31)),
 kO 33 (.mov (kT 2)),
 kO 34 (.mov (kT 11)),
 kO 35 (.mov (kT 12)),
 kO 36 (.idxS 2 (kT 34) (kT 35)),
 kO 37 (.loadN 2 (kT 36)),
 kO 38 (.callv (kT 33) [.tmp 37]),
 kO 39 (.slit 3 1 [.int .i64 0] [(0,1,(kT 38))]),
 kO 40 (.append 3 1 8 (kT 32) (kT 39)),
 kO 41 (.fldA 1 (kT 9)),
 ⟨none,.store 1 (kT 41) (kT 40),none⟩]
 [⟨kF,kE,fL0,fL9⟩,
 ⟨kF,kE,fL0,fL9⟩,
 ⟨kF,kF,fL0,fL0⟩,
 ⟨kF,kF,fL0,fL0⟩,
 ⟨kF,kF,fL0,fL0⟩,
 ⟨kF,kF,fL0,fL0⟩,
 ⟨kF,kF,fL0,fL0⟩,
 ⟨kE,kF,fL0,fL16⟩,
 ⟨kE,kF,fL16,fL9⟩,
 ⟨kE,kF,fL9,fL10⟩,
 ⟨kF,kF,fL10,fL10⟩,
 ⟨kE,kF,fL10,fL23⟩])
 (.seq (.ops [kO 42 (.mov (kT 0)),
 kO 43 (.make 3 [.int .i64 0] 8 (kT 42) (kT 42)),
 kO 13 (.mov (kT 43))])
 (.seq (.seq (.ops [kO 44 (.mov (kT 13)),
 kO 45 (.lenS (kT 44)),
 kO 46 (.mov (kC 0))])
 (.block 2 (.loop (.seq (.ops [kO 47 (kA .lss (kT 46) (kT 45))])
 (.seq (.cond (kT 47) .skip
 (.exit 2))
 (.seq (.block 3 (.seq (.ops [kO 48 (.mov (kT 46)),
 kO 14 (.mov (kT 48))])
 (.seq (.ops [kO 49 (.mov (kT 3)),
 kO 50 (.mov (kT 11)),
 kO 51 (.mov (kT 12)),
 kO 52 (.idxS 2 (kT 50) (kT 51)),
 kO 53 (.loadN 2 (kT 52)),
 kO 54 (.mov (kT 14)),
 kO 55 (.callv (kT 49) [.tmp 53,.tmp 54]),
 kO 15 (.alloc 147 [.int .i64 0,.int .i64 0]),
 ⟨none,.store 2 (kT 15) (kT 55),none⟩])
 (.seq (.seq (.ops [kO 57 (.mov (kT 10)),
 kO 58 (.loadN 2 (kT 15)),
 kO 59 (.raw (.lookup 156 (kT 57) (kT 58) kE) 115),
 kO 56 (.mov (kT 59)),
 kO 60 (.ext (kT 56) 0),
 kO 61 (.ext (kT 56) 1),
 kO 16 (.mov (kT 60)),
 kO 17 (.mov (kT 61))])
 (.seq (.ops [kO 62 (.mov (kT 17)),
 kO 63 (.not (kT 62))])
 (.cond (kT 63) (.seq (.ops [kO 64 (.mov (kT 10)),
 kO 65 (.loadN 2 (kT 15)),
 kO 66 (.mov (kT 11)),
 kO 67 (.lenS (kT 66)),
 ⟨none,.raw (.mapUpdate 156 (kT 64) (kT 65) (kT 67)) 0,none⟩])
 (.ops [kO 68 (.mov (kT 11)),
 kO 69 (.loadN 2 (kT 15)),
 kO 70 (.slit 147 1 [.int .i64 0,.int .i64 0] [(0,2,(kT 69))]),
 kO 71 (.append 147 2 16 (kT 68) (kT 70)),
 kO 11 (.mov (kT 71))]))
 .skip)))
 (.ops [kO 72 (.mov (kT 13)),
 kO 73 (.mov (kT 14)),
 kO 74 (.mov (kT 10)),
 kO 75 (.loadN 2 (kT 15)),
 kO 76 (.raw (.lookup 156 (kT 74) (kT 75) kF) 3),
 kO 77 (.idxS 1 (kT 72) (kT 73)),
 ⟨none,.store 1 (kT 77) (kT 76),none⟩])))))
 (.ops [kO 78 (kA .add (kT 46) (kC 1)),
 kO 46 (.mov (kT 78))])))))))
 (.ops [kO 79 (.fldA 2 (kT 9)),
 kO 80 (.load1 (kT 79)),
 kO 81 (.mov (kT 13)),
 kO 82 (.slit 22 1 [kN] [(0,1,(kT 81))]),
 kO 83 (.append 22 1 24 (kT 80) (kT 82)),
 kO 84 (.fldA 2 (kT 9)),
 ⟨none,.store 1 (kT 84) (kT 83),none⟩])))))
 (.ops [kO 29 (.mov (kT 12)),
 kO 30 (kA .add (kT 29) (kC 1)),
 kO 12 (.mov (kT 30))]))))))
 (.seq (.ops [kO 85 (.loadN 3 (kT 9)),
 ⟨none,.store 3 (kT 8) (kT 85),none⟩])
 .ret))))))
theorem enter103 (hl : xs.length ≤ 86) (w : wq E 86 none c103 (frameOf xs) h [] (leaveQ E [.cell 8 25] Q)) : CallP E 103 xs h Q :=
  CallP.enterQ (fn := Try.f103) (fn_get Try.func103) (code := Try.f103.body.get rfl) rfl rfl rfl (by kernel_rfl) rfl (fun _ => rfl) hl w
theorem can103 : callable E 103 = true := callable_get Try.func103 rfl rfl
def c104 : C := (.block 0 (.loop (.seq (.seq (.ops [kO 4 (.load1 (kT 1)),
 kO 5 (kA .gtr (kT 4) (kC 0))])
 (.cond (kT 5) .skip
 (.exit 0)))
 (.seq (.block 1 (.seq (.ops [kO 9 (.mov (kT 0)),
 kO 10 (.load1 (kT 1)),
 kO 11 (.load1 (kT 2)),
 kO 12 (kA .rem (kT 10) (kT 11)),
 kO 13 (.callv (kT 9) [.tmp 12]),
 kO 14 (.not (kT 13))])
 (.cond (kT 14) .ret
 .skip)))
 (.ops [kO 6 (.load1 (kT 1)),
 kO 7 (.load1 (kT 2)),
 kO 8 (kA .quo (kT 6) (kT 7)),
 ⟨none,.store 1 (kT 1) (kT 8),none⟩])))))
theorem enter104 (hl : xs.length ≤ 15) (w : wq E 15 none c104 (frameOf xs) h [] (leaveQ E [] Q)) : CallP E 104 xs h Q :=
  CallP.enterQ (fn := Try.f104) (fn_get Try.func104) (code := Try.f104.body.get rfl) rfl rfl rfl (by kernel_rfl) rfl (fun _ => rfl) hl w
theorem can104 : callable E 104 = true := callable_get Try.func104 rfl rfl
def c105 : C := (.seq (.ops [kO 2 (.box 25 (kT 0)),
 kO 4 (.mov (.const kN)),
 kO 5 (.mov (kC 0))])
 (.seq (.ops [kO 12 (.mov (kT 4)),
 kO 13 (.mov (kT 1)),
 kO 14 (.append 3 1 8 (kT 12) (kT 13)),
 kO 4 (.mov (kT 14))])
 (.seq (.seq (.ops [kO 15 (.fldA 0 (kT 2)),
 kO 16 (.load1 (kT 15)),
 kO 17 (.mov (kC 0))])
 (.block 0 (.loop (.seq (.ops [kO 18 (kA .lss (kT 17) (kT 16))])
 (.seq (.cond (kT 18) .skip
 (.exit 0))
 (.seq (.block 1 (.seq (.ops [kO 19 (.mov (kT 17)),
 kO 6 (.mov (kT 19))])
 (.seq (.ops [kO 20 (.newMap),
 kO 7 (.mov (kT 20))])
 (.seq (.seq (.ops [kO 21 (.mov (kT 4)),
 kO 22 (.lenS (kT 21)),
 kO 23 (.mov (kC 0))])
 (.block 2 (.loop (.seq (.ops [kO 24 (kA .lss (kT 23) (kT 22))])
 (.seq (.cond (kT 24) .skip
 (.exit 2))
 (.seq (.block 3 (.seq (.ops [kO 25 (.mov (kT 23)),
 kO 8 (.mov (kT 25))])
 (.seq (.draw [kO 26 (.mov (kT 4)),
 kO 27 (.mov (kT 8)),
 kO 28 (.idxS 1 (kT 26) (kT 27)),
 kO 29 (.load1 (kT 28)),
 kO 30 (.mov (kT 1)),
 kO 31 (.fldA 2 (kT 2)),
 kO 32 (.load1 (kT 31)),
 kO 33 (.mov (kT 8)),
 kO 34 (.idxS 1 (kT 32) (kT 33)),
 kO 35 (.load1 (kT 34)),
 kO 36 (.mov (kT 6)),
 kO 37 (.idxS 1 (kT 35) (kT 36)),
 kO 38 (.load1 (kT 37)),
 kO 39 (.idxS 1 (kT 30) (kT 38)),
 kO 40 (.load1 (kT 39)),
 kO 41 (.aggr [.int .i64 0,.int .i64 0] [(0,1,(kT 29)),(1,1,(kT 40))]),
 kO 9 (.alloc 106 [.int .i64 0,.int .i64 0]),
 ⟨none,.store 2 (kT 9) (kT 41),none⟩]
 [⟨kF,kE,fL7,fL6⟩,
 ⟨kF,kE,fL7,fL6⟩,
 ⟨kF,kE,fL7,fL6⟩,
 ⟨kF,kE,fL7,fL6⟩,
 ⟨kF,kE,fL7,fL6⟩,
 ⟨kF,kE,fL7,fL6⟩,
 ⟨kF,kE,fL7,fL6⟩,
 ⟨kF,kE,fL7,fL6⟩,
 ⟨kF,kE,fL7,fL6⟩,
 ⟨kF,kE,fL7,fL6⟩,
 ⟨kF,kE,fL7,fL6⟩,
 ⟨kF,kE,fL7,fL6⟩,
 ⟨kF,kE,fL7,fL6⟩,
 ⟨kF,kE,fL7,fL6⟩,
 ⟨kF,kE,fL7,fL6⟩,
 ⟨kF,kE,fL7,fL6⟩,
 ⟨kE,kF,fL7,fL6⟩,
 ⟨kE,kF,fL6,[kF,kF,kF,kF,kF,kF,kF,kF,kF,kF,kF,kF,kF,kF,kF,kF,kE,kE]⟩])
 (.seq (.seq (.ops [kO 43 (.mov (kT 7)),
 kO 44 (.loadN 2 (kT 9)),
 kO 45 (.raw (.lookup 140 (kT 43) (kT 44) kE) 115),
 kO 42 (.mov (kT 45)),
 kO 46 (.ext (kT 42) 0),
 kO 47 (.ext (kT 42) 1),
 kO 10 (.mov (kT 46)),
 kO 11 (.mov (kT 47))])
 (.seq (.ops [kO 48 (.mov (kT 11)),
 kO 49 (.not (kT 48))])
 (.cond (kT 49) (.ops [kO 50 (.mov (kT 7)),
 kO 51 (.loadN 2 (kT 9)),
 kO 52 (.mov (kT 7)),
 kO 53 (.raw (.call ⟨.builtin .len,⟨[.tmp 52]⟩,⟨[140]⟩⟩) 3),
 ⟨none,.raw (.mapUpdate 140 (kT 50) (kT 51) (kT 53)) 0,none⟩])
 .skip)))
 (.ops [kO 54 (.mov (kT 4)),
 kO 55 (.mov (kT 8)),
 kO 56 (.mov (kT 7)),
 kO 57 (.loadN 2 (kT 9)),
 kO 58 (.raw (.lookup 140 (kT 56) (kT 57) kF) 3),
 kO 59 (.idxS 1 (kT 54) (kT 55)),
 ⟨none,.store 1 (kT 59) (kT 58),none⟩])))))
 (.ops [kO 60 (kA .add (kT 23) (kC 1)),
 kO 23 (.mov (kT 60))])))))))
 (.ops [kO 61 (.mov (kT 7)),
 kO 62 (.raw (.call ⟨.builtin .len,⟨[.tmp 61]⟩,⟨[140]⟩⟩) 3),
 kO 5 (.mov (kT 62))])))))
 (.ops [kO 63 (kA .add (kT 17) (kC 1)),
 kO 17 (.mov (kT 63))])))))))
 (.seq (.ops [kO 64 (.mov (kT 4)),
 kO 65 (.mov (kT 5)),
 kO 4 (.mov (kT 64)),
 kO 5 (.mov (kT 65))])
 .ret))))
theorem enter105 (hl : xs.length ≤ 66) (w : wq E 66 none c105 (frameOf xs) h [] (leaveQ E [.tmp 4,.tmp 5] Q)) : CallP E 105 xs h Q :=
  CallP.enterQ (fn := Try.f105) (fn_get Try.func105) (code := Try.f105.body.get rfl) rfl rfl rfl (by kernel_rfl) rfl (fun _ => rfl) hl w
theorem can105 : callable E 105 = true := callable_get Try.func105 rfl rfl
end
end Go.Proofs.Ytedneplaibmppaa
