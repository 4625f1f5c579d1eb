/- The code of the functions that PNTB comes to. -/
import Derived.Test.YthgjnkdealdmoaaTypesC
set_option maxRecDepth 100000
set_option linter.unusedSectionVars false
set_option linter.unusedVariables false
namespace Go.Proofs.Ythgjnkdealdmoaa
open Go.Rx Go.RowKit
noncomputable section
abbrev kF:=false
abbrev kE:=true
abbrev fL0:List Bool:=[kF,kF,kE,kF,kF,kE,kF,kF,kF,kF,kF,kF,kF,kF,kF,kF,kF,kF]
abbrev fL1:List Bool:=[kF,kF,kF,kF,kF,kF,kF,kF,kF,kF,kF,kF,kF,kF,kF,kF,kF,kF]
abbrev fL2:List Bool:=[kF,kF,kF,kF,kF]
abbrev fL3:List Bool:=[kF,kF,kE,kF,kF,kF,kF,kF,kF,kF,kF,kF,kF,kF,kF,kF,kF,kF]
abbrev fL4:List Bool:=[kF,kF,kE,kF,kF]
abbrev fL5:List Bool:=[kF,kF,kE,kE,kF]
abbrev fL6:List Bool:=[kF,kF,kE,kF,kF,kE,kF,kF,kF,kF,kF,kF,kF,kF,kF,kF,kE,kF]
abbrev kO (d:Nat) (t:TOp):G:=⟨some d,t,none⟩
abbrev kT:=Operand.tmp
abbrev kC (n:Int):Operand:=.const (.int .i64 n)
abbrev kN:Value:=.slice none 0 0
abbrev kZ:Value:=.int .i64 0
abbrev kA:=TOp.ar .i64
variable [Unknowns] {xs : List Value} {h : Hp} {Q : Value → Hp → Prop}
def c9 : C := (.seq (.ops [kO 6 (.mov (.const (.bool kF)))])
 (.seq (.ops [kO 19 (.mov (kT 0)),
 kO 20 (.mov (kT 1)),
 kO 21 (.call 17 [.tmp 19,.tmp 20,(kC 9)]),
 kO 18 (.mov (kT 21)),
 kO 22 (.ext (kT 18) 0),
 kO 23 (.ext (kT 18) 1),
 kO 0 (.mov (kT 22)),
 kO 7 (.mov (kT 23))])
 (.seq (.ops [kO 25 (.mov (kT 0)),
 kO 26 (.mov (kT 7)),
 kO 27 (.call 44 [.tmp 25,.tmp 26]),
 kO 24 (.mov (kT 27)),
 kO 28 (.ext (kT 24) 0),
 kO 29 (.ext (kT 24) 1),
 kO 8 (.mov (kT 28)),
 kO 9 (.mov (kT 29))])
 (.seq (.ops [kO 30 (.mov (kT 0)),
 kO 31 (.mov (kT 7)),
 kO 32 (.call 45 [.tmp 30,.tmp 31]),
 kO 10 (.mov (kT 32))])
 (.seq (.seq (.ops [kO 33 (.mov (kT 9)),
 kO 34 (kA .neq (kT 33) (kC 0)),
 kO 35 (.mov (kT 34)),
 ⟨some 36,.mov (kT 8),(some (35,kF))⟩,
 ⟨some 37,.mov (kT 10),(some (35,kF))⟩,
 ⟨some 38,.call 46 [.tmp 36,.tmp 37],(some (35,kF))⟩,
 ⟨some 39,.not (kT 38),(some (35,kF))⟩,
 kO 40 (.pick (kT 35) (.const (.bool kE)) (kT 39))])
 (.cond (kT 40) (.seq (.ops [kO 6 (.mov (.const (.bool kF)))])
 .ret)
 .skip))
 (.seq (.ops [kO 41 (.mov (kT 2)),
 kO 42 (.cint .u64 (kT 41)),
 kO 43 (.mov (kT 7)),
 kO 44 (.lenS (kT 43)),
 kO 45 (.ar .u64 .shl (.const (.int .u64 1)) (kT 44)),
 kO 46 (.ar .u64 .rem (kT 42) (kT 45)),
 kO 47 (.cint .i64 (kT 46)),
 kO 11 (.mov (kT 47))])
 (.seq (.seq (.ops [kO 12 (.mov (kC 0))])
 (.block 0 (.loop (.seq (.seq (.ops [kO 48 (.mov (kT 12)),
 kO 49 (kA .lss (kT 48) (kC 2))])
 (.cond (kT 49) .skip
 (.exit 0)))
 (.seq (.block 1 (.seq (.ops [kO 53 (.mov (kT 0)),
 kO 54 (.mov (kT 7)),
 kO 55 (.mov (kT 11)),
 kO 56 (.call 47 [.tmp 53,.tmp 54,.tmp 55]),
 kO 52 (.mov (kT 56)),
 kO 57 (.ext (kT 52) 0),
 kO 58 (.ext (kT 52) 1),
 kO 59 (.ext (kT 52) 2),
 kO 13 (.mov (kT 57)),
 kO 14 (.mov (kT 58)),
 kO 15 (.mov (kT 59))])
 (.seq (.seq (.ops [kO 60 (.mov (kT 0)),
 kO 61 (.mov (kT 7)),
 kO 62 (.mov (kT 11)),
 kO 63 (.call 48 [.tmp 60,.tmp 61,.tmp 62]),
 kO 64 (.not (kT 63))])
 (.cond (kT 64) (.seq (.ops [kO 65 (.mov (kT 15)),
 kO 66 (kA .neq (kT 65) (kC 1)),
 kO 67 (.mov (kT 66)),
 ⟨some 68,.mov (kT 13),(some (67,kF))⟩,
 ⟨some 69,.mov (kT 14),(some (67,kF))⟩,
 ⟨some 70,kA .add (kT 68) (kT 69),(some (67,kF))⟩,
 ⟨some 71,kA .neq (kT 70) (kC 0),(some (67,kF))⟩,
 kO 72 (.pick (kT 67) (.const (.bool kE)) (kT 71))])
 (.cond (kT 72) (.seq (.ops [kO 6 (.mov (.const (.bool kF)))])
 .ret)
 .skip))
 (.seq (.ops [kO 74 (.mov (kT 0)),
 kO 75 (.mov (kT 7)),
 kO 76 (.mov (kT 11)),
 kO 77 (.call 49 [.tmp 74,.tmp 75,.tmp 76]),
 kO 73 (.mov (kT 77)),
 kO 78 (.ext (kT 73) 0),
 kO 79 (.ext (kT 73) 1),
 kO 16 (.mov (kT 78)),
 kO 17 (.mov (kT 79))])
 (.seq (.ops [kO 80 (.mov (kT 15)),
 kO 81 (kA .neq (kT 80) (kC 0)),
 kO 82 (.mov (kT 81)),
 ⟨some 83,.mov (kT 13),(some (82,kF))⟩,
 ⟨some 84,.mov (kT 16),(some (82,kF))⟩,
 ⟨some 85,kA .neq (kT 83) (kT 84),(some (82,kF))⟩,
 kO 86 (.pick (kT 82) (.const (.bool kE)) (kT 85)),
 kO 87 (.mov (kT 86)),
 ⟨some 88,.mov (kT 14),(some (87,kF))⟩,
 ⟨some 89,.mov (kT 17),(some (87,kF))⟩,
 ⟨some 90,kA .neq (kT 88) (kT 89),(some (87,kF))⟩,
 kO 91 (.pick (kT 87) (.const (.bool kE)) (kT 90))])
 (.cond (kT 91) (.seq (.ops [kO 6 (.mov (.const (.bool kF)))])
 .ret)
 .skip)))))
 (.ops [kO 92 (.mov (kT 10)),
 kO 93 (.mov (kT 11)),
 kO 94 (.mov (kT 10)),
 kO 95 (.lenS (kT 94)),
 kO 96 (kA .rem (kT 93) (kT 95)),
 kO 97 (.idxS 1 (kT 92) (kT 96)),
 kO 98 (.load1 (kT 97)),
 kO 11 (.mov (kT 98))]))))
 (.ops [kO 50 (.mov (kT 12)),
 kO 51 (kA .add (kT 50) (kC 1)),
 kO 12 (.mov (kT 51))]))))))
 (.seq (.ops [kO 99 (.call 20 []),
 kO 6 (.mov (kT 99))])
 .ret))))))))
theorem enter9 (hl : xs.length ≤ 100) (w : wq E 100 none c9 (frameOf xs) h [] (leaveQ E [.tmp 6] Q)) : CallP E 9 xs h Q :=
  CallP.enterQ (fn := Try.f9) (fn_get Try.func9) (code := Try.f9.body.get rfl) rfl rfl rfl (by kernel_rfl) rfl (fun _ => rfl) hl w
theorem can9 : callable E 9 = true := callable_get Try.func9 rfl rfl
def c17 : C := (.seq (.ops [kO 6 (.mov (kC 0)),
 kO 7 (.mov (.const kN))])
 (.seq (.ops [kO 15 (.mov (kT 0)),
 kO 16 (.cint .u64 (kT 15)),
 kO 17 (.ar .u64 .rem (kT 16) (.const (.int .u64 6))),
 kO 18 (.cint .i64 (kT 17)),
 kO 19 (kA .add (kC 1) (kT 18)),
 kO 0 (.mov (kT 19))])
 (.seq (.ops [kO 8 (.mov (.const kN))])
 (.seq (.seq (.ops [kO 9 (.mov (kC 0))])
 (.block 0 (.loop (.seq (.seq (.ops [kO 20 (.mov (kT 9)),
 kO 21 (.mov (kT 1)),
 kO 22 (.lenS (kT 21)),
 kO 23 (kA .lss (kT 20) (kT 22)),
 kO 24 (.mov (kT 23)),
 ⟨some 25,.mov (kT 9),(some (24,kE))⟩,
 ⟨some 26,.mov (kT 2),(some (24,kE))⟩,
 ⟨some 27,kA .lss (kT 25) (kT 26),(some (24,kE))⟩,
 kO 28 (.pick (kT 24) (kT 27) (.const (.bool kF)))])
 (.cond (kT 28) .skip
 (.exit 0)))
 (.seq (.block 1 (.seq (.ops [kO 31 (.mov (kT 1)),
 kO 32 (.mov (kT 9)),
 kO 33 (.idxS 2 (kT 31) (kT 32)),
 kO 34 (.idxA 2 1 (kT 33) (kC 0)),
 kO 35 (.load1 (kT 34)),
 kO 36 (.cint .u64 (kT 35)),
 kO 37 (.mov (kT 0)),
 kO 38 (.cint .u64 (kT 37)),
 kO 39 (.ar .u64 .rem (kT 36) (kT 38)),
 kO 40 (.cint .i64 (kT 39)),
 kO 41 (.mov (kT 1)),
 kO 42 (.mov (kT 9)),
 kO 43 (.idxS 2 (kT 41) (kT 42)),
 kO 44 (.idxA 2 1 (kT 43) (kC 1)),
 kO 45 (.load1 (kT 44)),
 kO 46 (.cint .u64 (kT 45)),
 kO 47 (.mov (kT 0)),
 kO 48 (.cint .u64 (kT 47)),
 kO 49 (.ar .u64 .rem (kT 46) (kT 48)),
 kO 50 (.cint .i64 (kT 49)),
 kO 10 (.mov (kT 40)),
 kO 11 (.mov (kT 50))])
 (.seq (.ops [kO 51 (.mov (kT 10)),
 kO 52 (.mov (kT 11)),
 kO 53 (.raw (.call ⟨.builtin .min,⟨[.tmp 51,.tmp 52]⟩,⟨[3,3]⟩⟩) 3),
 kO 54 (.mov (kT 10)),
 kO 55 (.mov (kT 11)),
 kO 56 (.raw (.call ⟨.builtin .max,⟨[.tmp 54,.tmp 55]⟩,⟨[3,3]⟩⟩) 3),
 kO 57 (.aggr [kZ,kZ] [(0,1,(kT 53)),(1,1,(kT 56))]),
 kO 12 (.alloc 79 [kZ,kZ]),
 ⟨none,.store 2 (kT 12) (kT 57),none⟩])
 (.seq (.ops [kO 13 (.mov (kC 0))])
 (.seq (.block 2 (.loop (.seq (.seq (.ops [kO 58 (.mov (kT 13)),
 kO 59 (.mov (kT 8)),
 kO 60 (.lenS (kT 59)),
 kO 61 (kA .lss (kT 58) (kT 60)),
 kO 62 (.mov (kT 61)),
 ⟨some 63,.mov (kT 8),(some (62,kE))⟩,
 ⟨some 64,.mov (kT 13),(some (62,kE))⟩,
 ⟨some 65,.idxS 2 (kT 63) (kT 64),(some (62,kE))⟩,
 ⟨some 66,.idxA 2 1 (kT 65) (kC 0),(some (62,kE))⟩,
 ⟨some 67,.load1 (kT 66),(some (62,kE))⟩,
 ⟨some 68,.idxA 2 1 (kT 12) (kC 0),(some (62,kE))⟩,
 ⟨some 69,.load1 (kT 68),(some (62,kE))⟩,
 ⟨some 70,kA .lss (kT 67) (kT 69),(some (62,kE))⟩,
 ⟨some 71,.mov (kT 70),(some (62,kE))⟩,
 ⟨some 72,.mov (kT 8),(some (71,kF))⟩,
 ⟨some 73,.mov (kT 13),(some (71,kF))⟩,
 ⟨some 74,.idxS 2 (kT 72) (kT 73),(some (71,kF))⟩,
 ⟨some 75,.idxA 2 1 (kT 74) (kC 0),(some (71,kF))⟩,
 ⟨some 76,.load1 (kT 75),(some (71,kF))⟩,
 ⟨some 77,.idxA 2 1 (kT 12) (kC 0),(some (71,kF))⟩,
 ⟨some 78,.load1 (kT 77),(some (71,kF))⟩,
 ⟨some 79,kA .eql (kT 76) (kT 78),(some (71,kF))⟩,
 ⟨some 80,.mov (kT 79),(some (71,kF))⟩,
 ⟨some 81,.mov (kT 8),(some (80,kE))⟩,
 ⟨some 82,.mov (kT 13),(some (80,kE))⟩,
 ⟨some 83,.idxS 2 (kT 81) (kT 82),(some (80,kE))⟩,
 ⟨some 84,.idxA 2 1 (kT 83) (kC 1),(some (80,kE))⟩,
 ⟨some 85,.load1 (kT 84),(some (80,kE))⟩,
 ⟨some 86,.idxA 2 1 (kT 12) (kC 1),(some (80,kE))⟩,
 ⟨some 87,.load1 (kT 86),(some (80,kE))⟩,
 ⟨some 88,kA .leq (kT 85) (kT 87),(some (80,kE))⟩,
 ⟨some 89,.pick (kT 80) (kT 88) (.const (.bool kF)),(some (71,kF))⟩,
 ⟨some 90,.pick (kT 71) (.const (.bool kE)) (kT 89),(some (62,kE))⟩,
 kO 91 (.pick (kT 62) (kT 90) (.const (.bool kF)))])
 (.cond (kT 91) .skip
 (.exit 2)))
 (.block 3 (.ops [kO 92 (.mov (kT 13)),
 kO 93 (kA .add (kT 92) (kC 1)),
 kO 13 (.mov (kT 93))])))))
 (.seq (.ops [kO 14 (.mov (.const kN))])
 (.seq (.ops [kO 94 (.mov (kT 14)),
 kO 95 (.mov (kT 8)),
 kO 96 (.mov (kT 13)),
 kO 97 (.cutS 2 (kT 95) none (some (kT 96)) none),
 kO 98 (.append 79 2 16 (kT 94) (kT 97)),
 kO 14 (.mov (kT 98))])
 (.seq (.ops [kO 99 (.mov (kT 14)),
 kO 100 (.loadN 2 (kT 12)),
 kO 101 (.slit 79 1 [kZ,kZ] [(0,2,(kT 100))]),
 kO 102 (.append 79 2 16 (kT 99) (kT 101)),
 kO 14 (.mov (kT 102))])
 (.ops [kO 103 (.mov (kT 14)),
 kO 104 (.mov (kT 8)),
 kO 105 (.mov (kT 13)),
 kO 106 (.cutS 2 (kT 104) (some (kT 105)) none none),
 kO 107 (.append 79 2 16 (kT 103) (kT 106)),
 kO 8 (.mov (kT 107))])))))))))
 (.ops [kO 29 (.mov (kT 9)),
 kO 30 (kA .add (kT 29) (kC 1)),
 kO 9 (.mov (kT 30))]))))))
 (.seq (.ops [kO 108 (.mov (kT 0)),
 kO 109 (.mov (kT 8)),
 kO 6 (.mov (kT 108)),
 kO 7 (.mov (kT 109))])
 .ret)))))
theorem enter17 (hl : xs.length ≤ 110) (w : wq E 110 none c17 (frameOf xs) h [] (leaveQ E [.tmp 6,.tmp 7] Q)) : CallP E 17 xs h Q :=
  CallP.enterQ (fn := Try.f17) (fn_get Try.func17) (code := Try.f17.body.get rfl) rfl rfl rfl (by kernel_rfl) rfl (fun _ => rfl) hl w
theorem can17 : callable E 17 = true := callable_get Try.func17 rfl rfl
def c19 : C := (.seq (.ops [kO 6 (.mov (kC 0))])
 (.seq (.ops [kO 14 (.mov (kT 0)),
 kO 15 (.make 3 [kZ] 8 (kT 14) (kT 14)),
 kO 7 (.mov (kT 15))])
 (.seq (.seq (.ops [kO 8 (.mov (kC 0))])
 (.block 0 (.loop (.seq (.seq (.ops [kO 16 (.mov (kT 8)),
 kO 17 (.mov (kT 0)),
 kO 18 (kA .lss (kT 16) (kT 17))])
 (.cond (kT 18) .skip
 (.exit 0)))
 (.seq (.block 1 (.ops [kO 21 (.mov (kT 7)),
 kO 22 (.mov (kT 8)),
 kO 23 (.mov (kT 8)),
 kO 24 (.idxS 1 (kT 21) (kT 22)),
 ⟨none,.store 1 (kT 24) (kT 23),none⟩]))
 (.ops [kO 19 (.mov (kT 8)),
 kO 20 (kA .add (kT 19) (kC 1)),
 kO 8 (.mov (kT 20))]))))))
 (.seq (.ops [kO 9 (.mov (kC 0))])
 (.seq (.seq (.ops [kO 10 (.mov (kC 0))])
 (.block 2 (.loop (.seq (.seq (.ops [kO 25 (.mov (kT 10)),
 kO 26 (.mov (kT 1)),
 kO 27 (.lenS (kT 26)),
 kO 28 (kA .lss (kT 25) (kT 27))])
 (.cond (kT 28) .skip
 (.exit 2)))
 (.seq (.block 3 (.seq (.ops [kO 31 (.mov (kT 7)),
 kO 32 (.mov (kT 1)),
 kO 33 (.mov (kT 10)),
 kO 34 (.idxS 2 (kT 32) (kT 33)),
 kO 35 (.idxA 2 1 (kT 34) (kC 0)),
 kO 36 (.load1 (kT 35)),
 kO 37 (.idxS 1 (kT 31) (kT 36)),
 kO 38 (.load1 (kT 37)),
 kO 39 (.mov (kT 7)),
 kO 40 (.mov (kT 1)),
 kO 41 (.mov (kT 10)),
 kO 42 (.idxS 2 (kT 40) (kT 41)),
 kO 43 (.idxA 2 1 (kT 42) (kC 1)),
 kO 44 (.load1 (kT 43)),
 kO 45 (.idxS 1 (kT 39) (kT 44)),
 kO 46 (.load1 (kT 45)),
 kO 11 (.mov (kT 38)),
 kO 12 (.mov (kT 46))])
 (.seq (.seq (.ops [kO 47 (.mov (kT 2)),
 kO 48 (.mov (kT 10)),
 kO 49 (kA .shr (kT 47) (kT 48)),
 kO 50 (kA .rem (kT 49) (kC 2)),
 kO 51 (kA .eql (kT 50) (kC 0)),
 kO 52 (.mov (kT 51)),
 ⟨some 53,.mov (kT 11),(some (52,kF))⟩,
 ⟨some 54,.mov (kT 12),(some (52,kF))⟩,
 ⟨some 55,kA .eql (kT 53) (kT 54),(some (52,kF))⟩,
 kO 56 (.pick (kT 52) (.const (.bool kE)) (kT 55))])
 (.cond (kT 56) (.exit 3)
 .skip))
 (.seq (.ops [kO 57 (.mov (kT 9)),
 kO 58 (kA .add (kT 57) (kC 1)),
 kO 9 (.mov (kT 58))])
 (.seq (.ops [kO 13 (.mov (kC 0))])
 (.block 4 (.loop (.seq (.seq (.ops [kO 59 (.mov (kT 13)),
 kO 60 (.mov (kT 0)),
 kO 61 (kA .lss (kT 59) (kT 60))])
 (.cond (kT 61) .skip
 (.exit 4)))
 (.seq (.block 5 (.seq (.ops [kO 64 (.mov (kT 7)),
 kO 65 (.mov (kT 13)),
 kO 66 (.idxS 1 (kT 64) (kT 65)),
 kO 67 (.load1 (kT 66)),
 kO 68 (.mov (kT 12)),
 kO 69 (kA .eql (kT 67) (kT 68))])
 (.cond (kT 69) (.ops [kO 70 (.mov (kT 7)),
 kO 71 (.mov (kT 13)),
 kO 72 (.mov (kT 11)),
 kO 73 (.idxS 1 (kT 70) (kT 71)),
 ⟨none,.store 1 (kT 73) (kT 72),none⟩])
 .skip)))
 (.ops [kO 62 (.mov (kT 13)),
 kO 63 (kA .add (kT 62) (kC 1)),
 kO 13 (.mov (kT 63))]))))))))))
 (.ops [kO 29 (.mov (kT 10)),
 kO 30 (kA .add (kT 29) (kC 1)),
 kO 10 (.mov (kT 30))]))))))
 (.seq (.ops [kO 74 (.mov (kT 9)),
 kO 6 (.mov (kT 74))])
 .ret))))))
theorem enter19 (hl : xs.length ≤ 75) (w : wq E 75 none c19 (frameOf xs) h [] (leaveQ E [.tmp 6] Q)) : CallP E 19 xs h Q :=
  CallP.enterQ (fn := Try.f19) (fn_get Try.func19) (code := Try.f19.body.get rfl) rfl rfl rfl (by kernel_rfl) rfl (fun _ => rfl) hl w
theorem can19 : callable E 19 = true := callable_get Try.func19 rfl rfl
theorem memo20 {h : Hp} {Q : Value → Hp → Prop} (q : Q (.bool true) h) : CallP E 20 [] h Q := CallP.memo rfl q
def c44 : C := (.seq (.ops [kO 4 (.mov (.const kN)),
 kO 5 (.mov (kC 0))])
 (.seq (.seq (.ops [kO 10 (.mov (kT 0)),
 kO 11 (.mov (kT 1)),
 kO 12 (.call 60 [.tmp 10,.tmp 11]),
 kO 6 (.mov (kT 12))])
 (.seq (.ops [kO 13 (.mov (kT 6)),
 kO 14 (kA .neq (kT 13) (kC 0))])
 (.cond (kT 14) (.seq (.ops [kO 15 (.mov (kT 6)),
 kO 4 (.mov (.const kN)),
 kO 5 (.mov (kT 15))])
 .ret)
 .skip)))
 (.seq (.ops [kO 16 (.mov (kT 0)),
 kO 17 (.mov (kT 1)),
 kO 18 (.aggr [kZ,kN] [(0,1,(kT 16)),(1,1,(kT 17))]),
 kO 7 (.alloc 83 [kZ,kN]),
 ⟨none,.store 2 (kT 7) (kT 18),none⟩])
 (.seq (.ops [kO 8 (.alloc 49 [kN])])
 (.seq (.seq (.ops [kO 19 (.mov (kT 1)),
 kO 20 (.lenS (kT 19)),
 kO 21 (.call 87 [.tmp 20])])
 (.block 0 (.range (kT 21) ⟨[22]⟩ (.ops [kO 9 (.mov (kT 22))])
 (.block 1 (.seq (.ops [kO 23 (.loadN 2 (kT 7)),
 kO 24 (.mov (kT 9)),
 kO 25 (.call 88 [.tmp 23,.tmp 24])])
 (.cond (kT 25) (.ops [kO 26 (.load1 (kT 8)),
 kO 27 (.mov (kT 9)),
 kO 28 (.slit 3 1 [kZ] [(0,1,(kT 27))]),
 kO 29 (.append 3 1 8 (kT 26) (kT 28)),
 ⟨none,.store 1 (kT 8) (kT 29),none⟩])
 .skip))))))
 (.seq (.ops [kO 30 (.load1 (kT 8)),
 kO 4 (.mov (kT 30)),
 kO 5 (.mov (kC 0))])
 .ret))))))
theorem enter44 (hl : xs.length ≤ 31) (w : wq E 31 none c44 (frameOf xs) h [] (leaveQ E [.tmp 4,.tmp 5] Q)) : CallP E 44 xs h Q :=
  CallP.enterQ (fn := Try.f44) (fn_get Try.func44) (code := Try.f44.body.get rfl) rfl rfl rfl (by kernel_rfl) rfl (fun _ => rfl) hl w
theorem can44 : callable E 44 = true := callable_get Try.func44 rfl rfl
def c45 : C := (.seq (.ops [kO 4 (.mov (.const kN))])
 (.seq (.ops [kO 5 (.mov (.const kN))])
 (.seq (.seq (.ops [kO 6 (.mov (kC 0))])
 (.block 0 (.loop (.seq (.seq (.ops [kO 7 (.mov (kT 6)),
 kO 8 (.mov (kT 1)),
 kO 9 (.call 69 [.tmp 8]),
 kO 10 (kA .leq (kT 7) (kT 9))])
 (.cond (kT 10) .skip
 (.exit 0)))
 (.seq (.block 1 (.seq (.ops [kO 13 (.mov (kT 0)),
 kO 14 (.mov (kT 1)),
 kO 15 (.mov (kT 6)),
 kO 16 (.call 48 [.tmp 13,.tmp 14,.tmp 15])])
 (.cond (kT 16) (.ops [kO 17 (.mov (kT 5)),
 kO 18 (.mov (kT 6)),
 kO 19 (.slit 3 1 [kZ] [(0,1,(kT 18))]),
 kO 20 (.append 3 1 8 (kT 17) (kT 19)),
 kO 5 (.mov (kT 20))])
 .skip)))
 (.ops [kO 11 (.mov (kT 6)),
 kO 12 (kA .add (kT 11) (kC 1)),
 kO 6 (.mov (kT 12))]))))))
 (.seq (.ops [kO 21 (.mov (kT 5)),
 kO 4 (.mov (kT 21))])
 .ret))))
theorem enter45 (hl : xs.length ≤ 22) (w : wq E 22 none c45 (frameOf xs) h [] (leaveQ E [.tmp 4] Q)) : CallP E 45 xs h Q :=
  CallP.enterQ (fn := Try.f45) (fn_get Try.func45) (code := Try.f45.body.get rfl) rfl rfl rfl (by kernel_rfl) rfl (fun _ => rfl) hl w
theorem can45 : callable E 45 = true := callable_get Try.func45 rfl rfl
def c46 : C := (.seq (.ops [kO 4 (.mov (.const (.bool kF)))])
 (.seq (.seq (.ops [kO 6 (.mov (kT 0)),
 kO 7 (.lenS (kT 6)),
 kO 8 (.mov (kT 1)),
 kO 9 (.lenS (kT 8)),
 kO 10 (kA .neq (kT 7) (kT 9))])
 (.cond (kT 10) (.seq (.ops [kO 4 (.mov (.const (.bool kF)))])
 .ret)
 .skip))
 (.seq (.seq (.ops [kO 5 (.mov (kC 0))])
 (.block 0 (.loop (.seq (.seq (.ops [kO 11 (.mov (kT 5)),
 kO 12 (.mov (kT 0)),
 kO 13 (.lenS (kT 12)),
 kO 14 (kA .lss (kT 11) (kT 13))])
 (.cond (kT 14) .skip
 (.exit 0)))
 (.seq (.block 1 (.seq (.ops [kO 17 (.mov (kT 0)),
 kO 18 (.mov (kT 5)),
 kO 19 (.idxS 1 (kT 17) (kT 18)),
 kO 20 (.load1 (kT 19)),
 kO 21 (.mov (kT 1)),
 kO 22 (.mov (kT 5)),
 kO 23 (.idxS 1 (kT 21) (kT 22)),
 kO 24 (.load1 (kT 23)),
 kO 25 (kA .neq (kT 20) (kT 24))])
 (.cond (kT 25) (.seq (.ops [kO 4 (.mov (.const (.bool kF)))])
 .ret)
 .skip)))
 (.ops [kO 15 (.mov (kT 5)),
 kO 16 (kA .add (kT 15) (kC 1)),
 kO 5 (.mov (kT 16))]))))))
 (.seq (.ops [kO 4 (.mov (.const (.bool kE)))])
 .ret))))
theorem enter46 (hl : xs.length ≤ 26) (w : wq E 26 none c46 (frameOf xs) h [] (leaveQ E [.tmp 4] Q)) : CallP E 46 xs h Q :=
  CallP.enterQ (fn := Try.f46) (fn_get Try.func46) (code := Try.f46.body.get rfl) rfl rfl rfl (by kernel_rfl) rfl (fun _ => rfl) hl w
theorem can46 : callable E 46 = true := callable_get Try.func46 rfl rfl
def c47 : C := (.seq (.ops [kO 6 (.mov (kC 0)),
 kO 7 (.mov (kC 0)),
 kO 8 (.mov (kC 0))])
 (.seq (.ops [kO 12 (.mov (kT 0)),
 kO 13 (.mov (kT 1)),
 kO 14 (.mov (kT 2)),
 kO 15 (.call 58 [.tmp 12,.tmp 13,.tmp 14]),
 kO 11 (.mov (kT 15)),
 kO 16 (.ext (kT 11) 0),
 kO 17 (.ext (kT 11) 1),
 kO 9 (.alloc 83 [kZ,kN]),
 ⟨none,.store 2 (kT 9) (kT 16),none⟩,
 kO 8 (.mov (kT 17))])
 (.seq (.seq (.ops [kO 18 (.mov (kT 8)),
 kO 19 (kA .neq (kT 18) (kC 0))])
 (.cond (kT 19) (.seq (.ops [kO 20 (.mov (kT 8)),
 kO 6 (.mov (kC 0)),
 kO 7 (.mov (kC 0)),
 kO 8 (.mov (kT 20))])
 .ret)
 .skip))
 (.seq (.seq (.ops [kO 21 (.loadN 2 (kT 9)),
 kO 22 (.mov (kT 2)),
 kO 23 (.call 88 [.tmp 21,.tmp 22]),
 kO 24 (.not (kT 23))])
 (.cond (kT 24) (.seq (.ops [kO 6 (.mov (kC 0)),
 kO 7 (.mov (kC 0)),
 kO 8 (.mov (kC 1))])
 .ret)
 .skip))
 (.seq (.seq (.ops [kO 25 (.mov (kT 1)),
 kO 26 (.lenS (kT 25)),
 kO 27 (.mov (kC 0))])
 (.block 0 (.loop (.seq (.ops [kO 28 (kA .lss (kT 27) (kT 26))])
 (.seq (.cond (kT 28) .skip
 (.exit 0))
 (.seq (.block 1 (.seq (.ops [kO 29 (.mov (kT 27)),
 kO 10 (.mov (kT 29))])
 (.block 2 (.seq (.ops [kO 33 (.loadN 2 (kT 9)),
 kO 34 (.mov (kT 2)),
 kO 35 (.mov (kT 10)),
 kO 36 (.call 89 [.tmp 33,.tmp 34,.tmp 35]),
 kO 37 (.not (kT 36)),
 kO 32 (.mov (kT 37))])
 (.cond (kT 32) .skip
 (.seq (.ops [kO 39 (.mov (kT 2)),
 kO 40 (.mov (kT 10)),
 kO 41 (.call 90 [.tmp 39,.tmp 40]),
 kO 38 (.mov (kT 41))])
 (.cond (kT 38) (.ops [kO 42 (.mov (kT 6)),
 kO 43 (kA .add (kT 42) (kC 1)),
 kO 6 (.mov (kT 43))])
 (.ops [kO 30 (.mov (kT 7)),
 kO 31 (kA .add (kT 30) (kC 1)),
 kO 7 (.mov (kT 31))]))))))))
 (.ops [kO 44 (kA .add (kT 27) (kC 1)),
 kO 27 (.mov (kT 44))])))))))
 (.seq (.ops [kO 45 (.mov (kT 6)),
 kO 46 (.mov (kT 7)),
 kO 6 (.mov (kT 45)),
 kO 7 (.mov (kT 46)),
 kO 8 (.mov (kC 0))])
 .ret))))))
theorem enter47 (hl : xs.length ≤ 47) (w : wq E 47 none c47 (frameOf xs) h [] (leaveQ E [.tmp 6,.tmp 7,.tmp 8] Q)) : CallP E 47 xs h Q :=
  CallP.enterQ (fn := Try.f47) (fn_get Try.func47) (code := Try.f47.body.get rfl) rfl rfl rfl (by kernel_rfl) rfl (fun _ => rfl) hl w
theorem can47 : callable E 47 = true := callable_get Try.func47 rfl rfl
def c48 : C := (.seq (.ops [kO 6 (.mov (.const (.bool kF)))])
 (.seq (.ops [kO 8 (.mov (kT 0)),
 kO 9 (.mov (kT 1)),
 kO 10 (.mov (kT 1)),
 kO 11 (.call 69 [.tmp 10]),
 kO 12 (.call 19 [.tmp 8,.tmp 9,.tmp 11]),
 kO 7 (.mov (kT 12))])
 (.seq (.ops [kO 13 (.mov (kT 2)),
 kO 14 (.call 71 [.tmp 13]),
 kO 15 (.mov (kT 7)),
 kO 16 (kA .eql (kT 14) (kT 15)),
 kO 17 (.mov (kT 16)),
 ⟨some 18,.mov (kT 0),(some (17,kE))⟩,
 ⟨some 19,.mov (kT 1),(some (17,kE))⟩,
 ⟨some 20,.mov (kT 2),(some (17,kE))⟩,
 ⟨some 21,.call 19 [.tmp 18,.tmp 19,.tmp 20],(some (17,kE))⟩,
 ⟨some 22,.mov (kT 7),(some (17,kE))⟩,
 ⟨some 23,kA .eql (kT 21) (kT 22),(some (17,kE))⟩,
 kO 24 (.pick (kT 17) (kT 23) (.const (.bool kF))),
 kO 6 (.mov (kT 24))])
 .ret)))
theorem enter48 (hl : xs.length ≤ 25) (w : wq E 25 none c48 (frameOf xs) h [] (leaveQ E [.tmp 6] Q)) : CallP E 48 xs h Q :=
  CallP.enterQ (fn := Try.f48) (fn_get Try.func48) (code := Try.f48.body.get rfl) rfl rfl rfl (by kernel_rfl) rfl (fun _ => rfl) hl w
theorem can48 : callable E 48 = true := callable_get Try.func48 rfl rfl
def c49 : C := (.seq (.ops [kO 6 (.mov (kC 0)),
 kO 7 (.mov (kC 0))])
 (.seq (.ops [kO 8 (.mov (kC 0)),
 kO 9 (.mov (kC 0))])
 (.seq (.seq (.ops [kO 10 (.mov (kC 0))])
 (.block 0 (.loop (.seq (.seq (.ops [kO 13 (.mov (kT 10)),
 kO 14 (.mov (kT 1)),
 kO 15 (.lenS (kT 14)),
 kO 16 (kA .lss (kT 13) (kT 15))])
 (.cond (kT 16) .skip
 (.exit 0)))
 (.seq (.block 1 (.seq (.ops [kO 11 (.mov (.const (.bool kE)))])
 (.seq (.seq (.ops [kO 12 (.mov (kC 0))])
 (.block 2 (.loop (.seq (.seq (.ops [kO 19 (.mov (kT 12)),
 kO 20 (.mov (kT 10)),
 kO 21 (kA .lss (kT 19) (kT 20))])
 (.cond (kT 21) .skip
 (.exit 2)))
 (.seq (.block 3 (.seq (.seq (.ops [kO 24 (.mov (kT 2)),
 kO 25 (.mov (kT 10)),
 kO 26 (kA .shr (kT 24) (kT 25)),
 kO 27 (kA .rem (kT 26) (kC 2)),
 kO 28 (kA .eql (kT 27) (kC 1)),
 kO 29 (.mov (kT 28)),
 ⟨some 30,.mov (kT 2),(some (29,kE))⟩,
 ⟨some 31,.mov (kT 12),(some (29,kE))⟩,
 ⟨some 32,kA .shr (kT 30) (kT 31),(some (29,kE))⟩,
 ⟨some 33,kA .rem (kT 32) (kC 2),(some (29,kE))⟩,
 ⟨some 34,kA .eql (kT 33) (kC 0),(some (29,kE))⟩,
 kO 35 (.pick (kT 29) (kT 34) (.const (.bool kF))),
 kO 36 (.mov (kT 35)),
 ⟨some 37,.mov (kT 0),(some (36,kE))⟩,
 ⟨some 38,.mov (kT 1),(some (36,kE))⟩,
 ⟨some 39,.mov (kT 2),(some (36,kE))⟩,
 ⟨some 40,.mov (kT 10),(some (36,kE))⟩,
 ⟨some 41,kA .shl (kC 1) (kT 40),(some (36,kE))⟩,
 ⟨some 42,kA .andNot (kT 39) (kT 41),(some (36,kE))⟩,
 ⟨some 43,.mov (kT 12),(some (36,kE))⟩,
 ⟨some 44,kA .shl (kC 1) (kT 43),(some (36,kE))⟩,
 ⟨some 45,kA .or (kT 42) (kT 44),(some (36,kE))⟩,
 ⟨some 46,.call 48 [.tmp 37,.tmp 38,.tmp 45],(some (36,kE))⟩,
 kO 47 (.pick (kT 36) (kT 46) (.const (.bool kF)))])
 (.cond (kT 47) (.ops [kO 11 (.mov (.const (.bool kF)))])
 .skip))
 (.seq (.ops [kO 48 (.mov (kT 2)),
 kO 49 (.mov (kT 10)),
 kO 50 (kA .shr (kT 48) (kT 49)),
 kO 51 (kA .rem (kT 50) (kC 2)),
 kO 52 (kA .eql (kT 51) (kC 0)),
 kO 53 (.mov (kT 52)),
 ⟨some 54,.mov (kT 2),(some (53,kE))⟩,
 ⟨some 55,.mov (kT 12),(some (53,kE))⟩,
 ⟨some 56,kA .shr (kT 54) (kT 55),(some (53,kE))⟩,
 ⟨some 57,kA .rem (kT 56) (kC 2),(some (53,kE))⟩,
 ⟨some 58,kA .eql (kT 57) (kC 1),(some (53,kE))⟩,
 kO 59 (.pick (kT 53) (kT 58) (.const (.bool kF))),
 kO 60 (.mov (kT 59)),
 ⟨some 61,.mov (kT 0),(some (60,kE))⟩,
 ⟨some 62,.mov (kT 1),(some (60,kE))⟩,
 ⟨some 63,.mov (kT 2),(some (60,kE))⟩,
 ⟨some 64,.mov (kT 12),(some (60,kE))⟩,
 ⟨some 65,kA .shl (kC 1) (kT 64),(some (60,kE))⟩,
 ⟨some 66,kA .andNot (kT 63) (kT 65),(some (60,kE))⟩,
 ⟨some 67,.mov (kT 10),(some (60,kE))⟩,
 ⟨some 68,kA .shl (kC 1) (kT 67),(some (60,kE))⟩,
 ⟨some 69,kA .or (kT 66) (kT 68),(some (60,kE))⟩,
 ⟨some 70,.call 48 [.tmp 61,.tmp 62,.tmp 69],(some (60,kE))⟩,
 kO 71 (.pick (kT 60) (kT 70) (.const (.bool kF)))])
 (.cond (kT 71) (.ops [kO 11 (.mov (.const (.bool kF)))])
 .skip))))
 (.ops [kO 22 (.mov (kT 12)),
 kO 23 (kA .add (kT 22) (kC 1)),
 kO 12 (.mov (kT 23))]))))))
 (.seq (.seq (.ops [kO 72 (.mov (kT 11)),
 kO 73 (.mov (kT 72)),
 ⟨some 74,.mov (kT 2),(some (73,kE))⟩,
 ⟨some 75,.mov (kT 10),(some (73,kE))⟩,
 ⟨some 76,kA .shr (kT 74) (kT 75),(some (73,kE))⟩,
 ⟨some 77,kA .rem (kT 76) (kC 2),(some (73,kE))⟩,
 ⟨some 78,kA .eql (kT 77) (kC 1),(some (73,kE))⟩,
 kO 79 (.pick (kT 73) (kT 78) (.const (.bool kF)))])
 (.cond (kT 79) (.ops [kO 80 (.mov (kT 8)),
 kO 81 (kA .add (kT 80) (kC 1)),
 kO 8 (.mov (kT 81))])
 .skip))
 (.seq (.ops [kO 82 (.mov (kT 11)),
 kO 83 (.mov (kT 82)),
 ⟨some 84,.mov (kT 2),(some (83,kE))⟩,
 ⟨some 85,.mov (kT 10),(some (83,kE))⟩,
 ⟨some 86,kA .shr (kT 84) (kT 85),(some (83,kE))⟩,
 ⟨some 87,kA .rem (kT 86) (kC 2),(some (83,kE))⟩,
 ⟨some 88,kA .eql (kT 87) (kC 0),(some (83,kE))⟩,
 kO 89 (.pick (kT 83) (kT 88) (.const (.bool kF)))])
 (.cond (kT 89) (.ops [kO 90 (.mov (kT 9)),
 kO 91 (kA .add (kT 90) (kC 1)),
 kO 9 (.mov (kT 91))])
 .skip))))))
 (.ops [kO 17 (.mov (kT 10)),
 kO 18 (kA .add (kT 17) (kC 1)),
 kO 10 (.mov (kT 18))]))))))
 (.seq (.ops [kO 92 (.mov (kT 8)),
 kO 93 (.mov (kT 9)),
 kO 6 (.mov (kT 92)),
 kO 7 (.mov (kT 93))])
 .ret))))
theorem enter49 (hl : xs.length ≤ 94) (w : wq E 94 none c49 (frameOf xs) h [] (leaveQ E [.tmp 6,.tmp 7] Q)) : CallP E 49 xs h Q :=
  CallP.enterQ (fn := Try.f49) (fn_get Try.func49) (code := Try.f49.body.get rfl) rfl rfl rfl (by kernel_rfl) rfl (fun _ => rfl) hl w
theorem can49 : callable E 49 = true := callable_get Try.func49 rfl rfl
def c58 : C := (.seq (.ops [kO 6 (.alloc 83 [kZ,kN]),
 kO 7 (.mov (kC 0))])
 (.seq (.ops [kO 10 (.mov (kT 0)),
 kO 11 (.mov (kT 1)),
 kO 12 (.aggr [kZ,kN] [(0,1,(kT 10)),(1,1,(kT 11))]),
 kO 8 (.alloc 83 [kZ,kN]),
 ⟨none,.store 2 (kT 8) (kT 12),none⟩])
 (.seq (.seq (.ops [kO 13 (.mov (kT 0)),
 kO 14 (.mov (kT 1)),
 kO 15 (.call 60 [.tmp 13,.tmp 14]),
 kO 9 (.mov (kT 15))])
 (.seq (.ops [kO 16 (.mov (kT 9)),
 kO 17 (kA .neq (kT 16) (kC 0))])
 (.cond (kT 17) (.seq (.ops [kO 18 (.aggr [kZ,kN] []),
 kO 19 (.mov (kT 9)),
 ⟨none,.store 2 (kT 6) (kT 18),none⟩,
 kO 7 (.mov (kT 19))])
 .ret)
 .skip)))
 (.seq (.seq (.ops [kO 20 (.loadN 2 (kT 8)),
 kO 21 (.mov (kT 2)),
 kO 22 (.call 96 [.tmp 20,.tmp 21]),
 kO 23 (.not (kT 22))])
 (.cond (kT 23) (.seq (.ops [kO 24 (.aggr [kZ,kN] []),
 ⟨none,.store 2 (kT 6) (kT 24),none⟩,
 kO 7 (.mov (kC 1))])
 .ret)
 .skip))
 (.seq (.ops [kO 25 (.loadN 2 (kT 8)),
 ⟨none,.store 2 (kT 6) (kT 25),none⟩,
 kO 7 (.mov (kC 0))])
 .ret)))))
theorem enter58 (hl : xs.length ≤ 26) (w : wq E 26 none c58 (frameOf xs) h [] (leaveQ E [.cell 6 83,.tmp 7] Q)) : CallP E 58 xs h Q :=
  CallP.enterQ (fn := Try.f58) (fn_get Try.func58) (code := Try.f58.body.get rfl) rfl rfl rfl (by kernel_rfl) rfl (fun _ => rfl) hl w
theorem can58 : callable E 58 = true := callable_get Try.func58 rfl rfl
def c59 : C := (.seq (.ops [kO 2 (.box 83 (kT 0)),
 kO 4 (.mov (kC 0))])
 (.seq (.ops [kO 8 (.call 97 []),
 kO 5 (.alloc 116 [kZ,kZ,kZ,kZ,kZ,kZ]),
 ⟨none,.store 6 (kT 5) (kT 8),none⟩])
 (.seq (.ops [kO 6 (.alloc 3 [kZ]),
 ⟨none,.store 1 (kT 6) (kC 0),none⟩])
 (.seq (.seq (.ops [kO 9 (.mov (kT 1)),
 kO 10 (.call 98 [.tmp 9])])
 (.block 0 (.range (kT 10) ⟨[11]⟩ (.ops [kO 7 (.mov (kT 11))])
 (.block 1 (.seq (.ops [kO 12 (.fldA 1 (kT 2)),
 kO 13 (.load1 (kT 12)),
 kO 14 (.mov (kT 7)),
 kO 15 (.idxS 2 (kT 13) (kT 14)),
 kO 16 (.idxA 2 1 (kT 15) (kC 0)),
 kO 17 (.load1 (kT 16)),
 kO 18 (.fldA 1 (kT 2)),
 kO 19 (.load1 (kT 18)),
 kO 20 (.mov (kT 7)),
 kO 21 (.idxS 2 (kT 19) (kT 20)),
 kO 22 (.idxA 2 1 (kT 21) (kC 1)),
 kO 23 (.load1 (kT 22)),
 kO 24 (.call 99 [.tmp 5,.tmp 17,.tmp 23])])
 (.cond (kT 24) (.ops [kO 25 (.load1 (kT 6)),
 kO 26 (kA .add (kT 25) (kC 1)),
 ⟨none,.store 1 (kT 6) (kT 26),none⟩])
 .skip))))))
 (.seq (.ops [kO 27 (.load1 (kT 6)),
 kO 4 (.mov (kT 27))])
 .ret)))))
theorem enter59 (hl : xs.length ≤ 28) (w : wq E 28 none c59 (frameOf xs) h [] (leaveQ E [.tmp 4] Q)) : CallP E 59 xs h Q :=
  CallP.enterQ (fn := Try.f59) (fn_get Try.func59) (code := Try.f59.body.get rfl) rfl rfl rfl (by kernel_rfl) rfl (fun _ => rfl) hl w
theorem can59 : callable E 59 = true := callable_get Try.func59 rfl rfl
def c60 : C := (.seq (.ops [kO 4 (.mov (kC 0))])
 (.seq (.seq (.ops [kO 7 (.mov (kT 0)),
 kO 8 (kA .lss (kT 7) (kC 1)),
 kO 9 (.mov (kT 8)),
 ⟨some 10,.mov (kT 0),(some (9,kF))⟩,
 ⟨some 11,kA .gtr (kT 10) (kC 6),(some (9,kF))⟩,
 kO 12 (.pick (kT 9) (.const (.bool kE)) (kT 11))])
 (.cond (kT 12) (.seq (.ops [kO 4 (.mov (kC 1))])
 .ret)
 .skip))
 (.seq (.seq (.ops [kO 13 (.mov (kT 1)),
 kO 14 (.lenS (kT 13)),
 kO 15 (kA .gtr (kT 14) (kC 9))])
 (.cond (kT 15) (.seq (.ops [kO 4 (.mov (kC 10))])
 .ret)
 .skip))
 (.seq (.seq (.ops [kO 16 (.mov (kT 1)),
 kO 17 (.lenS (kT 16)),
 kO 18 (.mov (kC 0))])
 (.block 0 (.loop (.seq (.ops [kO 19 (kA .lss (kT 18) (kT 17))])
 (.seq (.cond (kT 19) .skip
 (.exit 0))
 (.seq (.block 1 (.seq (.ops [kO 20 (.mov (kT 18)),
 kO 21 (.idxS 2 (kT 16) (kT 18)),
 kO 22 (.loadN 2 (kT 21)),
 kO 6 (.alloc 79 [kZ,kZ]),
 kO 5 (.mov (kT 20)),
 ⟨none,.store 2 (kT 6) (kT 22),none⟩])
 (.seq (.seq (.ops [kO 23 (.idxA 2 1 (kT 6) (kC 0)),
 kO 24 (.load1 (kT 23)),
 kO 25 (kA .lss (kT 24) (kC 0)),
 kO 26 (.mov (kT 25)),
 ⟨some 27,.idxA 2 1 (kT 6) (kC 0),(some (26,kF))⟩,
 ⟨some 28,.load1 (kT 27),(some (26,kF))⟩,
 ⟨some 29,.idxA 2 1 (kT 6) (kC 1),(some (26,kF))⟩,
 ⟨some 30,.load1 (kT 29),(some (26,kF))⟩,
 ⟨some 31,kA .gtr (kT 28) (kT 30),(some (26,kF))⟩,
 kO 32 (.pick (kT 26) (.const (.bool kE)) (kT 31)),
 kO 33 (.mov (kT 32)),
 ⟨some 34,.idxA 2 1 (kT 6) (kC 1),(some (33,kF))⟩,
 ⟨some 35,.load1 (kT 34),(some (33,kF))⟩,
 ⟨some 36,.mov (kT 0),(some (33,kF))⟩,
 ⟨some 37,kA .geq (kT 35) (kT 36),(some (33,kF))⟩,
 kO 38 (.pick (kT 33) (.const (.bool kE)) (kT 37))])
 (.cond (kT 38) (.seq (.ops [kO 4 (.mov (kC 10))])
 .ret)
 .skip))
 (.seq (.ops [kO 39 (.mov (kT 5)),
 kO 40 (kA .gtr (kT 39) (kC 0)),
 kO 41 (.mov (kT 40)),
 ⟨some 42,.loadN 2 (kT 6),(some (41,kE))⟩,
 ⟨some 43,.mov (kT 1),(some (41,kE))⟩,
 ⟨some 44,.mov (kT 5),(some (41,kE))⟩,
 ⟨some 45,kA .sub (kT 44) (kC 1),(some (41,kE))⟩,
 ⟨some 46,.idxS 2 (kT 43) (kT 45),(some (41,kE))⟩,
 ⟨some 47,.loadN 2 (kT 46),(some (41,kE))⟩,
 ⟨some 48,.call 100 [.tmp 42,.tmp 47],(some (41,kE))⟩,
 ⟨some 49,kA .lss (kT 48) (kC 0),(some (41,kE))⟩,
 kO 50 (.pick (kT 41) (kT 49) (.const (.bool kF)))])
 (.cond (kT 50) (.seq (.ops [kO 4 (.mov (kC 10))])
 .ret)
 .skip)))))
 (.ops [kO 51 (kA .add (kT 18) (kC 1)),
 kO 18 (.mov (kT 51))])))))))
 (.seq (.ops [kO 4 (.mov (kC 0))])
 .ret)))))
theorem enter60 (hl : xs.length ≤ 52) (w : wq E 52 none c60 (frameOf xs) h [] (leaveQ E [.tmp 4] Q)) : CallP E 60 xs h Q :=
  CallP.enterQ (fn := Try.f60) (fn_get Try.func60) (code := Try.f60.body.get rfl) rfl rfl rfl (by kernel_rfl) rfl (fun _ => rfl) hl w
theorem can60 : callable E 60 = true := callable_get Try.func60 rfl rfl
def c63 : C := (.seq (.ops [kO 2 (.mov (kC 0))])
 (.seq (.ops [kO 3 (.mov (kT 0)),
 kO 4 (.cint .u64 (kT 3)),
 kO 5 (.call 101 [.tmp 4]),
 kO 2 (.mov (kT 5))])
 .ret))
theorem enter63 (hl : xs.length ≤ 6) (w : wq E 6 none c63 (frameOf xs) h [] (leaveQ E [.tmp 2] Q)) : CallP E 63 xs h Q :=
  CallP.enterQ (fn := Try.f63) (fn_get Try.func63) (code := Try.f63.body.get rfl) rfl rfl rfl (by kernel_rfl) rfl (fun _ => rfl) hl w
theorem can63 : callable E 63 = true := callable_get Try.func63 rfl rfl
def c69 : C := (.seq (.ops [kO 2 (.mov (kC 0))])
 (.seq (.ops [kO 3 (.mov (kT 0)),
 kO 4 (.lenS (kT 3)),
 kO 5 (kA .shl (kC 1) (kT 4)),
 kO 6 (kA .sub (kT 5) (kC 1)),
 kO 2 (.mov (kT 6))])
 .ret))
theorem enter69 (hl : xs.length ≤ 7) (w : wq E 7 none c69 (frameOf xs) h [] (leaveQ E [.tmp 2] Q)) : CallP E 69 xs h Q :=
  CallP.enterQ (fn := Try.f69) (fn_get Try.func69) (code := Try.f69.body.get rfl) rfl rfl rfl (by kernel_rfl) rfl (fun _ => rfl) hl w
theorem can69 : callable E 69 = true := callable_get Try.func69 rfl rfl
def c71 : C := (.seq (.ops [kO 2 (.mov (kC 0))])
 (.seq (.ops [kO 3 (.mov (kC 0))])
 (.seq (.seq (.ops [kO 4 (.mov (kC 0))])
 (.block 0 (.loop (.seq (.seq (.ops [kO 5 (.mov (kT 0)),
 kO 6 (.mov (kT 4)),
 kO 7 (kA .shr (kT 5) (kT 6)),
 kO 8 (kA .gtr (kT 7) (kC 0))])
 (.cond (kT 8) .skip
 (.exit 0)))
 (.seq (.block 1 (.ops [kO 11 (.mov (kT 3)),
 kO 12 (.mov (kT 0)),
 kO 13 (.mov (kT 4)),
 kO 14 (kA .shr (kT 12) (kT 13)),
 kO 15 (kA .rem (kT 14) (kC 2)),
 kO 16 (kA .add (kT 11) (kT 15)),
 kO 3 (.mov (kT 16))]))
 (.ops [kO 9 (.mov (kT 4)),
 kO 10 (kA .add (kT 9) (kC 1)),
 kO 4 (.mov (kT 10))]))))))
 (.seq (.ops [kO 17 (.mov (kT 3)),
 kO 2 (.mov (kT 17))])
 .ret))))
theorem enter71 (hl : xs.length ≤ 18) (w : wq E 18 none c71 (frameOf xs) h [] (leaveQ E [.tmp 2] Q)) : CallP E 71 xs h Q :=
  CallP.enterQ (fn := Try.f71) (fn_get Try.func71) (code := Try.f71.body.get rfl) rfl rfl rfl (by kernel_rfl) rfl (fun _ => rfl) hl w
theorem can71 : callable E 71 = true := callable_get Try.func71 rfl rfl
def c87 : C := (.seq (.ops [kO 1 (.box 3 (kT 0)),
 kO 2 (.mov (.const .nilFunc))])
 (.seq (.ops [kO 3 (.func (.func 115) [] [.tmp 1]),
 kO 2 (.mov (kT 3))])
 .ret))
theorem enter87 (hl : xs.length ≤ 4) (w : wq E 4 none c87 (frameOf xs) h [] (leaveQ E [.tmp 2] Q)) : CallP E 87 xs h Q :=
  CallP.enterQ (fn := Try.f87) (fn_get Try.func87) (code := Try.f87.body.get rfl) rfl rfl rfl (by kernel_rfl) rfl (fun _ => rfl) hl w
theorem can87 : callable E 87 = true := callable_get Try.func87 rfl rfl
def c88 : C := (.seq (.ops [kO 2 (.box 83 (kT 0)),
 kO 4 (.mov (.const (.bool kF)))])
 (.seq (.draw [kO 6 (.loadN 2 (kT 2)),
 kO 7 (.loadN 2 (kT 2)),
 kO 8 (.call 113 [.tmp 7]),
 kO 9 (.call 59 [.tmp 6,.tmp 8]),
 kO 5 (.mov (kT 9))]
 [⟨kF,kE,fL2,fL4⟩,
 ⟨kF,kF,fL2,fL2⟩,
 ⟨kE,kF,fL2,fL4⟩,
 ⟨kE,kF,fL4,fL5⟩,
 ⟨kF,kF,fL5,fL5⟩])
 (.seq (.ops [kO 10 (.mov (kT 1)),
 kO 11 (.call 63 [.tmp 10]),
 kO 12 (.mov (kT 5)),
 kO 13 (kA .eql (kT 11) (kT 12)),
 kO 14 (.mov (kT 13)),
 ⟨some 15,.loadN 2 (kT 2),(some (14,kE))⟩,
 ⟨some 16,.mov (kT 1),(some (14,kE))⟩,
 ⟨some 17,.call 59 [.tmp 15,.tmp 16],(some (14,kE))⟩,
 ⟨some 18,.mov (kT 5),(some (14,kE))⟩,
 ⟨some 19,kA .eql (kT 17) (kT 18),(some (14,kE))⟩,
 kO 20 (.pick (kT 14) (kT 19) (.const (.bool kF))),
 kO 4 (.mov (kT 20))])
 .ret)))
theorem enter88 (hl : xs.length ≤ 21) (w : wq E 21 none c88 (frameOf xs) h [] (leaveQ E [.tmp 4] Q)) : CallP E 88 xs h Q :=
  CallP.enterQ (fn := Try.f88) (fn_get Try.func88) (code := Try.f88.body.get rfl) rfl rfl rfl (by kernel_rfl) rfl (fun _ => rfl) hl w
theorem can88 : callable E 88 = true := callable_get Try.func88 rfl rfl
def c89 : C := (.seq (.ops [kO 3 (.box 83 (kT 0)),
 kO 6 (.mov (.const (.bool kF)))])
 (.seq (.seq (.ops [kO 8 (.mov (kT 2)),
 kO 9 (.mov (kC 0))])
 (.block 0 (.loop (.seq (.ops [kO 10 (kA .lss (kT 9) (kT 8))])
 (.seq (.cond (kT 10) .skip
 (.exit 0))
 (.seq (.block 1 (.seq (.ops [kO 11 (.mov (kT 9)),
 kO 7 (.mov (kT 11))])
 (.seq (.draw [kO 12 (.mov (kT 1)),
 kO 13 (.mov (kT 7)),
 kO 14 (.call 90 [.tmp 12,.tmp 13]),
 kO 15 (.mov (kT 1)),
 kO 16 (.mov (kT 2)),
 kO 17 (.call 90 [.tmp 15,.tmp 16]),
 kO 18 (.raw (.binOp .neq 4 (kT 14) (kT 17) 4) 4),
 kO 19 (.mov (kT 18)),
 ⟨some 20,.loadN 2 (kT 3),(some (19,kE))⟩,
 ⟨some 21,.mov (kT 1),(some (19,kE))⟩,
 ⟨some 22,.mov (kT 2),(some (19,kE))⟩,
 ⟨some 23,kA .shl (kC 1) (kT 22),(some (19,kE))⟩,
 ⟨some 24,kA .xor (kT 21) (kT 23),(some (19,kE))⟩,
 ⟨some 25,.mov (kT 7),(some (19,kE))⟩,
 ⟨some 26,kA .shl (kC 1) (kT 25),(some (19,kE))⟩,
 ⟨some 27,kA .xor (kT 24) (kT 26),(some (19,kE))⟩,
 ⟨some 28,.call 88 [.tmp 20,.tmp 27],(some (19,kE))⟩,
 kO 29 (.pick (kT 19) (kT 28) (.const (.bool kF)))]
 [⟨kF,kF,fL1,fL1⟩,
 ⟨kF,kF,fL1,fL1⟩,
 ⟨kE,kF,fL1,fL3⟩,
 ⟨kF,kE,fL1,fL3⟩,
 ⟨kF,kE,fL1,fL3⟩,
 ⟨kE,kF,fL3,fL0⟩,
 ⟨kF,kF,fL0,fL0⟩,
 ⟨kF,kF,fL0,fL0⟩,
 ⟨kF,kF,fL0,fL0⟩,
 ⟨kF,kF,fL0,fL0⟩,
 ⟨kF,kF,fL0,fL0⟩,
 ⟨kF,kF,fL0,fL0⟩,
 ⟨kF,kF,fL0,fL0⟩,
 ⟨kF,kF,fL0,fL0⟩,
 ⟨kF,kF,fL0,fL0⟩,
 ⟨kF,kF,fL0,fL0⟩,
 ⟨kE,kF,fL0,fL6⟩,
 ⟨kF,kF,fL6,fL6⟩])
 (.cond (kT 29) (.seq (.ops [kO 6 (.mov (.const (.bool kF)))])
 .ret)
 .skip))))
 (.ops [kO 30 (kA .add (kT 9) (kC 1)),
 kO 9 (.mov (kT 30))])))))))
 (.seq (.ops [kO 6 (.mov (.const (.bool kE)))])
 .ret)))
theorem enter89 (hl : xs.length ≤ 31) (w : wq E 31 none c89 (frameOf xs) h [] (leaveQ E [.tmp 6] Q)) : CallP E 89 xs h Q :=
  CallP.enterQ (fn := Try.f89) (fn_get Try.func89) (code := Try.f89.body.get rfl) rfl rfl rfl (by kernel_rfl) rfl (fun _ => rfl) hl w
theorem can89 : callable E 89 = true := callable_get Try.func89 rfl rfl
def c90 : C := (.seq (.ops [kO 4 (.mov (.const (.bool kF)))])
 (.seq (.ops [kO 5 (.mov (kT 0)),
 kO 6 (.mov (kT 1)),
 kO 7 (kA .shr (kT 5) (kT 6)),
 kO 8 (kA .and (kT 7) (kC 1)),
 kO 9 (kA .eql (kT 8) (kC 1)),
 kO 4 (.mov (kT 9))])
 .ret))
theorem enter90 (hl : xs.length ≤ 10) (w : wq E 10 none c90 (frameOf xs) h [] (leaveQ E [.tmp 4] Q)) : CallP E 90 xs h Q :=
  CallP.enterQ (fn := Try.f90) (fn_get Try.func90) (code := Try.f90.body.get rfl) rfl rfl rfl (by kernel_rfl) rfl (fun _ => rfl) hl w
theorem can90 : callable E 90 = true := callable_get Try.func90 rfl rfl
def c96 : C := (.seq (.ops [kO 2 (.box 83 (kT 0)),
 kO 4 (.mov (.const (.bool kF)))])
 (.seq (.ops [kO 5 (.mov (kT 1)),
 kO 6 (kA .geq (kT 5) (kC 0)),
 kO 7 (.mov (kT 6)),
 ⟨some 8,.mov (kT 1),(some (7,kE))⟩,
 ⟨some 9,.loadN 2 (kT 2),(some (7,kE))⟩,
 ⟨some 10,.call 113 [.tmp 9],(some (7,kE))⟩,
 ⟨some 11,kA .leq (kT 8) (kT 10),(some (7,kE))⟩,
 kO 12 (.pick (kT 7) (kT 11) (.const (.bool kF))),
 kO 4 (.mov (kT 12))])
 .ret))
theorem enter96 (hl : xs.length ≤ 13) (w : wq E 13 none c96 (frameOf xs) h [] (leaveQ E [.tmp 4] Q)) : CallP E 96 xs h Q :=
  CallP.enterQ (fn := Try.f96) (fn_get Try.func96) (code := Try.f96.body.get rfl) rfl rfl rfl (by kernel_rfl) rfl (fun _ => rfl) hl w
theorem can96 : callable E 96 = true := callable_get Try.func96 rfl rfl
def c97 : C := (.seq (.ops [kO 0 (.alloc 116 [kZ,kZ,kZ,kZ,kZ,kZ])])
 (.seq (.ops [kO 1 (.alloc 116 [kZ,kZ,kZ,kZ,kZ,kZ])])
 (.seq (.seq (.ops [kO 3 (.mov (kC 0))])
 (.block 0 (.loop (.seq (.ops [kO 4 (kA .lss (kT 3) (kC 6))])
 (.seq (.cond (kT 4) .skip
 (.exit 0))
 (.seq (.block 1 (.seq (.ops [kO 5 (.mov (kT 3)),
 kO 2 (.mov (kT 5))])
 (.ops [kO 6 (.mov (kT 2)),
 kO 7 (.mov (kT 2)),
 kO 8 (.idxA 6 1 (kT 1) (kT 6)),
 ⟨none,.store 1 (kT 8) (kT 7),none⟩])))
 (.ops [kO 9 (kA .add (kT 3) (kC 1)),
 kO 3 (.mov (kT 9))])))))))
 (.seq (.ops [kO 10 (.loadN 6 (kT 1)),
 ⟨none,.store 6 (kT 0) (kT 10),none⟩])
 .ret))))
theorem enter97 (hl : xs.length ≤ 11) (w : wq E 11 none c97 (frameOf xs) h [] (leaveQ E [.cell 0 116] Q)) : CallP E 97 xs h Q :=
  CallP.enterQ (fn := Try.f97) (fn_get Try.func97) (code := Try.f97.body.get rfl) rfl rfl rfl (by kernel_rfl) rfl (fun _ => rfl) hl w
theorem can97 : callable E 97 = true := callable_get Try.func97 rfl rfl
def c98 : C := (.seq (.ops [kO 1 (.box 3 (kT 0)),
 kO 2 (.mov (.const .nilFunc))])
 (.seq (.ops [kO 3 (.func (.func 120) [] [.tmp 1]),
 kO 2 (.mov (kT 3))])
 .ret))
theorem enter98 (hl : xs.length ≤ 4) (w : wq E 4 none c98 (frameOf xs) h [] (leaveQ E [.tmp 2] Q)) : CallP E 98 xs h Q :=
  CallP.enterQ (fn := Try.f98) (fn_get Try.func98) (code := Try.f98.body.get rfl) rfl rfl rfl (by kernel_rfl) rfl (fun _ => rfl) hl w
theorem can98 : callable E 98 = true := callable_get Try.func98 rfl rfl
def c99 : C := (.seq (.ops [kO 6 (.mov (.const (.bool kF)))])
 (.seq (.ops [kO 11 (.mov (kT 0)),
 kO 12 (.mov (kT 2)),
 kO 13 (.nilc (kT 11)),
 kO 14 (.idxA 6 1 (kT 13) (kT 12)),
 kO 15 (.load1 (kT 14)),
 kO 16 (.mov (kT 0)),
 kO 17 (.mov (kT 1)),
 kO 18 (.nilc (kT 16)),
 kO 19 (.idxA 6 1 (kT 18) (kT 17)),
 kO 20 (.load1 (kT 19)),
 kO 7 (.mov (kT 15)),
 kO 8 (.mov (kT 20))])
 (.seq (.seq (.ops [kO 21 (.mov (kT 7)),
 kO 22 (.mov (kT 8)),
 kO 23 (kA .eql (kT 21) (kT 22))])
 (.cond (kT 23) (.seq (.ops [kO 6 (.mov (.const (.bool kF)))])
 .ret)
 .skip))
 (.seq (.seq (.ops [kO 24 (.mov (kT 0)),
 kO 25 (.mov (kC 0))])
 (.block 0 (.loop (.seq (.ops [kO 26 (kA .lss (kT 25) (kC 6))])
 (.seq (.cond (kT 26) .skip
 (.exit 0))
 (.seq (.block 1 (.seq (.ops [kO 27 (.mov (kT 25)),
 kO 28 (.nilc (kT 24)),
 kO 29 (.idxA 6 1 (kT 28) (kT 25)),
 kO 30 (.load1 (kT 29)),
 kO 9 (.mov (kT 27)),
 kO 10 (.mov (kT 30))])
 (.seq (.ops [kO 31 (.mov (kT 10)),
 kO 32 (.mov (kT 7)),
 kO 33 (kA .eql (kT 31) (kT 32))])
 (.cond (kT 33) (.ops [kO 34 (.mov (kT 0)),
 kO 35 (.mov (kT 9)),
 kO 36 (.mov (kT 8)),
 kO 37 (.nilc (kT 34)),
 kO 38 (.idxA 6 1 (kT 37) (kT 35)),
 ⟨none,.store 1 (kT 38) (kT 36),none⟩])
 .skip))))
 (.ops [kO 39 (kA .add (kT 25) (kC 1)),
 kO 25 (.mov (kT 39))])))))))
 (.seq (.ops [kO 6 (.mov (.const (.bool kE)))])
 .ret)))))
theorem enter99 (hl : xs.length ≤ 40) (w : wq E 40 none c99 (frameOf xs) h [] (leaveQ E [.tmp 6] Q)) : CallP E 99 xs h Q :=
  CallP.enterQ (fn := Try.f99) (fn_get Try.func99) (code := Try.f99.body.get rfl) rfl rfl rfl (by kernel_rfl) rfl (fun _ => rfl) hl w
theorem can99 : callable E 99 = true := callable_get Try.func99 rfl rfl
def c100 : C := (.seq (.ops [kO 2 (.box 79 (kT 0)),
 kO 3 (.box 79 (kT 1)),
 kO 4 (.mov (kC 0))])
 (.seq (.ops [kO 5 (.cutA 2 1 (kT 2) none none none),
 kO 6 (.cutA 2 1 (kT 3) none none none),
 kO 7 (.call 121 [.tmp 5,.tmp 6]),
 kO 4 (.mov (kT 7))])
 .ret))
theorem enter100 (hl : xs.length ≤ 8) (w : wq E 8 none c100 (frameOf xs) h [] (leaveQ E [.tmp 4] Q)) : CallP E 100 xs h Q :=
  CallP.enterQ (fn := Try.f100) (fn_get Try.func100) (code := Try.f100.body.get rfl) rfl rfl rfl (by kernel_rfl) rfl (fun _ => rfl) hl w
theorem can100 : callable E 100 = true := callable_get Try.func100 rfl rfl
def c101 : C := (.seq (.ops [kO 2 (.mov (kC 0))])
 (.seq (.cond (.const (.bool kF)) (.seq (.ops [kO 3 (.mov (kT 0)),
 kO 4 (.cint .u32 (kT 3)),
 kO 5 (.call 122 [.tmp 4]),
 kO 2 (.mov (kT 5))])
 .ret)
 .skip)
 (.seq (.ops [kO 6 (.mov (kT 0)),
 kO 7 (.call 123 [.tmp 6]),
 kO 2 (.mov (kT 7))])
 .ret)))
theorem enter101 (hl : xs.length ≤ 8) (w : wq E 8 none c101 (frameOf xs) h [] (leaveQ E [.tmp 2] Q)) : CallP E 101 xs h Q :=
  CallP.enterQ (fn := Try.f101) (fn_get Try.func101) (code := Try.f101.body.get rfl) rfl rfl rfl (by kernel_rfl) rfl (fun _ => rfl) hl w
theorem can101 : callable E 101 = true := callable_get Try.func101 rfl rfl
def c113 : C := (.seq (.ops [kO 1 (.box 83 (kT 0)),
 kO 2 (.mov (kC 0))])
 (.seq (.ops [kO 3 (.fldA 1 (kT 1)),
 kO 4 (.load1 (kT 3)),
 kO 5 (.lenS (kT 4)),
 kO 6 (kA .shl (kC 1) (kT 5)),
 kO 7 (kA .sub (kT 6) (kC 1)),
 kO 2 (.mov (kT 7))])
 .ret))
theorem enter113 (hl : xs.length ≤ 8) (w : wq E 8 none c113 (frameOf xs) h [] (leaveQ E [.tmp 2] Q)) : CallP E 113 xs h Q :=
  CallP.enterQ (fn := Try.f113) (fn_get Try.func113) (code := Try.f113.body.get rfl) rfl rfl rfl (by kernel_rfl) rfl (fun _ => rfl) hl w
theorem can113 : callable E 113 = true := callable_get Try.func113 rfl rfl
def c115 : C := (.seq (.ops [kO 4 (.load1 (kT 1)),
 kO 5 (kA .shl (kC 1) (kT 4)),
 kO 6 (.mov (kC 0))])
 (.block 0 (.loop (.seq (.ops [kO 7 (kA .lss (kT 6) (kT 5))])
 (.seq (.cond (kT 7) .skip
 (.exit 0))
 (.seq (.block 1 (.seq (.ops [kO 8 (.mov (kT 6)),
 kO 3 (.mov (kT 8))])
 (.seq (.ops [kO 9 (.mov (kT 0)),
 kO 10 (.mov (kT 3)),
 kO 11 (.callv (kT 9) [.tmp 10]),
 kO 12 (.not (kT 11))])
 (.cond (kT 12) .ret
 .skip))))
 (.ops [kO 13 (kA .add (kT 6) (kC 1)),
 kO 6 (.mov (kT 13))])))))))
theorem enter115 (hl : xs.length ≤ 14) (w : wq E 14 none c115 (frameOf xs) h [] (leaveQ E [] Q)) : CallP E 115 xs h Q :=
  CallP.enterQ (fn := Try.f115) (fn_get Try.func115) (code := Try.f115.body.get rfl) rfl rfl rfl (by kernel_rfl) rfl (fun _ => rfl) hl w
theorem can115 : callable E 115 = true := callable_get Try.func115 rfl rfl
def c120 : C := (.seq (.ops [kO 3 (.mov (kC 0))])
 (.block 0 (.loop (.seq (.seq (.ops [kO 4 (.load1 (kT 1)),
 kO 5 (.mov (kT 3)),
 kO 6 (kA .shr (kT 4) (kT 5)),
 kO 7 (kA .gtr (kT 6) (kC 0))])
 (.cond (kT 7) .skip
 (.exit 0)))
 (.seq (.block 1 (.seq (.ops [kO 10 (.load1 (kT 1)),
 kO 11 (.mov (kT 3)),
 kO 12 (.call 90 [.tmp 10,.tmp 11]),
 kO 13 (.mov (kT 12)),
 ⟨some 14,.mov (kT 0),(some (13,kE))⟩,
 ⟨some 15,.mov (kT 3),(some (13,kE))⟩,
 ⟨some 16,.callv (kT 14) [.tmp 15],(some (13,kE))⟩,
 ⟨some 17,.not (kT 16),(some (13,kE))⟩,
 kO 18 (.pick (kT 13) (kT 17) (.const (.bool kF)))])
 (.cond (kT 18) .ret
 .skip)))
 (.ops [kO 8 (.mov (kT 3)),
 kO 9 (kA .add (kT 8) (kC 1)),
 kO 3 (.mov (kT 9))]))))))
theorem enter120 (hl : xs.length ≤ 19) (w : wq E 19 none c120 (frameOf xs) h [] (leaveQ E [] Q)) : CallP E 120 xs h Q :=
  CallP.enterQ (fn := Try.f120) (fn_get Try.func120) (code := Try.f120.body.get rfl) rfl rfl rfl (by kernel_rfl) rfl (fun _ => rfl) hl w
theorem can120 : callable E 120 = true := callable_get Try.func120 rfl rfl
def c121 : C := (.seq (.ops [kO 4 (.mov (kC 0))])
 (.seq (.seq (.ops [kO 9 (.mov (kT 0)),
 kO 10 (.lenS (kT 9)),
 kO 11 (.mov (kC 0))])
 (.block 0 (.loop (.seq (.ops [kO 12 (kA .lss (kT 11) (kT 10))])
 (.seq (.cond (kT 12) .skip
 (.exit 0))
 (.seq (.block 1 (.seq (.ops [kO 13 (.mov (kT 11)),
 kO 14 (.idxS 1 (kT 9) (kT 11)),
 kO 15 (.load1 (kT 14)),
 kO 5 (.mov (kT 13)),
 kO 6 (.mov (kT 15))])
 (.seq (.seq (.ops [kO 16 (.mov (kT 5)),
 kO 17 (.mov (kT 1)),
 kO 18 (.lenS (kT 17)),
 kO 19 (kA .geq (kT 16) (kT 18))])
 (.cond (kT 19) (.seq (.ops [kO 4 (.mov (kC 1))])
 .ret)
 .skip))
 (.seq (.ops [kO 20 (.mov (kT 1)),
 kO 21 (.mov (kT 5)),
 kO 22 (.idxS 1 (kT 20) (kT 21)),
 kO 23 (.load1 (kT 22)),
 kO 7 (.mov (kT 23))])
 (.seq (.ops [kO 24 (.mov (kT 6)),
 kO 25 (.mov (kT 7)),
 kO 26 (.call 133 [.tmp 24,.tmp 25]),
 kO 8 (.mov (kT 26))])
 (.seq (.ops [kO 27 (.mov (kT 8)),
 kO 28 (kA .neq (kT 27) (kC 0))])
 (.cond (kT 28) (.seq (.ops [kO 29 (.mov (kT 8)),
 kO 4 (.mov (kT 29))])
 .ret)
 .skip)))))))
 (.ops [kO 30 (kA .add (kT 11) (kC 1)),
 kO 11 (.mov (kT 30))])))))))
 (.seq (.seq (.ops [kO 31 (.mov (kT 0)),
 kO 32 (.lenS (kT 31)),
 kO 33 (.mov (kT 1)),
 kO 34 (.lenS (kT 33)),
 kO 35 (kA .lss (kT 32) (kT 34))])
 (.cond (kT 35) (.seq (.ops [kO 4 (.mov (.const (.int .i64 (-1))))])
 .ret)
 .skip))
 (.seq (.ops [kO 4 (.mov (kC 0))])
 .ret))))
theorem enter121 (hl : xs.length ≤ 36) (w : wq E 36 none c121 (frameOf xs) h [] (leaveQ E [.tmp 4] Q)) : CallP E 121 xs h Q :=
  CallP.enterQ (fn := Try.f121) (fn_get Try.func121) (code := Try.f121.body.get rfl) rfl rfl rfl (by kernel_rfl) rfl (fun _ => rfl) hl w
theorem can121 : callable E 121 = true := callable_get Try.func121 rfl rfl
def c123 : C := (.seq (.ops [kO 2 (.mov (kC 0))])
 (.seq (.ops [kO 3 (.mov (kT 0)),
 kO 4 (.ar .u64 .shr (kT 3) (.const (.int .u64 1))),
 kO 5 (.ar .u64 .and (kT 4) (.const (.int .u64 6148914691236517205))),
 kO 6 (.mov (kT 0)),
 kO 7 (.ar .u64 .and (kT 6) (.const (.int .u64 6148914691236517205))),
 kO 8 (.ar .u64 .add (kT 5) (kT 7)),
 kO 0 (.mov (kT 8))])
 (.seq (.ops [kO 9 (.mov (kT 0)),
 kO 10 (.ar .u64 .shr (kT 9) (.const (.int .u64 2))),
 kO 11 (.ar .u64 .and (kT 10) (.const (.int .u64 3689348814741910323))),
 kO 12 (.mov (kT 0)),
 kO 13 (.ar .u64 .and (kT 12) (.const (.int .u64 3689348814741910323))),
 kO 14 (.ar .u64 .add (kT 11) (kT 13)),
 kO 0 (.mov (kT 14))])
 (.seq (.ops [kO 15 (.mov (kT 0)),
 kO 16 (.ar .u64 .shr (kT 15) (.const (.int .u64 4))),
 kO 17 (.mov (kT 0)),
 kO 18 (.ar .u64 .add (kT 16) (kT 17)),
 kO 19 (.ar .u64 .and (kT 18) (.const (.int .u64 1085102592571150095))),
 kO 0 (.mov (kT 19))])
 (.seq (.ops [kO 20 (.mov (kT 0)),
 kO 21 (.mov (kT 0)),
 kO 22 (.ar .u64 .shr (kT 21) (.const (.int .u64 8))),
 kO 23 (.ar .u64 .add (kT 20) (kT 22)),
 kO 0 (.mov (kT 23))])
 (.seq (.ops [kO 24 (.mov (kT 0)),
 kO 25 (.mov (kT 0)),
 kO 26 (.ar .u64 .shr (kT 25) (.const (.int .u64 16))),
 kO 27 (.ar .u64 .add (kT 24) (kT 26)),
 kO 0 (.mov (kT 27))])
 (.seq (.ops [kO 28 (.mov (kT 0)),
 kO 29 (.mov (kT 0)),
 kO 30 (.ar .u64 .shr (kT 29) (.const (.int .u64 32))),
 kO 31 (.ar .u64 .add (kT 28) (kT 30)),
 kO 0 (.mov (kT 31))])
 (.seq (.ops [kO 32 (.mov (kT 0)),
 kO 33 (.cint .i64 (kT 32)),
 kO 34 (kA .and (kT 33) (kC 127)),
 kO 2 (.mov (kT 34))])
 .ret))))))))
theorem enter123 (hl : xs.length ≤ 35) (w : wq E 35 none c123 (frameOf xs) h [] (leaveQ E [.tmp 2] Q)) : CallP E 123 xs h Q :=
  CallP.enterQ (fn := Try.f123) (fn_get Try.func123) (code := Try.f123.body.get rfl) rfl rfl rfl (by kernel_rfl) rfl (fun _ => rfl) hl w
theorem can123 : callable E 123 = true := callable_get Try.func123 rfl rfl
def c133 : C := (.seq (.ops [kO 4 (.mov (kC 0))])
 (.seq (.ops [kO 7 (.mov (kT 0)),
 kO 8 (.call 145 [.tmp 7]),
 kO 5 (.mov (kT 8))])
 (.seq (.ops [kO 9 (.mov (kT 1)),
 kO 10 (.call 145 [.tmp 9]),
 kO 6 (.mov (kT 10))])
 (.seq (.seq (.ops [kO 11 (.mov (kT 5))])
 (.cond (kT 11) (.seq (.seq (.ops [kO 12 (.mov (kT 6))])
 (.cond (kT 12) (.seq (.ops [kO 4 (.mov (kC 0))])
 .ret)
 .skip))
 (.seq (.ops [kO 4 (.mov (.const (.int .i64 (-1))))])
 .ret))
 .skip))
 (.seq (.seq (.ops [kO 13 (.mov (kT 6))])
 (.cond (kT 13) (.seq (.ops [kO 4 (.mov (kC 1))])
 .ret)
 .skip))
 (.seq (.seq (.ops [kO 14 (.mov (kT 0)),
 kO 15 (.mov (kT 1)),
 kO 16 (kA .lss (kT 14) (kT 15))])
 (.cond (kT 16) (.seq (.ops [kO 4 (.mov (.const (.int .i64 (-1))))])
 .ret)
 .skip))
 (.seq (.seq (.ops [kO 17 (.mov (kT 0)),
 kO 18 (.mov (kT 1)),
 kO 19 (kA .gtr (kT 17) (kT 18))])
 (.cond (kT 19) (.seq (.ops [kO 4 (.mov (kC 1))])
 .ret)
 .skip))
 (.seq (.ops [kO 4 (.mov (kC 0))])
 .ret))))))))
theorem enter133 (hl : xs.length ≤ 20) (w : wq E 20 none c133 (frameOf xs) h [] (leaveQ E [.tmp 4] Q)) : CallP E 133 xs h Q :=
  CallP.enterQ (fn := Try.f133) (fn_get Try.func133) (code := Try.f133.body.get rfl) rfl rfl rfl (by kernel_rfl) rfl (fun _ => rfl) hl w
theorem can133 : callable E 133 = true := callable_get Try.func133 rfl rfl
def c145 : C := (.seq (.ops [kO 2 (.mov (.const (.bool kF)))])
 (.seq (.ops [kO 3 (.mov (kT 0)),
 kO 4 (.mov (kT 0)),
 kO 5 (kA .neq (kT 3) (kT 4)),
 kO 2 (.mov (kT 5))])
 .ret))
theorem enter145 (hl : xs.length ≤ 6) (w : wq E 6 none c145 (frameOf xs) h [] (leaveQ E [.tmp 2] Q)) : CallP E 145 xs h Q :=
  CallP.enterQ (fn := Try.f145) (fn_get Try.func145) (code := Try.f145.body.get rfl) rfl rfl rfl (by kernel_rfl) rfl (fun _ => rfl) hl w
theorem can145 : callable E 145 = true := callable_get Try.func145 rfl rfl
end
end Go.Proofs.Ythgjnkdealdmoaa
