/- The code of the functions that PNOC comes to. -/
import Derived.Test.YthgjnkdealdmoaaTypesC
set_option maxRecDepth 100000
set_option linter.unusedSectionVars false
set_option linter.unusedVariables false
namespace Go.Proofs.Ythgjnkdealdmoaa
open Go.Rx Go.RowKit
noncomputable section
abbrev kF:=false
abbrev kE:=true
abbrev fL0:List Bool:=[kF,kF,kF,kF,kF,kF,kF,kF,kF,kF,kF,kF,kF,kF,kF,kF,kF,kF]
abbrev fL1:List Bool:=[kF,kF,kF,kF,kF,kF,kF,kF,kF,kF,kF,kF]
abbrev fL2:List Bool:=[kF,kF,kF,kF,kF,kF,kF,kF,kF,kF,kF,kF,kF,kF,kF]
abbrev fL3:List Bool:=[kF,kF,kF,kF,kF,kF,kF,kE,kE,kF,kF,kF]
abbrev fL4:List Bool:=[kF,kF,kF,kF,kF,kF,kF,kF,kF,kF,kF,kF,kF,kF,kF,kE,kF,kF]
abbrev fL5:List Bool:=[kF,kF,kF,kF,kF,kF]
abbrev fL6:List Bool:=[kF,kF,kF,kE,kF,kF]
abbrev fL7:List Bool:=[kF,kF,kF,kF,kF,kF,kF,kF,kF,kF,kF,kE,kE,kF,kF]
abbrev fL8:List Bool:=[kF,kF,kF,kF,kE,kF,kF,kF,kF,kF,kF,kF]
abbrev fL9:List Bool:=[kF,kF,kF,kF,kE,kF,kF,kF,kF,kE,kF,kF]
abbrev fL10:List Bool:=[kF,kF,kF,kF,kF]
abbrev fL11:List Bool:=[kF,kF,kE,kF,kF]
abbrev fL12:List Bool:=[kF,kF,kE,kE,kF]
abbrev fL13:List Bool:=[kF,kF,kF,kF,kF,kF,kF,kE,kF,kF,kF,kF]
abbrev fL14:List Bool:=[kF,kF,kF,kF,kF,kF,kF,kF,kF,kF,kF,kE,kF,kF,kF]
abbrev kO (d:Nat) (t:TOp):G:=⟨some d,t,none⟩
abbrev kT:=Operand.tmp
abbrev kC (n:Int):Operand:=.const (.int .i64 n)
abbrev kN:Value:=.slice none 0 0
abbrev kZ:Value:=.int .i64 0
abbrev kA:=TOp.ar .i64
variable [Unknowns] {xs : List Value} {h : Hp} {Q : Value → Hp → Prop}
def c15 : C := (.seq (.ops [kO 4 (.mov (.const (.bool kF)))])
 (.seq (.ops [kO 26 (.mov (kT 0)),
 kO 27 (.mov (kT 1)),
 kO 28 (.call 17 [.tmp 26,.tmp 27,(kC 9)]),
 kO 25 (.mov (kT 28)),
 kO 29 (.ext (kT 25) 0),
 kO 30 (.ext (kT 25) 1),
 kO 0 (.mov (kT 29)),
 kO 5 (.mov (kT 30))])
 (.seq (.ops [kO 31 (.mov (kT 5)),
 kO 32 (.call 57 [.tmp 31]),
 kO 6 (.mov (kT 32))])
 (.seq (.ops [kO 34 (.mov (kT 0)),
 kO 35 (.mov (kT 5)),
 kO 36 (.call 21 [.tmp 34,.tmp 35]),
 kO 33 (.mov (kT 36)),
 kO 37 (.ext (kT 33) 0),
 kO 38 (.ext (kT 33) 1),
 kO 7 (.mov (kT 37)),
 kO 8 (.mov (kT 38))])
 (.seq (.ops [kO 40 (.mov (kT 0)),
 kO 41 (.mov (kT 5)),
 kO 42 (.call 44 [.tmp 40,.tmp 41]),
 kO 39 (.mov (kT 42)),
 kO 43 (.ext (kT 39) 0),
 kO 44 (.ext (kT 39) 1),
 kO 9 (.mov (kT 43)),
 kO 10 (.mov (kT 44))])
 (.seq (.seq (.ops [kO 11 (.mov (kC 0))])
 (.block 0 (.loop (.seq (.seq (.ops [kO 45 (.mov (kT 11)),
 kO 46 (.mov (kT 7)),
 kO 47 (.lenS (kT 46)),
 kO 48 (kA .lss (kT 45) (kT 47))])
 (.cond (kT 48) .skip
 (.exit 0)))
 (.seq (.block 1 (.ops [kO 51 (.mov (kT 7)),
 kO 52 (.mov (kT 11)),
 kO 53 (.idxS 1 (kT 51) (kT 52)),
 ⟨none,.store 1 (kT 53) (.const (.int .i64 (-7))),none⟩]))
 (.ops [kO 49 (.mov (kT 11)),
 kO 50 (kA .add (kT 49) (kC 1)),
 kO 11 (.mov (kT 50))]))))))
 (.seq (.seq (.ops [kO 12 (.mov (kC 0))])
 (.block 2 (.loop (.seq (.seq (.ops [kO 54 (.mov (kT 12)),
 kO 55 (.mov (kT 9)),
 kO 56 (.lenS (kT 55)),
 kO 57 (kA .lss (kT 54) (kT 56))])
 (.cond (kT 57) .skip
 (.exit 2)))
 (.seq (.block 3 (.ops [kO 60 (.mov (kT 9)),
 kO 61 (.mov (kT 12)),
 kO 62 (.idxS 1 (kT 60) (kT 61)),
 ⟨none,.store 1 (kT 62) (.const (.int .i64 (-7))),none⟩]))
 (.ops [kO 58 (.mov (kT 12)),
 kO 59 (kA .add (kT 58) (kC 1)),
 kO 12 (.mov (kT 59))]))))))
 (.seq (.seq (.ops [kO 63 (.mov (kT 5)),
 kO 64 (.lenS (kT 63)),
 kO 65 (kA .gtr (kT 64) (kC 0))])
 (.cond (kT 65) (.seq (.ops [kO 67 (.mov (kT 0)),
 kO 68 (.mov (kT 5)),
 kO 69 (.call 50 [.tmp 67,.tmp 68,(kC 0)]),
 kO 66 (.mov (kT 69)),
 kO 70 (.ext (kT 66) 0),
 kO 71 (.ext (kT 66) 1),
 kO 72 (.ext (kT 66) 2),
 kO 13 (.mov (kT 70)),
 kO 14 (.mov (kT 71)),
 kO 15 (.mov (kT 72))])
 (.seq (.ops [kO 74 (.mov (kT 0)),
 kO 75 (.mov (kT 5)),
 kO 76 (.call 51 [.tmp 74,.tmp 75,(kC 0)]),
 kO 73 (.mov (kT 76)),
 kO 77 (.ext (kT 73) 0),
 kO 78 (.ext (kT 73) 1),
 kO 79 (.ext (kT 73) 2),
 kO 16 (.mov (kT 77)),
 kO 17 (.mov (kT 78)),
 kO 18 (.mov (kT 79))])
 (.seq (.seq (.ops [kO 19 (.mov (kC 0))])
 (.block 4 (.loop (.seq (.seq (.ops [kO 80 (.mov (kT 19)),
 kO 81 (.mov (kT 14)),
 kO 82 (.lenS (kT 81)),
 kO 83 (kA .lss (kT 80) (kT 82))])
 (.cond (kT 83) .skip
 (.exit 4)))
 (.seq (.block 5 (.ops [kO 86 (.mov (kT 14)),
 kO 87 (.mov (kT 19)),
 kO 88 (.aggr [kZ,kZ] [(0,1,(.const (.int .i64 (-7)))),(1,1,(.const (.int .i64 (-7))))]),
 kO 89 (.idxS 2 (kT 86) (kT 87)),
 ⟨none,.store 2 (kT 89) (kT 88),none⟩]))
 (.ops [kO 84 (.mov (kT 19)),
 kO 85 (kA .add (kT 84) (kC 1)),
 kO 19 (.mov (kT 85))]))))))
 (.seq (.seq (.ops [kO 20 (.mov (kC 0))])
 (.block 6 (.loop (.seq (.seq (.ops [kO 90 (.mov (kT 20)),
 kO 91 (.mov (kT 17)),
 kO 92 (.lenS (kT 91)),
 kO 93 (kA .lss (kT 90) (kT 92))])
 (.cond (kT 93) .skip
 (.exit 6)))
 (.seq (.block 7 (.ops [kO 96 (.mov (kT 17)),
 kO 97 (.mov (kT 20)),
 kO 98 (.aggr [kZ,kZ] [(0,1,(.const (.int .i64 (-7)))),(1,1,(.const (.int .i64 (-7))))]),
 kO 99 (.idxS 2 (kT 96) (kT 97)),
 ⟨none,.store 2 (kT 99) (kT 98),none⟩]))
 (.ops [kO 94 (.mov (kT 20)),
 kO 95 (kA .add (kT 94) (kC 1)),
 kO 20 (.mov (kT 95))]))))))
 (.seq (.ops [kO 100 (.mov (kT 15)),
 kO 101 (kA .neq (kT 100) (kC 0)),
 kO 102 (.mov (kT 101)),
 ⟨some 103,.mov (kT 18),(some (102,kF))⟩,
 ⟨some 104,kA .neq (kT 103) (kC 0),(some (102,kF))⟩,
 kO 105 (.pick (kT 102) (.const (.bool kE)) (kT 104))])
 (.cond (kT 105) (.seq (.ops [kO 4 (.mov (.const (.bool kF)))])
 .ret)
 .skip))))))
 .skip))
 (.seq (.ops [kO 107 (.mov (kT 0)),
 kO 108 (.mov (kT 5)),
 kO 109 (.call 21 [.tmp 107,.tmp 108]),
 kO 106 (.mov (kT 109)),
 kO 110 (.ext (kT 106) 0),
 kO 111 (.ext (kT 106) 1),
 kO 21 (.mov (kT 110)),
 kO 22 (.mov (kT 111))])
 (.seq (.ops [kO 113 (.mov (kT 0)),
 kO 114 (.mov (kT 5)),
 kO 115 (.call 44 [.tmp 113,.tmp 114]),
 kO 112 (.mov (kT 115)),
 kO 116 (.ext (kT 112) 0),
 kO 117 (.ext (kT 112) 1),
 kO 23 (.mov (kT 116)),
 kO 24 (.mov (kT 117))])
 (.seq (.ops [kO 118 (.mov (kT 8)),
 kO 119 (kA .eql (kT 118) (kC 0)),
 kO 120 (.mov (kT 119)),
 ⟨some 121,.mov (kT 10),(some (120,kE))⟩,
 ⟨some 122,kA .eql (kT 121) (kC 0),(some (120,kE))⟩,
 kO 123 (.pick (kT 120) (kT 122) (.const (.bool kF))),
 kO 124 (.mov (kT 123)),
 ⟨some 125,.mov (kT 22),(some (124,kE))⟩,
 ⟨some 126,kA .eql (kT 125) (kC 0),(some (124,kE))⟩,
 kO 127 (.pick (kT 124) (kT 126) (.const (.bool kF))),
 kO 128 (.mov (kT 127)),
 ⟨some 129,.mov (kT 24),(some (128,kE))⟩,
 ⟨some 130,kA .eql (kT 129) (kC 0),(some (128,kE))⟩,
 kO 131 (.pick (kT 128) (kT 130) (.const (.bool kF))),
 kO 132 (.mov (kT 131)),
 ⟨some 133,.mov (kT 5),(some (132,kE))⟩,
 ⟨some 134,.mov (kT 6),(some (132,kE))⟩,
 ⟨some 135,.call 53 [.tmp 133,.tmp 134],(some (132,kE))⟩,
 kO 136 (.pick (kT 132) (kT 135) (.const (.bool kF))),
 kO 137 (.mov (kT 136)),
 ⟨some 138,.mov (kT 21),(some (137,kE))⟩,
 ⟨some 139,.mov (kT 0),(some (137,kE))⟩,
 ⟨some 140,.mov (kT 6),(some (137,kE))⟩,
 ⟨some 141,.call 25 [.tmp 139,.tmp 140],(some (137,kE))⟩,
 ⟨some 142,.call 24 [.tmp 138,.tmp 141],(some (137,kE))⟩,
 kO 143 (.pick (kT 137) (kT 142) (.const (.bool kF))),
 kO 144 (.mov (kT 143)),
 ⟨some 145,.mov (kT 23),(some (144,kE))⟩,
 ⟨some 146,.mov (kT 0),(some (144,kE))⟩,
 ⟨some 147,.mov (kT 6),(some (144,kE))⟩,
 ⟨some 148,.call 45 [.tmp 146,.tmp 147],(some (144,kE))⟩,
 ⟨some 149,.call 46 [.tmp 145,.tmp 148],(some (144,kE))⟩,
 kO 150 (.pick (kT 144) (kT 149) (.const (.bool kF))),
 kO 151 (.mov (kT 150)),
 ⟨some 152,.call 20 [],(some (151,kE))⟩,
 kO 153 (.pick (kT 151) (kT 152) (.const (.bool kF))),
 kO 4 (.mov (kT 153))])
 .ret)))))))))))
theorem enter15 (hl : xs.length ≤ 154) (w : wq E 154 none c15 (frameOf xs) h [] (leaveQ E [.tmp 4] Q)) : CallP E 15 xs h Q :=
  CallP.enterQ (fn := Try.f15) (fn_get Try.func15) (code := Try.f15.body.get rfl) rfl rfl rfl (by kernel_rfl) rfl (fun _ => rfl) hl w
theorem can15 : callable E 15 = true := callable_get Try.func15 rfl rfl
def c17 : C := (.seq (.ops [kO 6 (.mov (kC 0)),
 kO 7 (.mov (.const kN))])
 (.seq (.ops [kO 15 (.mov (kT 0)),
 kO 16 (.cint .u64 (kT 15)),
 kO 17 (.ar .u64 .rem (kT 16) (.const (.int .u64 6))),
 kO 18 (.cint .i64 (kT 17)),
 kO 19 (kA .add (kC 1) (kT 18)),
 kO 0 (.mov (kT 19))])
 (.seq (.ops [kO 8 (.mov (.const kN))])
 (.seq (.seq (.ops [kO 9 (.mov (kC 0))])
 (.block 0 (.loop (.seq (.seq (.ops [kO 20 (.mov (kT 9)),
 kO 21 (.mov (kT 1)),
 kO 22 (.lenS (kT 21)),
 kO 23 (kA .lss (kT 20) (kT 22)),
 kO 24 (.mov (kT 23)),
 ⟨some 25,.mov (kT 9),(some (24,kE))⟩,
 ⟨some 26,.mov (kT 2),(some (24,kE))⟩,
 ⟨some 27,kA .lss (kT 25) (kT 26),(some (24,kE))⟩,
 kO 28 (.pick (kT 24) (kT 27) (.const (.bool kF)))])
 (.cond (kT 28) .skip
 (.exit 0)))
 (.seq (.block 1 (.seq (.ops [kO 31 (.mov (kT 1)),
 kO 32 (.mov (kT 9)),
 kO 33 (.idxS 2 (kT 31) (kT 32)),
 kO 34 (.idxA 2 1 (kT 33) (kC 0)),
 kO 35 (.load1 (kT 34)),
 kO 36 (.cint .u64 (kT 35)),
 kO 37 (.mov (kT 0)),
 kO 38 (.cint .u64 (kT 37)),
 kO 39 (.ar .u64 .rem (kT 36) (kT 38)),
 kO 40 (.cint .i64 (kT 39)),
 kO 41 (.mov (kT 1)),
 kO 42 (.mov (kT 9)),
 kO 43 (.idxS 2 (kT 41) (kT 42)),
 kO 44 (.idxA 2 1 (kT 43) (kC 1)),
 kO 45 (.load1 (kT 44)),
 kO 46 (.cint .u64 (kT 45)),
 kO 47 (.mov (kT 0)),
 kO 48 (.cint .u64 (kT 47)),
 kO 49 (.ar .u64 .rem (kT 46) (kT 48)),
 kO 50 (.cint .i64 (kT 49)),
 kO 10 (.mov (kT 40)),
 kO 11 (.mov (kT 50))])
 (.seq (.ops [kO 51 (.mov (kT 10)),
 kO 52 (.mov (kT 11)),
 kO 53 (.raw (.call ⟨.builtin .min,⟨[.tmp 51,.tmp 52]⟩,⟨[3,3]⟩⟩) 3),
 kO 54 (.mov (kT 10)),
 kO 55 (.mov (kT 11)),
 kO 56 (.raw (.call ⟨.builtin .max,⟨[.tmp 54,.tmp 55]⟩,⟨[3,3]⟩⟩) 3),
 kO 57 (.aggr [kZ,kZ] [(0,1,(kT 53)),(1,1,(kT 56))]),
 kO 12 (.alloc 79 [kZ,kZ]),
 ⟨none,.store 2 (kT 12) (kT 57),none⟩])
 (.seq (.ops [kO 13 (.mov (kC 0))])
 (.seq (.block 2 (.loop (.seq (.seq (.ops [kO 58 (.mov (kT 13)),
 kO 59 (.mov (kT 8)),
 kO 60 (.lenS (kT 59)),
 kO 61 (kA .lss (kT 58) (kT 60)),
 kO 62 (.mov (kT 61)),
 ⟨some 63,.mov (kT 8),(some (62,kE))⟩,
 ⟨some 64,.mov (kT 13),(some (62,kE))⟩,
 ⟨some 65,.idxS 2 (kT 63) (kT 64),(some (62,kE))⟩,
 ⟨some 66,.idxA 2 1 (kT 65) (kC 0),(some (62,kE))⟩,
 ⟨some 67,.load1 (kT 66),(some (62,kE))⟩,
 ⟨some 68,.idxA 2 1 (kT 12) (kC 0),(some (62,kE))⟩,
 ⟨some 69,.load1 (kT 68),(some (62,kE))⟩,
 ⟨some 70,kA .lss (kT 67) (kT 69),(some (62,kE))⟩,
 ⟨some 71,.mov (kT 70),(some (62,kE))⟩,
 ⟨some 72,.mov (kT 8),(some (71,kF))⟩,
 ⟨some 73,.mov (kT 13),(some (71,kF))⟩,
 ⟨some 74,.idxS 2 (kT 72) (kT 73),(some (71,kF))⟩,
 ⟨some 75,.idxA 2 1 (kT 74) (kC 0),(some (71,kF))⟩,
 ⟨some 76,.load1 (kT 75),(some (71,kF))⟩,
 ⟨some 77,.idxA 2 1 (kT 12) (kC 0),(some (71,kF))⟩,
 ⟨some 78,.load1 (kT 77),(some (71,kF))⟩,
 ⟨some 79,kA .eql (kT 76) (kT 78),(some (71,kF))⟩,
 ⟨some 80,.mov (kT 79),(some (71,kF))⟩,
 ⟨some 81,.mov (kT 8),(some (80,kE))⟩,
 ⟨some 82,.mov (kT 13),(some (80,kE))⟩,
 ⟨some 83,.idxS 2 (kT 81) (kT 82),(some (80,kE))⟩,
 ⟨some 84,.idxA 2 1 (kT 83) (kC 1),(some (80,kE))⟩,
 ⟨some 85,.load1 (kT 84),(some (80,kE))⟩,
 ⟨some 86,.idxA 2 1 (kT 12) (kC 1),(some (80,kE))⟩,
 ⟨some 87,.load1 (kT 86),(some (80,kE))⟩,
 ⟨some 88,kA .leq (kT 85) (kT 87),(some (80,kE))⟩,
 ⟨some 89,.pick (kT 80) (kT 88) (.const (.bool kF)),(some (71,kF))⟩,
 ⟨some 90,.pick (kT 71) (.const (.bool kE)) (kT 89),(some (62,kE))⟩,
 kO 91 (.pick (kT 62) (kT 90) (.const (.bool kF)))])
 (.cond (kT 91) .skip
 (.exit 2)))
 (.block 3 (.ops [kO 92 (.mov (kT 13)),
 kO 93 (kA .add (kT 92) (kC 1)),
 kO 13 (.mov (kT 93))])))))
 (.seq (.ops [kO 14 (.mov (.const kN))])
 (.seq (.ops [kO 94 (.mov (kT 14)),
 kO 95 (.mov (kT 8)),
 kO 96 (.mov (kT 13)),
 kO 97 (.cutS 2 (kT 95) none (some (kT 96)) none),
 kO 98 (.append 79 2 16 (kT 94) (kT 97)),
 kO 14 (.mov (kT 98))])
 (.seq (.ops [kO 99 (.mov (kT 14)),
 kO 100 (.loadN 2 (kT 12)),
 kO 101 (.slit 79 1 [kZ,kZ] [(0,2,(kT 100))]),
 kO 102 (.append 79 2 16 (kT 99) (kT 101)),
 kO 14 (.mov (kT 102))])
 (.ops [kO 103 (.mov (kT 14)),
 kO 104 (.mov (kT 8)),
 kO 105 (.mov (kT 13)),
 kO 106 (.cutS 2 (kT 104) (some (kT 105)) none none),
 kO 107 (.append 79 2 16 (kT 103) (kT 106)),
 kO 8 (.mov (kT 107))])))))))))
 (.ops [kO 29 (.mov (kT 9)),
 kO 30 (kA .add (kT 29) (kC 1)),
 kO 9 (.mov (kT 30))]))))))
 (.seq (.ops [kO 108 (.mov (kT 0)),
 kO 109 (.mov (kT 8)),
 kO 6 (.mov (kT 108)),
 kO 7 (.mov (kT 109))])
 .ret)))))
theorem enter17 (hl : xs.length ≤ 110) (w : wq E 110 none c17 (frameOf xs) h [] (leaveQ E [.tmp 6,.tmp 7] Q)) : CallP E 17 xs h Q :=
  CallP.enterQ (fn := Try.f17) (fn_get Try.func17) (code := Try.f17.body.get rfl) rfl rfl rfl (by kernel_rfl) rfl (fun _ => rfl) hl w
theorem can17 : callable E 17 = true := callable_get Try.func17 rfl rfl
def c19 : C := (.seq (.ops [kO 6 (.mov (kC 0))])
 (.seq (.ops [kO 14 (.mov (kT 0)),
 kO 15 (.make 3 [kZ] 8 (kT 14) (kT 14)),
 kO 7 (.mov (kT 15))])
 (.seq (.seq (.ops [kO 8 (.mov (kC 0))])
 (.block 0 (.loop (.seq (.seq (.ops [kO 16 (.mov (kT 8)),
 kO 17 (.mov (kT 0)),
 kO 18 (kA .lss (kT 16) (kT 17))])
 (.cond (kT 18) .skip
 (.exit 0)))
 (.seq (.block 1 (.ops [kO 21 (.mov (kT 7)),
 kO 22 (.mov (kT 8)),
 kO 23 (.mov (kT 8)),
 kO 24 (.idxS 1 (kT 21) (kT 22)),
 ⟨none,.store 1 (kT 24) (kT 23),none⟩]))
 (.ops [kO 19 (.mov (kT 8)),
 kO 20 (kA .add (kT 19) (kC 1)),
 kO 8 (.mov (kT 20))]))))))
 (.seq (.ops [kO 9 (.mov (kC 0))])
 (.seq (.seq (.ops [kO 10 (.mov (kC 0))])
 (.block 2 (.loop (.seq (.seq (.ops [kO 25 (.mov (kT 10)),
 kO 26 (.mov (kT 1)),
 kO 27 (.lenS (kT 26)),
 kO 28 (kA .lss (kT 25) (kT 27))])
 (.cond (kT 28) .skip
 (.exit 2)))
 (.seq (.block 3 (.seq (.ops [kO 31 (.mov (kT 7)),
 kO 32 (.mov (kT 1)),
 kO 33 (.mov (kT 10)),
 kO 34 (.idxS 2 (kT 32) (kT 33)),
 kO 35 (.idxA 2 1 (kT 34) (kC 0)),
 kO 36 (.load1 (kT 35)),
 kO 37 (.idxS 1 (kT 31) (kT 36)),
 kO 38 (.load1 (kT 37)),
 kO 39 (.mov (kT 7)),
 kO 40 (.mov (kT 1)),
 kO 41 (.mov (kT 10)),
 kO 42 (.idxS 2 (kT 40) (kT 41)),
 kO 43 (.idxA 2 1 (kT 42) (kC 1)),
 kO 44 (.load1 (kT 43)),
 kO 45 (.idxS 1 (kT 39) (kT 44)),
 kO 46 (.load1 (kT 45)),
 kO 11 (.mov (kT 38)),
 kO 12 (.mov (kT 46))])
 (.seq (.seq (.ops [kO 47 (.mov (kT 2)),
 kO 48 (.mov (kT 10)),
 kO 49 (kA .shr (kT 47) (kT 48)),
 kO 50 (kA .rem (kT 49) (kC 2)),
 kO 51 (kA .eql (kT 50) (kC 0)),
 kO 52 (.mov (kT 51)),
 ⟨some 53,.mov (kT 11),(some (52,kF))⟩,
 ⟨some 54,.mov (kT 12),(some (52,kF))⟩,
 ⟨some 55,kA .eql (kT 53) (kT 54),(some (52,kF))⟩,
 kO 56 (.pick (kT 52) (.const (.bool kE)) (kT 55))])
 (.cond (kT 56) (.exit 3)
 .skip))
 (.seq (.ops [kO 57 (.mov (kT 9)),
 kO 58 (kA .add (kT 57) (kC 1)),
 kO 9 (.mov (kT 58))])
 (.seq (.ops [kO 13 (.mov (kC 0))])
 (.block 4 (.loop (.seq (.seq (.ops [kO 59 (.mov (kT 13)),
 kO 60 (.mov (kT 0)),
 kO 61 (kA .lss (kT 59) (kT 60))])
 (.cond (kT 61) .skip
 (.exit 4)))
 (.seq (.block 5 (.seq (.ops [kO 64 (.mov (kT 7)),
 kO 65 (.mov (kT 13)),
 kO 66 (.idxS 1 (kT 64) (kT 65)),
 kO 67 (.load1 (kT 66)),
 kO 68 (.mov (kT 12)),
 kO 69 (kA .eql (kT 67) (kT 68))])
 (.cond (kT 69) (.ops [kO 70 (.mov (kT 7)),
 kO 71 (.mov (kT 13)),
 kO 72 (.mov (kT 11)),
 kO 73 (.idxS 1 (kT 70) (kT 71)),
 ⟨none,.store 1 (kT 73) (kT 72),none⟩])
 .skip)))
 (.ops [kO 62 (.mov (kT 13)),
 kO 63 (kA .add (kT 62) (kC 1)),
 kO 13 (.mov (kT 63))]))))))))))
 (.ops [kO 29 (.mov (kT 10)),
 kO 30 (kA .add (kT 29) (kC 1)),
 kO 10 (.mov (kT 30))]))))))
 (.seq (.ops [kO 74 (.mov (kT 9)),
 kO 6 (.mov (kT 74))])
 .ret))))))
theorem enter19 (hl : xs.length ≤ 75) (w : wq E 75 none c19 (frameOf xs) h [] (leaveQ E [.tmp 6] Q)) : CallP E 19 xs h Q :=
  CallP.enterQ (fn := Try.f19) (fn_get Try.func19) (code := Try.f19.body.get rfl) rfl rfl rfl (by kernel_rfl) rfl (fun _ => rfl) hl w
theorem can19 : callable E 19 = true := callable_get Try.func19 rfl rfl
theorem memo20 {h : Hp} {Q : Value → Hp → Prop} (q : Q (.bool true) h) : CallP E 20 [] h Q := CallP.memo rfl q
def c21 : C := (.seq (.ops [kO 2 (.box 3 (kT 0)),
 kO 4 (.mov (.const kN)),
 kO 5 (.mov (kC 0))])
 (.seq (.seq (.ops [kO 10 (.load1 (kT 2)),
 kO 11 (.mov (kT 1)),
 kO 12 (.call 60 [.tmp 10,.tmp 11]),
 kO 6 (.mov (kT 12))])
 (.seq (.ops [kO 13 (.mov (kT 6)),
 kO 14 (kA .neq (kT 13) (kC 0))])
 (.cond (kT 14) (.seq (.ops [kO 15 (.mov (kT 6)),
 kO 4 (.mov (.const kN)),
 kO 5 (.mov (kT 15))])
 .ret)
 .skip)))
 (.seq (.ops [kO 16 (.load1 (kT 2)),
 kO 17 (.mov (kT 1)),
 kO 18 (.aggr [kZ,kN] [(0,1,(kT 16)),(1,1,(kT 17))]),
 kO 7 (.alloc 83 [kZ,kN]),
 ⟨none,.store 2 (kT 7) (kT 18),none⟩])
 (.seq (.ops [kO 19 (.func (.func 61) [] [.tmp 2,.tmp 7]),
 kO 8 (.mov (kT 19))])
 (.seq (.ops [kO 9 (.mov (.func 62))])
 (.seq (.ops [kO 20 (.loadN 2 (kT 7)),
 kO 21 (.mov (kT 8)),
 kO 22 (.mov (kT 9)),
 kO 23 (.call 64 [.tmp 20,.tmp 21,.tmp 22]),
 kO 4 (.mov (kT 23)),
 kO 5 (.mov (kC 0))])
 .ret))))))
theorem enter21 (hl : xs.length ≤ 24) (w : wq E 24 none c21 (frameOf xs) h [] (leaveQ E [.tmp 4,.tmp 5] Q)) : CallP E 21 xs h Q :=
  CallP.enterQ (fn := Try.f21) (fn_get Try.func21) (code := Try.f21.body.get rfl) rfl rfl rfl (by kernel_rfl) rfl (fun _ => rfl) hl w
theorem can21 : callable E 21 = true := callable_get Try.func21 rfl rfl
def c24 : C := (.seq (.ops [kO 4 (.mov (.const (.bool kF)))])
 (.seq (.seq (.ops [kO 6 (.mov (kT 0)),
 kO 7 (.lenS (kT 6)),
 kO 8 (.mov (kT 1)),
 kO 9 (.lenS (kT 8)),
 kO 10 (kA .neq (kT 7) (kT 9))])
 (.cond (kT 10) (.seq (.ops [kO 4 (.mov (.const (.bool kF)))])
 .ret)
 .skip))
 (.seq (.seq (.ops [kO 5 (.mov (kC 0))])
 (.block 0 (.loop (.seq (.seq (.ops [kO 11 (.mov (kT 5)),
 kO 12 (.mov (kT 0)),
 kO 13 (.lenS (kT 12)),
 kO 14 (kA .lss (kT 11) (kT 13))])
 (.cond (kT 14) .skip
 (.exit 0)))
 (.seq (.block 1 (.seq (.ops [kO 17 (.mov (kT 0)),
 kO 18 (.mov (kT 5)),
 kO 19 (.idxS 1 (kT 17) (kT 18)),
 kO 20 (.load1 (kT 19)),
 kO 21 (.mov (kT 1)),
 kO 22 (.mov (kT 5)),
 kO 23 (.idxS 1 (kT 21) (kT 22)),
 kO 24 (.load1 (kT 23)),
 kO 25 (kA .neq (kT 20) (kT 24))])
 (.cond (kT 25) (.seq (.ops [kO 4 (.mov (.const (.bool kF)))])
 .ret)
 .skip)))
 (.ops [kO 15 (.mov (kT 5)),
 kO 16 (kA .add (kT 15) (kC 1)),
 kO 5 (.mov (kT 16))]))))))
 (.seq (.ops [kO 4 (.mov (.const (.bool kE)))])
 .ret))))
theorem enter24 (hl : xs.length ≤ 26) (w : wq E 26 none c24 (frameOf xs) h [] (leaveQ E [.tmp 4] Q)) : CallP E 24 xs h Q :=
  CallP.enterQ (fn := Try.f24) (fn_get Try.func24) (code := Try.f24.body.get rfl) rfl rfl rfl (by kernel_rfl) rfl (fun _ => rfl) hl w
theorem can24 : callable E 24 = true := callable_get Try.func24 rfl rfl
def c25 : C := (.seq (.ops [kO 4 (.mov (.const kN))])
 (.seq (.ops [kO 8 (.mov (kT 0)),
 kO 9 (kA .add (kT 8) (kC 1)),
 kO 10 (.make 2 [kZ] 8 (kT 9) (kT 9)),
 kO 5 (.mov (kT 10))])
 (.seq (.seq (.ops [kO 6 (.mov (kC 0))])
 (.block 0 (.loop (.seq (.seq (.ops [kO 11 (.mov (kT 6)),
 kO 12 (.mov (kT 1)),
 kO 13 (.call 69 [.tmp 12]),
 kO 14 (kA .leq (kT 11) (kT 13))])
 (.cond (kT 14) .skip
 (.exit 0)))
 (.seq (.block 1 (.seq (.ops [kO 17 (.mov (kT 0)),
 kO 18 (.mov (kT 0)),
 kO 19 (.mov (kT 1)),
 kO 20 (.mov (kT 6)),
 kO 21 (.call 19 [.tmp 18,.tmp 19,.tmp 20]),
 kO 22 (kA .sub (kT 17) (kT 21)),
 kO 7 (.mov (kT 22))])
 (.draw [kO 23 (.mov (kT 5)),
 kO 24 (.mov (kT 7)),
 kO 25 (.mov (kT 5)),
 kO 26 (.mov (kT 7)),
 kO 27 (.idxS 1 (kT 25) (kT 26)),
 kO 28 (.load1 (kT 27)),
 kO 29 (.mov (kT 6)),
 kO 30 (.call 71 [.tmp 29]),
 kO 31 (.call 70 [.tmp 30]),
 kO 32 (kA .add (kT 28) (kT 31)),
 kO 33 (.idxS 1 (kT 23) (kT 24)),
 ⟨none,.store 1 (kT 33) (kT 32),none⟩]
 [⟨kF,kE,fL1,fL3⟩,
 ⟨kF,kE,fL1,fL3⟩,
 ⟨kF,kE,fL1,fL3⟩,
 ⟨kF,kE,fL1,fL3⟩,
 ⟨kF,kE,fL1,fL3⟩,
 ⟨kF,kE,fL1,fL3⟩,
 ⟨kF,kF,fL1,fL1⟩,
 ⟨kE,kF,fL1,fL13⟩,
 ⟨kE,kF,fL13,fL3⟩,
 ⟨kF,kF,fL3,fL3⟩,
 ⟨kF,kF,fL3,fL3⟩,
 ⟨kE,kF,fL3,[kF,kF,kF,kF,kF,kF,kF,kE,kE,kF,kF,kE]⟩])))
 (.ops [kO 15 (.mov (kT 6)),
 kO 16 (kA .add (kT 15) (kC 1)),
 kO 6 (.mov (kT 16))]))))))
 (.seq (.ops [kO 34 (.mov (kT 5)),
 kO 35 (.call 72 [.tmp 34]),
 kO 4 (.mov (kT 35))])
 .ret))))
theorem enter25 (hl : xs.length ≤ 36) (w : wq E 36 none c25 (frameOf xs) h [] (leaveQ E [.tmp 4] Q)) : CallP E 25 xs h Q :=
  CallP.enterQ (fn := Try.f25) (fn_get Try.func25) (code := Try.f25.body.get rfl) rfl rfl rfl (by kernel_rfl) rfl (fun _ => rfl) hl w
theorem can25 : callable E 25 = true := callable_get Try.func25 rfl rfl
def c44 : C := (.seq (.ops [kO 4 (.mov (.const kN)),
 kO 5 (.mov (kC 0))])
 (.seq (.seq (.ops [kO 10 (.mov (kT 0)),
 kO 11 (.mov (kT 1)),
 kO 12 (.call 60 [.tmp 10,.tmp 11]),
 kO 6 (.mov (kT 12))])
 (.seq (.ops [kO 13 (.mov (kT 6)),
 kO 14 (kA .neq (kT 13) (kC 0))])
 (.cond (kT 14) (.seq (.ops [kO 15 (.mov (kT 6)),
 kO 4 (.mov (.const kN)),
 kO 5 (.mov (kT 15))])
 .ret)
 .skip)))
 (.seq (.ops [kO 16 (.mov (kT 0)),
 kO 17 (.mov (kT 1)),
 kO 18 (.aggr [kZ,kN] [(0,1,(kT 16)),(1,1,(kT 17))]),
 kO 7 (.alloc 83 [kZ,kN]),
 ⟨none,.store 2 (kT 7) (kT 18),none⟩])
 (.seq (.ops [kO 8 (.alloc 49 [kN])])
 (.seq (.seq (.ops [kO 19 (.mov (kT 1)),
 kO 20 (.lenS (kT 19)),
 kO 21 (.call 87 [.tmp 20])])
 (.block 0 (.range (kT 21) ⟨[22]⟩ (.ops [kO 9 (.mov (kT 22))])
 (.block 1 (.seq (.ops [kO 23 (.loadN 2 (kT 7)),
 kO 24 (.mov (kT 9)),
 kO 25 (.call 88 [.tmp 23,.tmp 24])])
 (.cond (kT 25) (.ops [kO 26 (.load1 (kT 8)),
 kO 27 (.mov (kT 9)),
 kO 28 (.slit 3 1 [kZ] [(0,1,(kT 27))]),
 kO 29 (.append 3 1 8 (kT 26) (kT 28)),
 ⟨none,.store 1 (kT 8) (kT 29),none⟩])
 .skip))))))
 (.seq (.ops [kO 30 (.load1 (kT 8)),
 kO 4 (.mov (kT 30)),
 kO 5 (.mov (kC 0))])
 .ret))))))
theorem enter44 (hl : xs.length ≤ 31) (w : wq E 31 none c44 (frameOf xs) h [] (leaveQ E [.tmp 4,.tmp 5] Q)) : CallP E 44 xs h Q :=
  CallP.enterQ (fn := Try.f44) (fn_get Try.func44) (code := Try.f44.body.get rfl) rfl rfl rfl (by kernel_rfl) rfl (fun _ => rfl) hl w
theorem can44 : callable E 44 = true := callable_get Try.func44 rfl rfl
def c45 : C := (.seq (.ops [kO 4 (.mov (.const kN))])
 (.seq (.ops [kO 5 (.mov (.const kN))])
 (.seq (.seq (.ops [kO 6 (.mov (kC 0))])
 (.block 0 (.loop (.seq (.seq (.ops [kO 7 (.mov (kT 6)),
 kO 8 (.mov (kT 1)),
 kO 9 (.call 69 [.tmp 8]),
 kO 10 (kA .leq (kT 7) (kT 9))])
 (.cond (kT 10) .skip
 (.exit 0)))
 (.seq (.block 1 (.seq (.ops [kO 13 (.mov (kT 0)),
 kO 14 (.mov (kT 1)),
 kO 15 (.mov (kT 6)),
 kO 16 (.call 48 [.tmp 13,.tmp 14,.tmp 15])])
 (.cond (kT 16) (.ops [kO 17 (.mov (kT 5)),
 kO 18 (.mov (kT 6)),
 kO 19 (.slit 3 1 [kZ] [(0,1,(kT 18))]),
 kO 20 (.append 3 1 8 (kT 17) (kT 19)),
 kO 5 (.mov (kT 20))])
 .skip)))
 (.ops [kO 11 (.mov (kT 6)),
 kO 12 (kA .add (kT 11) (kC 1)),
 kO 6 (.mov (kT 12))]))))))
 (.seq (.ops [kO 21 (.mov (kT 5)),
 kO 4 (.mov (kT 21))])
 .ret))))
theorem enter45 (hl : xs.length ≤ 22) (w : wq E 22 none c45 (frameOf xs) h [] (leaveQ E [.tmp 4] Q)) : CallP E 45 xs h Q :=
  CallP.enterQ (fn := Try.f45) (fn_get Try.func45) (code := Try.f45.body.get rfl) rfl rfl rfl (by kernel_rfl) rfl (fun _ => rfl) hl w
theorem can45 : callable E 45 = true := callable_get Try.func45 rfl rfl
def c46 : C := (.seq (.ops [kO 4 (.mov (.const (.bool kF)))])
 (.seq (.seq (.ops [kO 6 (.mov (kT 0)),
 kO 7 (.lenS (kT 6)),
 kO 8 (.mov (kT 1)),
 kO 9 (.lenS (kT 8)),
 kO 10 (kA .neq (kT 7) (kT 9))])
 (.cond (kT 10) (.seq (.ops [kO 4 (.mov (.const (.bool kF)))])
 .ret)
 .skip))
 (.seq (.seq (.ops [kO 5 (.mov (kC 0))])
 (.block 0 (.loop (.seq (.seq (.ops [kO 11 (.mov (kT 5)),
 kO 12 (.mov (kT 0)),
 kO 13 (.lenS (kT 12)),
 kO 14 (kA .lss (kT 11) (kT 13))])
 (.cond (kT 14) .skip
 (.exit 0)))
 (.seq (.block 1 (.seq (.ops [kO 17 (.mov (kT 0)),
 kO 18 (.mov (kT 5)),
 kO 19 (.idxS 1 (kT 17) (kT 18)),
 kO 20 (.load1 (kT 19)),
 kO 21 (.mov (kT 1)),
 kO 22 (.mov (kT 5)),
 kO 23 (.idxS 1 (kT 21) (kT 22)),
 kO 24 (.load1 (kT 23)),
 kO 25 (kA .neq (kT 20) (kT 24))])
 (.cond (kT 25) (.seq (.ops [kO 4 (.mov (.const (.bool kF)))])
 .ret)
 .skip)))
 (.ops [kO 15 (.mov (kT 5)),
 kO 16 (kA .add (kT 15) (kC 1)),
 kO 5 (.mov (kT 16))]))))))
 (.seq (.ops [kO 4 (.mov (.const (.bool kE)))])
 .ret))))
theorem enter46 (hl : xs.length ≤ 26) (w : wq E 26 none c46 (frameOf xs) h [] (leaveQ E [.tmp 4] Q)) : CallP E 46 xs h Q :=
  CallP.enterQ (fn := Try.f46) (fn_get Try.func46) (code := Try.f46.body.get rfl) rfl rfl rfl (by kernel_rfl) rfl (fun _ => rfl) hl w
theorem can46 : callable E 46 = true := callable_get Try.func46 rfl rfl
def c48 : C := (.seq (.ops [kO 6 (.mov (.const (.bool kF)))])
 (.seq (.ops [kO 8 (.mov (kT 0)),
 kO 9 (.mov (kT 1)),
 kO 10 (.mov (kT 1)),
 kO 11 (.call 69 [.tmp 10]),
 kO 12 (.call 19 [.tmp 8,.tmp 9,.tmp 11]),
 kO 7 (.mov (kT 12))])
 (.seq (.ops [kO 13 (.mov (kT 2)),
 kO 14 (.call 71 [.tmp 13]),
 kO 15 (.mov (kT 7)),
 kO 16 (kA .eql (kT 14) (kT 15)),
 kO 17 (.mov (kT 16)),
 ⟨some 18,.mov (kT 0),(some (17,kE))⟩,
 ⟨some 19,.mov (kT 1),(some (17,kE))⟩,
 ⟨some 20,.mov (kT 2),(some (17,kE))⟩,
 ⟨some 21,.call 19 [.tmp 18,.tmp 19,.tmp 20],(some (17,kE))⟩,
 ⟨some 22,.mov (kT 7),(some (17,kE))⟩,
 ⟨some 23,kA .eql (kT 21) (kT 22),(some (17,kE))⟩,
 kO 24 (.pick (kT 17) (kT 23) (.const (.bool kF))),
 kO 6 (.mov (kT 24))])
 .ret)))
theorem enter48 (hl : xs.length ≤ 25) (w : wq E 25 none c48 (frameOf xs) h [] (leaveQ E [.tmp 6] Q)) : CallP E 48 xs h Q :=
  CallP.enterQ (fn := Try.f48) (fn_get Try.func48) (code := Try.f48.body.get rfl) rfl rfl rfl (by kernel_rfl) rfl (fun _ => rfl) hl w
theorem can48 : callable E 48 = true := callable_get Try.func48 rfl rfl
def c50 : C := (.seq (.ops [kO 6 (.mov (kC 0)),
 kO 7 (.mov (.const kN)),
 kO 8 (.mov (kC 0))])
 (.seq (.ops [kO 13 (.mov (kT 0)),
 kO 14 (.mov (kT 1)),
 kO 15 (.mov (kT 2)),
 kO 16 (.call 91 [.tmp 13,.tmp 14,.tmp 15]),
 kO 12 (.mov (kT 16)),
 kO 17 (.ext (kT 12) 0),
 kO 18 (.ext (kT 12) 1),
 kO 9 (.alloc 83 [kZ,kN]),
 ⟨none,.store 2 (kT 9) (kT 17),none⟩,
 kO 10 (.mov (kT 18))])
 (.seq (.seq (.ops [kO 19 (.mov (kT 10)),
 kO 20 (kA .neq (kT 19) (kC 0))])
 (.cond (kT 20) (.seq (.ops [kO 21 (.mov (kT 10)),
 kO 6 (.mov (kC 0)),
 kO 7 (.mov (.const kN)),
 kO 8 (.mov (kT 21))])
 .ret)
 .skip))
 (.seq (.ops [kO 22 (.loadN 2 (kT 9)),
 kO 23 (.mov (kT 2)),
 kO 24 (.call 92 [.tmp 22,.tmp 23]),
 kO 11 (.alloc 83 [kZ,kN]),
 ⟨none,.store 2 (kT 11) (kT 24),none⟩])
 (.seq (.ops [kO 25 (.fldA 0 (kT 11)),
 kO 26 (.load1 (kT 25)),
 kO 27 (.fldA 1 (kT 11)),
 kO 28 (.load1 (kT 27)),
 kO 6 (.mov (kT 26)),
 kO 7 (.mov (kT 28)),
 kO 8 (.mov (kC 0))])
 .ret)))))
theorem enter50 (hl : xs.length ≤ 29) (w : wq E 29 none c50 (frameOf xs) h [] (leaveQ E [.tmp 6,.tmp 7,.tmp 8] Q)) : CallP E 50 xs h Q :=
  CallP.enterQ (fn := Try.f50) (fn_get Try.func50) (code := Try.f50.body.get rfl) rfl rfl rfl (by kernel_rfl) rfl (fun _ => rfl) hl w
theorem can50 : callable E 50 = true := callable_get Try.func50 rfl rfl
def c51 : C := (.seq (.ops [kO 6 (.mov (kC 0)),
 kO 7 (.mov (.const kN)),
 kO 8 (.mov (kC 0))])
 (.seq (.ops [kO 13 (.mov (kT 0)),
 kO 14 (.mov (kT 1)),
 kO 15 (.mov (kT 2)),
 kO 16 (.call 91 [.tmp 13,.tmp 14,.tmp 15]),
 kO 12 (.mov (kT 16)),
 kO 17 (.ext (kT 12) 0),
 kO 18 (.ext (kT 12) 1),
 kO 9 (.alloc 83 [kZ,kN]),
 ⟨none,.store 2 (kT 9) (kT 17),none⟩,
 kO 10 (.mov (kT 18))])
 (.seq (.seq (.ops [kO 19 (.mov (kT 10)),
 kO 20 (kA .neq (kT 19) (kC 0))])
 (.cond (kT 20) (.seq (.ops [kO 21 (.mov (kT 10)),
 kO 6 (.mov (kC 0)),
 kO 7 (.mov (.const kN)),
 kO 8 (.mov (kT 21))])
 .ret)
 .skip))
 (.seq (.ops [kO 22 (.loadN 2 (kT 9)),
 kO 23 (.mov (kT 2)),
 kO 24 (.call 93 [.tmp 22,.tmp 23]),
 kO 11 (.alloc 83 [kZ,kN]),
 ⟨none,.store 2 (kT 11) (kT 24),none⟩])
 (.seq (.ops [kO 25 (.fldA 0 (kT 11)),
 kO 26 (.load1 (kT 25)),
 kO 27 (.fldA 1 (kT 11)),
 kO 28 (.load1 (kT 27)),
 kO 6 (.mov (kT 26)),
 kO 7 (.mov (kT 28)),
 kO 8 (.mov (kC 0))])
 .ret)))))
theorem enter51 (hl : xs.length ≤ 29) (w : wq E 29 none c51 (frameOf xs) h [] (leaveQ E [.tmp 6,.tmp 7,.tmp 8] Q)) : CallP E 51 xs h Q :=
  CallP.enterQ (fn := Try.f51) (fn_get Try.func51) (code := Try.f51.body.get rfl) rfl rfl rfl (by kernel_rfl) rfl (fun _ => rfl) hl w
theorem can51 : callable E 51 = true := callable_get Try.func51 rfl rfl
def c53 : C := (.seq (.ops [kO 4 (.mov (.const (.bool kF)))])
 (.seq (.seq (.ops [kO 6 (.mov (kT 0)),
 kO 7 (.lenS (kT 6)),
 kO 8 (.mov (kT 1)),
 kO 9 (.lenS (kT 8)),
 kO 10 (kA .neq (kT 7) (kT 9))])
 (.cond (kT 10) (.seq (.ops [kO 4 (.mov (.const (.bool kF)))])
 .ret)
 .skip))
 (.seq (.seq (.ops [kO 5 (.mov (kC 0))])
 (.block 0 (.loop (.seq (.seq (.ops [kO 11 (.mov (kT 5)),
 kO 12 (.mov (kT 0)),
 kO 13 (.lenS (kT 12)),
 kO 14 (kA .lss (kT 11) (kT 13))])
 (.cond (kT 14) .skip
 (.exit 0)))
 (.seq (.block 1 (.seq (.ops [kO 17 (.mov (kT 0)),
 kO 18 (.mov (kT 5)),
 kO 19 (.idxS 2 (kT 17) (kT 18)),
 kO 20 (.loadN 2 (kT 19)),
 kO 21 (.mov (kT 1)),
 kO 22 (.mov (kT 5)),
 kO 23 (.idxS 2 (kT 21) (kT 22)),
 kO 24 (.loadN 2 (kT 23)),
 kO 25 (.raw (.binOp .neq 79 (kT 20) (kT 24) 79) 4)])
 (.cond (kT 25) (.seq (.ops [kO 4 (.mov (.const (.bool kF)))])
 .ret)
 .skip)))
 (.ops [kO 15 (.mov (kT 5)),
 kO 16 (kA .add (kT 15) (kC 1)),
 kO 5 (.mov (kT 16))]))))))
 (.seq (.ops [kO 4 (.mov (.const (.bool kE)))])
 .ret))))
theorem enter53 (hl : xs.length ≤ 26) (w : wq E 26 none c53 (frameOf xs) h [] (leaveQ E [.tmp 4] Q)) : CallP E 53 xs h Q :=
  CallP.enterQ (fn := Try.f53) (fn_get Try.func53) (code := Try.f53.body.get rfl) rfl rfl rfl (by kernel_rfl) rfl (fun _ => rfl) hl w
theorem can53 : callable E 53 = true := callable_get Try.func53 rfl rfl
def c57 : C := (.seq (.ops [kO 2 (.mov (.const kN))])
 (.seq (.ops [kO 3 (.mov (.const kN))])
 (.seq (.ops [kO 4 (.mov (kT 3)),
 kO 5 (.mov (kT 0)),
 kO 6 (.mov (kT 0)),
 kO 7 (.lenS (kT 6)),
 kO 8 (.raw (.call ⟨.builtin .min,⟨[.tmp 7,(kC 10)]⟩,⟨[3,3]⟩⟩) 3),
 kO 9 (.cutS 2 (kT 5) none (some (kT 8)) none),
 kO 10 (.append 79 2 16 (kT 4) (kT 9)),
 kO 2 (.mov (kT 10))])
 .ret)))
theorem enter57 (hl : xs.length ≤ 11) (w : wq E 11 none c57 (frameOf xs) h [] (leaveQ E [.tmp 2] Q)) : CallP E 57 xs h Q :=
  CallP.enterQ (fn := Try.f57) (fn_get Try.func57) (code := Try.f57.body.get rfl) rfl rfl rfl (by kernel_rfl) rfl (fun _ => rfl) hl w
theorem can57 : callable E 57 = true := callable_get Try.func57 rfl rfl
def c59 : C := (.seq (.ops [kO 2 (.box 83 (kT 0)),
 kO 4 (.mov (kC 0))])
 (.seq (.ops [kO 8 (.call 97 []),
 kO 5 (.alloc 116 [kZ,kZ,kZ,kZ,kZ,kZ]),
 ⟨none,.store 6 (kT 5) (kT 8),none⟩])
 (.seq (.ops [kO 6 (.alloc 3 [kZ]),
 ⟨none,.store 1 (kT 6) (kC 0),none⟩])
 (.seq (.seq (.ops [kO 9 (.mov (kT 1)),
 kO 10 (.call 98 [.tmp 9])])
 (.block 0 (.range (kT 10) ⟨[11]⟩ (.ops [kO 7 (.mov (kT 11))])
 (.block 1 (.seq (.ops [kO 12 (.fldA 1 (kT 2)),
 kO 13 (.load1 (kT 12)),
 kO 14 (.mov (kT 7)),
 kO 15 (.idxS 2 (kT 13) (kT 14)),
 kO 16 (.idxA 2 1 (kT 15) (kC 0)),
 kO 17 (.load1 (kT 16)),
 kO 18 (.fldA 1 (kT 2)),
 kO 19 (.load1 (kT 18)),
 kO 20 (.mov (kT 7)),
 kO 21 (.idxS 2 (kT 19) (kT 20)),
 kO 22 (.idxA 2 1 (kT 21) (kC 1)),
 kO 23 (.load1 (kT 22)),
 kO 24 (.call 99 [.tmp 5,.tmp 17,.tmp 23])])
 (.cond (kT 24) (.ops [kO 25 (.load1 (kT 6)),
 kO 26 (kA .add (kT 25) (kC 1)),
 ⟨none,.store 1 (kT 6) (kT 26),none⟩])
 .skip))))))
 (.seq (.ops [kO 27 (.load1 (kT 6)),
 kO 4 (.mov (kT 27))])
 .ret)))))
theorem enter59 (hl : xs.length ≤ 28) (w : wq E 28 none c59 (frameOf xs) h [] (leaveQ E [.tmp 4] Q)) : CallP E 59 xs h Q :=
  CallP.enterQ (fn := Try.f59) (fn_get Try.func59) (code := Try.f59.body.get rfl) rfl rfl rfl (by kernel_rfl) rfl (fun _ => rfl) hl w
theorem can59 : callable E 59 = true := callable_get Try.func59 rfl rfl
def c60 : C := (.seq (.ops [kO 4 (.mov (kC 0))])
 (.seq (.seq (.ops [kO 7 (.mov (kT 0)),
 kO 8 (kA .lss (kT 7) (kC 1)),
 kO 9 (.mov (kT 8)),
 ⟨some 10,.mov (kT 0),(some (9,kF))⟩,
 ⟨some 11,kA .gtr (kT 10) (kC 6),(some (9,kF))⟩,
 kO 12 (.pick (kT 9) (.const (.bool kE)) (kT 11))])
 (.cond (kT 12) (.seq (.ops [kO 4 (.mov (kC 1))])
 .ret)
 .skip))
 (.seq (.seq (.ops [kO 13 (.mov (kT 1)),
 kO 14 (.lenS (kT 13)),
 kO 15 (kA .gtr (kT 14) (kC 9))])
 (.cond (kT 15) (.seq (.ops [kO 4 (.mov (kC 10))])
 .ret)
 .skip))
 (.seq (.seq (.ops [kO 16 (.mov (kT 1)),
 kO 17 (.lenS (kT 16)),
 kO 18 (.mov (kC 0))])
 (.block 0 (.loop (.seq (.ops [kO 19 (kA .lss (kT 18) (kT 17))])
 (.seq (.cond (kT 19) .skip
 (.exit 0))
 (.seq (.block 1 (.seq (.ops [kO 20 (.mov (kT 18)),
 kO 21 (.idxS 2 (kT 16) (kT 18)),
 kO 22 (.loadN 2 (kT 21)),
 kO 6 (.alloc 79 [kZ,kZ]),
 kO 5 (.mov (kT 20)),
 ⟨none,.store 2 (kT 6) (kT 22),none⟩])
 (.seq (.seq (.ops [kO 23 (.idxA 2 1 (kT 6) (kC 0)),
 kO 24 (.load1 (kT 23)),
 kO 25 (kA .lss (kT 24) (kC 0)),
 kO 26 (.mov (kT 25)),
 ⟨some 27,.idxA 2 1 (kT 6) (kC 0),(some (26,kF))⟩,
 ⟨some 28,.load1 (kT 27),(some (26,kF))⟩,
 ⟨some 29,.idxA 2 1 (kT 6) (kC 1),(some (26,kF))⟩,
 ⟨some 30,.load1 (kT 29),(some (26,kF))⟩,
 ⟨some 31,kA .gtr (kT 28) (kT 30),(some (26,kF))⟩,
 kO 32 (.pick (kT 26) (.const (.bool kE)) (kT 31)),
 kO 33 (.mov (kT 32)),
 ⟨some 34,.idxA 2 1 (kT 6) (kC 1),(some (33,kF))⟩,
 ⟨some 35,.load1 (kT 34),(some (33,kF))⟩,
 ⟨some 36,.mov (kT 0),(some (33,kF))⟩,
 ⟨some 37,kA .geq (kT 35) (kT 36),(some (33,kF))⟩,
 kO 38 (.pick (kT 33) (.const (.bool kE)) (kT 37))])
 (.cond (kT 38) (.seq (.ops [kO 4 (.mov (kC 10))])
 .ret)
 .skip))
 (.seq (.ops [kO 39 (.mov (kT 5)),
 kO 40 (kA .gtr (kT 39) (kC 0)),
 kO 41 (.mov (kT 40)),
 ⟨some 42,.loadN 2 (kT 6),(some (41,kE))⟩,
 ⟨some 43,.mov (kT 1),(some (41,kE))⟩,
 ⟨some 44,.mov (kT 5),(some (41,kE))⟩,
 ⟨some 45,kA .sub (kT 44) (kC 1),(some (41,kE))⟩,
 ⟨some 46,.idxS 2 (kT 43) (kT 45),(some (41,kE))⟩,
 ⟨some 47,.loadN 2 (kT 46),(some (41,kE))⟩,
 ⟨some 48,.call 100 [.tmp 42,.tmp 47],(some (41,kE))⟩,
 ⟨some 49,kA .lss (kT 48) (kC 0),(some (41,kE))⟩,
 kO 50 (.pick (kT 41) (kT 49) (.const (.bool kF)))])
 (.cond (kT 50) (.seq (.ops [kO 4 (.mov (kC 10))])
 .ret)
 .skip)))))
 (.ops [kO 51 (kA .add (kT 18) (kC 1)),
 kO 18 (.mov (kT 51))])))))))
 (.seq (.ops [kO 4 (.mov (kC 0))])
 .ret)))))
theorem enter60 (hl : xs.length ≤ 52) (w : wq E 52 none c60 (frameOf xs) h [] (leaveQ E [.tmp 4] Q)) : CallP E 60 xs h Q :=
  CallP.enterQ (fn := Try.f60) (fn_get Try.func60) (code := Try.f60.body.get rfl) rfl rfl rfl (by kernel_rfl) rfl (fun _ => rfl) hl w
theorem can60 : callable E 60 = true := callable_get Try.func60 rfl rfl
def c61 : C := (.seq (.ops [kO 4 (.mov (kC 0))])
 (.seq (.draw [kO 5 (.load1 (kT 1)),
 kO 6 (.loadN 2 (kT 2)),
 kO 7 (.mov (kT 0)),
 kO 8 (.call 59 [.tmp 6,.tmp 7]),
 kO 9 (kA .sub (kT 5) (kT 8)),
 kO 4 (.mov (kT 9))]
 [⟨kF,kE,fL5,fL6⟩,
 ⟨kF,kF,fL5,fL5⟩,
 ⟨kF,kF,fL5,fL5⟩,
 ⟨kE,kF,fL5,fL6⟩,
 ⟨kF,kF,fL6,fL6⟩,
 ⟨kF,kF,fL6,fL6⟩])
 .ret))
theorem enter61 (hl : xs.length ≤ 10) (w : wq E 10 none c61 (frameOf xs) h [] (leaveQ E [.tmp 4] Q)) : CallP E 61 xs h Q :=
  CallP.enterQ (fn := Try.f61) (fn_get Try.func61) (code := Try.f61.body.get rfl) rfl rfl rfl (by kernel_rfl) rfl (fun _ => rfl) hl w
theorem can61 : callable E 61 = true := callable_get Try.func61 rfl rfl
def c62 : C := (.seq (.ops [kO 2 (.mov (.const (.bool kF)))])
 (.seq (.ops [kO 3 (.mov (kT 0)),
 kO 4 (.call 63 [.tmp 3]),
 kO 5 (kA .rem (kT 4) (kC 2)),
 kO 6 (kA .eql (kT 5) (kC 1)),
 kO 2 (.mov (kT 6))])
 .ret))
theorem enter62 (hl : xs.length ≤ 7) (w : wq E 7 none c62 (frameOf xs) h [] (leaveQ E [.tmp 2] Q)) : CallP E 62 xs h Q :=
  CallP.enterQ (fn := Try.f62) (fn_get Try.func62) (code := Try.f62.body.get rfl) rfl rfl rfl (by kernel_rfl) rfl (fun _ => rfl) hl w
theorem can62 : callable E 62 = true := callable_get Try.func62 rfl rfl
def c63 : C := (.seq (.ops [kO 2 (.mov (kC 0))])
 (.seq (.ops [kO 3 (.mov (kT 0)),
 kO 4 (.cint .u64 (kT 3)),
 kO 5 (.call 101 [.tmp 4]),
 kO 2 (.mov (kT 5))])
 .ret))
theorem enter63 (hl : xs.length ≤ 6) (w : wq E 6 none c63 (frameOf xs) h [] (leaveQ E [.tmp 2] Q)) : CallP E 63 xs h Q :=
  CallP.enterQ (fn := Try.f63) (fn_get Try.func63) (code := Try.f63.body.get rfl) rfl rfl rfl (by kernel_rfl) rfl (fun _ => rfl) hl w
theorem can63 : callable E 63 = true := callable_get Try.func63 rfl rfl
def c64 : C := (.seq (.ops [kO 3 (.box 83 (kT 0)),
 kO 4 (.box 86 (kT 1)),
 kO 5 (.box 88 (kT 2)),
 kO 6 (.mov (.const kN))])
 (.seq (.ops [kO 7 (.alloc 32 [kN])])
 (.seq (.seq (.ops [kO 10 (.fldA 1 (kT 3)),
 kO 11 (.load1 (kT 10)),
 kO 12 (.lenS (kT 11)),
 kO 13 (.call 87 [.tmp 12])])
 (.block 0 (.range (kT 13) ⟨[14]⟩ (.ops [kO 8 (.mov (kT 14))])
 (.block 1 (.seq (.ops [kO 15 (.load1 (kT 4)),
 kO 16 (.mov (kT 8)),
 kO 17 (.callv (kT 15) [.tmp 16]),
 kO 9 (.mov (kT 17))])
 (.seq (.ops [kO 18 (.load1 (kT 7)),
 kO 19 (.mov (kT 9)),
 kO 20 (.call 102 [.tmp 18,.tmp 19]),
 ⟨none,.store 1 (kT 7) (kT 20),none⟩])
 (.seq (.ops [kO 21 (.load1 (kT 5)),
 kO 22 (.mov (kT 8)),
 kO 23 (.callv (kT 21) [.tmp 22])])
 (.cond (kT 23) (.ops [kO 24 (.load1 (kT 7)),
 kO 25 (.mov (kT 9)),
 kO 26 (.idxS 1 (kT 24) (kT 25)),
 kO 27 (.load1 (kT 26)),
 kO 28 (kA .sub (kT 27) (kC 1)),
 kO 29 (.idxS 1 (kT 24) (kT 25)),
 ⟨none,.store 1 (kT 29) (kT 28),none⟩])
 (.ops [kO 30 (.load1 (kT 7)),
 kO 31 (.mov (kT 9)),
 kO 32 (.idxS 1 (kT 30) (kT 31)),
 kO 33 (.load1 (kT 32)),
 kO 34 (kA .add (kT 33) (kC 1)),
 kO 35 (.idxS 1 (kT 30) (kT 31)),
 ⟨none,.store 1 (kT 35) (kT 34),none⟩])))))))))
 (.seq (.ops [kO 36 (.load1 (kT 7)),
 kO 37 (.call 103 [.tmp 36]),
 kO 6 (.mov (kT 37))])
 .ret))))
theorem enter64 (hl : xs.length ≤ 38) (w : wq E 38 none c64 (frameOf xs) h [] (leaveQ E [.tmp 6] Q)) : CallP E 64 xs h Q :=
  CallP.enterQ (fn := Try.f64) (fn_get Try.func64) (code := Try.f64.body.get rfl) rfl rfl rfl (by kernel_rfl) rfl (fun _ => rfl) hl w
theorem can64 : callable E 64 = true := callable_get Try.func64 rfl rfl
def c69 : C := (.seq (.ops [kO 2 (.mov (kC 0))])
 (.seq (.ops [kO 3 (.mov (kT 0)),
 kO 4 (.lenS (kT 3)),
 kO 5 (kA .shl (kC 1) (kT 4)),
 kO 6 (kA .sub (kT 5) (kC 1)),
 kO 2 (.mov (kT 6))])
 .ret))
theorem enter69 (hl : xs.length ≤ 7) (w : wq E 7 none c69 (frameOf xs) h [] (leaveQ E [.tmp 2] Q)) : CallP E 69 xs h Q :=
  CallP.enterQ (fn := Try.f69) (fn_get Try.func69) (code := Try.f69.body.get rfl) rfl rfl rfl (by kernel_rfl) rfl (fun _ => rfl) hl w
theorem can69 : callable E 69 = true := callable_get Try.func69 rfl rfl
def c70 : C := (.seq (.ops [kO 2 (.mov (kC 0))])
 (.seq (.seq (.ops [kO 3 (.mov (kT 0)),
 kO 4 (kA .rem (kT 3) (kC 2)),
 kO 5 (kA .eql (kT 4) (kC 0))])
 (.cond (kT 5) (.seq (.ops [kO 2 (.mov (kC 1))])
 .ret)
 .skip))
 (.seq (.ops [kO 2 (.mov (.const (.int .i64 (-1))))])
 .ret)))
theorem enter70 (hl : xs.length ≤ 6) (w : wq E 6 none c70 (frameOf xs) h [] (leaveQ E [.tmp 2] Q)) : CallP E 70 xs h Q :=
  CallP.enterQ (fn := Try.f70) (fn_get Try.func70) (code := Try.f70.body.get rfl) rfl rfl rfl (by kernel_rfl) rfl (fun _ => rfl) hl w
theorem can70 : callable E 70 = true := callable_get Try.func70 rfl rfl
def c71 : C := (.seq (.ops [kO 2 (.mov (kC 0))])
 (.seq (.ops [kO 3 (.mov (kC 0))])
 (.seq (.seq (.ops [kO 4 (.mov (kC 0))])
 (.block 0 (.loop (.seq (.seq (.ops [kO 5 (.mov (kT 0)),
 kO 6 (.mov (kT 4)),
 kO 7 (kA .shr (kT 5) (kT 6)),
 kO 8 (kA .gtr (kT 7) (kC 0))])
 (.cond (kT 8) .skip
 (.exit 0)))
 (.seq (.block 1 (.ops [kO 11 (.mov (kT 3)),
 kO 12 (.mov (kT 0)),
 kO 13 (.mov (kT 4)),
 kO 14 (kA .shr (kT 12) (kT 13)),
 kO 15 (kA .rem (kT 14) (kC 2)),
 kO 16 (kA .add (kT 11) (kT 15)),
 kO 3 (.mov (kT 16))]))
 (.ops [kO 9 (.mov (kT 4)),
 kO 10 (kA .add (kT 9) (kC 1)),
 kO 4 (.mov (kT 10))]))))))
 (.seq (.ops [kO 17 (.mov (kT 3)),
 kO 2 (.mov (kT 17))])
 .ret))))
theorem enter71 (hl : xs.length ≤ 18) (w : wq E 18 none c71 (frameOf xs) h [] (leaveQ E [.tmp 2] Q)) : CallP E 71 xs h Q :=
  CallP.enterQ (fn := Try.f71) (fn_get Try.func71) (code := Try.f71.body.get rfl) rfl rfl rfl (by kernel_rfl) rfl (fun _ => rfl) hl w
theorem can71 : callable E 71 = true := callable_get Try.func71 rfl rfl
def c72 : C := (.seq (.ops [kO 2 (.mov (.const kN))])
 (.seq (.ops [kO 4 (.mov (kT 0)),
 kO 5 (.lenS (kT 4)),
 kO 3 (.mov (kT 5))])
 (.seq (.block 0 (.loop (.seq (.seq (.ops [kO 6 (.mov (kT 3)),
 kO 7 (kA .gtr (kT 6) (kC 0)),
 kO 8 (.mov (kT 7)),
 ⟨some 9,.mov (kT 0),(some (8,kE))⟩,
 ⟨some 10,.mov (kT 3),(some (8,kE))⟩,
 ⟨some 11,kA .sub (kT 10) (kC 1),(some (8,kE))⟩,
 ⟨some 12,.idxS 1 (kT 9) (kT 11),(some (8,kE))⟩,
 ⟨some 13,.load1 (kT 12),(some (8,kE))⟩,
 ⟨some 14,kA .eql (kT 13) (kC 0),(some (8,kE))⟩,
 kO 15 (.pick (kT 8) (kT 14) (.const (.bool kF)))])
 (.cond (kT 15) .skip
 (.exit 0)))
 (.block 1 (.ops [kO 16 (.mov (kT 3)),
 kO 17 (kA .sub (kT 16) (kC 1)),
 kO 3 (.mov (kT 17))])))))
 (.seq (.ops [kO 18 (.mov (kT 0)),
 kO 19 (.mov (kT 3)),
 kO 20 (.cutS 1 (kT 18) none (some (kT 19)) none),
 kO 2 (.mov (kT 20))])
 .ret))))
theorem enter72 (hl : xs.length ≤ 21) (w : wq E 21 none c72 (frameOf xs) h [] (leaveQ E [.tmp 2] Q)) : CallP E 72 xs h Q :=
  CallP.enterQ (fn := Try.f72) (fn_get Try.func72) (code := Try.f72.body.get rfl) rfl rfl rfl (by kernel_rfl) rfl (fun _ => rfl) hl w
theorem can72 : callable E 72 = true := callable_get Try.func72 rfl rfl
def c87 : C := (.seq (.ops [kO 1 (.box 3 (kT 0)),
 kO 2 (.mov (.const .nilFunc))])
 (.seq (.ops [kO 3 (.func (.func 115) [] [.tmp 1]),
 kO 2 (.mov (kT 3))])
 .ret))
theorem enter87 (hl : xs.length ≤ 4) (w : wq E 4 none c87 (frameOf xs) h [] (leaveQ E [.tmp 2] Q)) : CallP E 87 xs h Q :=
  CallP.enterQ (fn := Try.f87) (fn_get Try.func87) (code := Try.f87.body.get rfl) rfl rfl rfl (by kernel_rfl) rfl (fun _ => rfl) hl w
theorem can87 : callable E 87 = true := callable_get Try.func87 rfl rfl
def c88 : C := (.seq (.ops [kO 2 (.box 83 (kT 0)),
 kO 4 (.mov (.const (.bool kF)))])
 (.seq (.draw [kO 6 (.loadN 2 (kT 2)),
 kO 7 (.loadN 2 (kT 2)),
 kO 8 (.call 113 [.tmp 7]),
 kO 9 (.call 59 [.tmp 6,.tmp 8]),
 kO 5 (.mov (kT 9))]
 [⟨kF,kE,fL10,fL11⟩,
 ⟨kF,kF,fL10,fL10⟩,
 ⟨kE,kF,fL10,fL11⟩,
 ⟨kE,kF,fL11,fL12⟩,
 ⟨kF,kF,fL12,fL12⟩])
 (.seq (.ops [kO 10 (.mov (kT 1)),
 kO 11 (.call 63 [.tmp 10]),
 kO 12 (.mov (kT 5)),
 kO 13 (kA .eql (kT 11) (kT 12)),
 kO 14 (.mov (kT 13)),
 ⟨some 15,.loadN 2 (kT 2),(some (14,kE))⟩,
 ⟨some 16,.mov (kT 1),(some (14,kE))⟩,
 ⟨some 17,.call 59 [.tmp 15,.tmp 16],(some (14,kE))⟩,
 ⟨some 18,.mov (kT 5),(some (14,kE))⟩,
 ⟨some 19,kA .eql (kT 17) (kT 18),(some (14,kE))⟩,
 kO 20 (.pick (kT 14) (kT 19) (.const (.bool kF))),
 kO 4 (.mov (kT 20))])
 .ret)))
theorem enter88 (hl : xs.length ≤ 21) (w : wq E 21 none c88 (frameOf xs) h [] (leaveQ E [.tmp 4] Q)) : CallP E 88 xs h Q :=
  CallP.enterQ (fn := Try.f88) (fn_get Try.func88) (code := Try.f88.body.get rfl) rfl rfl rfl (by kernel_rfl) rfl (fun _ => rfl) hl w
theorem can88 : callable E 88 = true := callable_get Try.func88 rfl rfl
def c90 : C := (.seq (.ops [kO 4 (.mov (.const (.bool kF)))])
 (.seq (.ops [kO 5 (.mov (kT 0)),
 kO 6 (.mov (kT 1)),
 kO 7 (kA .shr (kT 5) (kT 6)),
 kO 8 (kA .and (kT 7) (kC 1)),
 kO 9 (kA .eql (kT 8) (kC 1)),
 kO 4 (.mov (kT 9))])
 .ret))
theorem enter90 (hl : xs.length ≤ 10) (w : wq E 10 none c90 (frameOf xs) h [] (leaveQ E [.tmp 4] Q)) : CallP E 90 xs h Q :=
  CallP.enterQ (fn := Try.f90) (fn_get Try.func90) (code := Try.f90.body.get rfl) rfl rfl rfl (by kernel_rfl) rfl (fun _ => rfl) hl w
theorem can90 : callable E 90 = true := callable_get Try.func90 rfl rfl
def c91 : C := (.seq (.ops [kO 6 (.alloc 83 [kZ,kN]),
 kO 7 (.mov (kC 0))])
 (.seq (.seq (.ops [kO 9 (.mov (kT 0)),
 kO 10 (.mov (kT 1)),
 kO 11 (.call 60 [.tmp 9,.tmp 10]),
 kO 8 (.mov (kT 11))])
 (.seq (.ops [kO 12 (.mov (kT 8)),
 kO 13 (kA .neq (kT 12) (kC 0))])
 (.cond (kT 13) (.seq (.ops [kO 14 (.aggr [kZ,kN] []),
 kO 15 (.mov (kT 8)),
 ⟨none,.store 2 (kT 6) (kT 14),none⟩,
 kO 7 (.mov (kT 15))])
 .ret)
 .skip)))
 (.seq (.seq (.ops [kO 16 (.mov (kT 2)),
 kO 17 (kA .lss (kT 16) (kC 0)),
 kO 18 (.mov (kT 17)),
 ⟨some 19,.mov (kT 2),(some (18,kF))⟩,
 ⟨some 20,.mov (kT 1),(some (18,kF))⟩,
 ⟨some 21,.lenS (kT 20),(some (18,kF))⟩,
 ⟨some 22,kA .geq (kT 19) (kT 21),(some (18,kF))⟩,
 kO 23 (.pick (kT 18) (.const (.bool kE)) (kT 22))])
 (.cond (kT 23) (.seq (.ops [kO 24 (.aggr [kZ,kN] []),
 ⟨none,.store 2 (kT 6) (kT 24),none⟩,
 kO 7 (.mov (kC 1))])
 .ret)
 .skip))
 (.seq (.ops [kO 25 (.mov (kT 0)),
 kO 26 (.mov (kT 1)),
 kO 27 (.aggr [kZ,kN] [(0,1,(kT 25)),(1,1,(kT 26))]),
 ⟨none,.store 2 (kT 6) (kT 27),none⟩,
 kO 7 (.mov (kC 0))])
 .ret))))
theorem enter91 (hl : xs.length ≤ 28) (w : wq E 28 none c91 (frameOf xs) h [] (leaveQ E [.cell 6 83,.tmp 7] Q)) : CallP E 91 xs h Q :=
  CallP.enterQ (fn := Try.f91) (fn_get Try.func91) (code := Try.f91.body.get rfl) rfl rfl rfl (by kernel_rfl) rfl (fun _ => rfl) hl w
theorem can91 : callable E 91 = true := callable_get Try.func91 rfl rfl
def c92 : C := (.seq (.ops [kO 2 (.box 83 (kT 0)),
 kO 4 (.alloc 83 [kZ,kN])])
 (.seq (.draw [kO 5 (.fldA 0 (kT 2)),
 kO 6 (.load1 (kT 5)),
 kO 7 (.fldA 1 (kT 2)),
 kO 8 (.load1 (kT 7)),
 kO 9 (.mov (kT 1)),
 kO 10 (.cutS 2 (kT 8) none (some (kT 9)) none),
 kO 11 (.fldA 1 (kT 2)),
 kO 12 (.load1 (kT 11)),
 kO 13 (.mov (kT 1)),
 kO 14 (kA .add (kT 13) (kC 1)),
 kO 15 (.cutS 2 (kT 12) (some (kT 14)) none none),
 kO 16 (.slit 22 2 [kN,kN] [(0,1,(kT 10)),(1,1,(kT 15))]),
 kO 17 (.call 116 [.tmp 16]),
 kO 18 (.aggr [kZ,kN] [(0,1,(kT 6)),(1,1,(kT 17))]),
 ⟨none,.store 2 (kT 4) (kT 18),none⟩]
 [⟨kF,kE,fL2,fL7⟩,
 ⟨kF,kE,fL2,fL7⟩,
 ⟨kF,kF,fL2,fL2⟩,
 ⟨kF,kF,fL2,fL2⟩,
 ⟨kF,kF,fL2,fL2⟩,
 ⟨kF,kF,fL2,fL2⟩,
 ⟨kF,kF,fL2,fL2⟩,
 ⟨kF,kF,fL2,fL2⟩,
 ⟨kF,kF,fL2,fL2⟩,
 ⟨kF,kF,fL2,fL2⟩,
 ⟨kF,kF,fL2,fL2⟩,
 ⟨kE,kF,fL2,fL14⟩,
 ⟨kE,kF,fL14,fL7⟩,
 ⟨kF,kF,fL7,fL7⟩,
 ⟨kE,kF,fL7,[kF,kF,kF,kF,kF,kF,kF,kF,kF,kF,kF,kE,kE,kF,kE]⟩])
 .ret))
theorem enter92 (hl : xs.length ≤ 19) (w : wq E 19 none c92 (frameOf xs) h [] (leaveQ E [.cell 4 83] Q)) : CallP E 92 xs h Q :=
  CallP.enterQ (fn := Try.f92) (fn_get Try.func92) (code := Try.f92.body.get rfl) rfl rfl rfl (by kernel_rfl) rfl (fun _ => rfl) hl w
theorem can92 : callable E 92 = true := callable_get Try.func92 rfl rfl
def c93 : C := (.seq (.ops [kO 2 (.box 83 (kT 0)),
 kO 4 (.alloc 83 [kZ,kN])])
 (.seq (.ops [kO 12 (.loadN 2 (kT 2)),
 kO 13 (.mov (kT 1)),
 kO 14 (.call 92 [.tmp 12,.tmp 13]),
 kO 5 (.alloc 83 [kZ,kN]),
 ⟨none,.store 2 (kT 5) (kT 14),none⟩])
 (.seq (.seq (.ops [kO 15 (.loadN 2 (kT 2)),
 kO 16 (.mov (kT 1)),
 kO 17 (.call 117 [.tmp 15,.tmp 16])])
 (.cond (kT 17) (.seq (.ops [kO 18 (.loadN 2 (kT 5)),
 ⟨none,.store 2 (kT 4) (kT 18),none⟩])
 .ret)
 .skip))
 (.seq (.ops [kO 19 (.fldA 1 (kT 2)),
 kO 20 (.load1 (kT 19)),
 kO 21 (.mov (kT 1)),
 kO 22 (.idxS 2 (kT 20) (kT 21)),
 kO 23 (.idxA 2 1 (kT 22) (kC 0)),
 kO 24 (.load1 (kT 23)),
 kO 25 (.fldA 1 (kT 2)),
 kO 26 (.load1 (kT 25)),
 kO 27 (.mov (kT 1)),
 kO 28 (.idxS 2 (kT 26) (kT 27)),
 kO 29 (.idxA 2 1 (kT 28) (kC 1)),
 kO 30 (.load1 (kT 29)),
 kO 6 (.mov (kT 24)),
 kO 7 (.mov (kT 30))])
 (.seq (.seq (.ops [kO 31 (.fldA 1 (kT 5)),
 kO 32 (.load1 (kT 31)),
 kO 33 (.lenS (kT 32)),
 kO 34 (.mov (kC 0))])
 (.block 0 (.loop (.seq (.ops [kO 35 (kA .lss (kT 34) (kT 33))])
 (.seq (.cond (kT 35) .skip
 (.exit 0))
 (.seq (.block 1 (.seq (.ops [kO 36 (.mov (kT 34)),
 kO 37 (.idxS 2 (kT 32) (kT 34)),
 kO 38 (.loadN 2 (kT 37)),
 kO 9 (.alloc 79 [kZ,kZ]),
 kO 8 (.mov (kT 36)),
 ⟨none,.store 2 (kT 9) (kT 38),none⟩])
 (.seq (.draw [kO 39 (.idxA 2 1 (kT 9) (kC 0)),
 kO 40 (.load1 (kT 39)),
 kO 41 (.mov (kT 6)),
 kO 42 (.mov (kT 7)),
 kO 43 (.call 118 [.tmp 40,.tmp 41,.tmp 42]),
 kO 44 (.idxA 2 1 (kT 9) (kC 1)),
 kO 45 (.load1 (kT 44)),
 kO 46 (.mov (kT 6)),
 kO 47 (.mov (kT 7)),
 kO 48 (.call 118 [.tmp 45,.tmp 46,.tmp 47]),
 kO 10 (.mov (kT 43)),
 kO 11 (.mov (kT 48))]
 [⟨kF,kF,fL1,fL1⟩,
 ⟨kF,kF,fL1,fL1⟩,
 ⟨kF,kF,fL1,fL1⟩,
 ⟨kF,kF,fL1,fL1⟩,
 ⟨kE,kF,fL1,fL8⟩,
 ⟨kF,kE,fL1,fL8⟩,
 ⟨kF,kE,fL1,fL8⟩,
 ⟨kF,kE,fL1,fL8⟩,
 ⟨kF,kE,fL1,fL8⟩,
 ⟨kE,kF,fL8,fL9⟩,
 ⟨kF,kF,fL9,fL9⟩,
 ⟨kF,kF,fL9,fL9⟩])
 (.ops [kO 49 (.fldA 1 (kT 5)),
 kO 50 (.load1 (kT 49)),
 kO 51 (.mov (kT 8)),
 kO 52 (.mov (kT 10)),
 kO 53 (.mov (kT 11)),
 kO 54 (.raw (.call ⟨.builtin .min,⟨[.tmp 52,.tmp 53]⟩,⟨[3,3]⟩⟩) 3),
 kO 55 (.mov (kT 10)),
 kO 56 (.mov (kT 11)),
 kO 57 (.raw (.call ⟨.builtin .max,⟨[.tmp 55,.tmp 56]⟩,⟨[3,3]⟩⟩) 3),
 kO 58 (.aggr [kZ,kZ] [(0,1,(kT 54)),(1,1,(kT 57))]),
 kO 59 (.idxS 2 (kT 50) (kT 51)),
 ⟨none,.store 2 (kT 59) (kT 58),none⟩]))))
 (.ops [kO 60 (kA .add (kT 34) (kC 1)),
 kO 34 (.mov (kT 60))])))))))
 (.seq (.ops [kO 61 (.fldA 1 (kT 5)),
 kO 62 (.load1 (kT 61)),
 kO 63 (.call 119 [.tmp 62,.func 100])])
 (.seq (.ops [kO 64 (.fldA 0 (kT 5)),
 kO 65 (.load1 (kT 64)),
 kO 66 (kA .sub (kT 65) (kC 1)),
 kO 67 (.fldA 0 (kT 5)),
 ⟨none,.store 1 (kT 67) (kT 66),none⟩])
 (.seq (.ops [kO 68 (.loadN 2 (kT 5)),
 ⟨none,.store 2 (kT 4) (kT 68),none⟩])
 .ret))))))))
theorem enter93 (hl : xs.length ≤ 69) (w : wq E 69 none c93 (frameOf xs) h [] (leaveQ E [.cell 4 83] Q)) : CallP E 93 xs h Q :=
  CallP.enterQ (fn := Try.f93) (fn_get Try.func93) (code := Try.f93.body.get rfl) rfl rfl rfl (by kernel_rfl) rfl (fun _ => rfl) hl w
theorem can93 : callable E 93 = true := callable_get Try.func93 rfl rfl
def c97 : C := (.seq (.ops [kO 0 (.alloc 116 [kZ,kZ,kZ,kZ,kZ,kZ])])
 (.seq (.ops [kO 1 (.alloc 116 [kZ,kZ,kZ,kZ,kZ,kZ])])
 (.seq (.seq (.ops [kO 3 (.mov (kC 0))])
 (.block 0 (.loop (.seq (.ops [kO 4 (kA .lss (kT 3) (kC 6))])
 (.seq (.cond (kT 4) .skip
 (.exit 0))
 (.seq (.block 1 (.seq (.ops [kO 5 (.mov (kT 3)),
 kO 2 (.mov (kT 5))])
 (.ops [kO 6 (.mov (kT 2)),
 kO 7 (.mov (kT 2)),
 kO 8 (.idxA 6 1 (kT 1) (kT 6)),
 ⟨none,.store 1 (kT 8) (kT 7),none⟩])))
 (.ops [kO 9 (kA .add (kT 3) (kC 1)),
 kO 3 (.mov (kT 9))])))))))
 (.seq (.ops [kO 10 (.loadN 6 (kT 1)),
 ⟨none,.store 6 (kT 0) (kT 10),none⟩])
 .ret))))
theorem enter97 (hl : xs.length ≤ 11) (w : wq E 11 none c97 (frameOf xs) h [] (leaveQ E [.cell 0 116] Q)) : CallP E 97 xs h Q :=
  CallP.enterQ (fn := Try.f97) (fn_get Try.func97) (code := Try.f97.body.get rfl) rfl rfl rfl (by kernel_rfl) rfl (fun _ => rfl) hl w
theorem can97 : callable E 97 = true := callable_get Try.func97 rfl rfl
def c98 : C := (.seq (.ops [kO 1 (.box 3 (kT 0)),
 kO 2 (.mov (.const .nilFunc))])
 (.seq (.ops [kO 3 (.func (.func 120) [] [.tmp 1]),
 kO 2 (.mov (kT 3))])
 .ret))
theorem enter98 (hl : xs.length ≤ 4) (w : wq E 4 none c98 (frameOf xs) h [] (leaveQ E [.tmp 2] Q)) : CallP E 98 xs h Q :=
  CallP.enterQ (fn := Try.f98) (fn_get Try.func98) (code := Try.f98.body.get rfl) rfl rfl rfl (by kernel_rfl) rfl (fun _ => rfl) hl w
theorem can98 : callable E 98 = true := callable_get Try.func98 rfl rfl
def c99 : C := (.seq (.ops [kO 6 (.mov (.const (.bool kF)))])
 (.seq (.ops [kO 11 (.mov (kT 0)),
 kO 12 (.mov (kT 2)),
 kO 13 (.nilc (kT 11)),
 kO 14 (.idxA 6 1 (kT 13) (kT 12)),
 kO 15 (.load1 (kT 14)),
 kO 16 (.mov (kT 0)),
 kO 17 (.mov (kT 1)),
 kO 18 (.nilc (kT 16)),
 kO 19 (.idxA 6 1 (kT 18) (kT 17)),
 kO 20 (.load1 (kT 19)),
 kO 7 (.mov (kT 15)),
 kO 8 (.mov (kT 20))])
 (.seq (.seq (.ops [kO 21 (.mov (kT 7)),
 kO 22 (.mov (kT 8)),
 kO 23 (kA .eql (kT 21) (kT 22))])
 (.cond (kT 23) (.seq (.ops [kO 6 (.mov (.const (.bool kF)))])
 .ret)
 .skip))
 (.seq (.seq (.ops [kO 24 (.mov (kT 0)),
 kO 25 (.mov (kC 0))])
 (.block 0 (.loop (.seq (.ops [kO 26 (kA .lss (kT 25) (kC 6))])
 (.seq (.cond (kT 26) .skip
 (.exit 0))
 (.seq (.block 1 (.seq (.ops [kO 27 (.mov (kT 25)),
 kO 28 (.nilc (kT 24)),
 kO 29 (.idxA 6 1 (kT 28) (kT 25)),
 kO 30 (.load1 (kT 29)),
 kO 9 (.mov (kT 27)),
 kO 10 (.mov (kT 30))])
 (.seq (.ops [kO 31 (.mov (kT 10)),
 kO 32 (.mov (kT 7)),
 kO 33 (kA .eql (kT 31) (kT 32))])
 (.cond (kT 33) (.ops [kO 34 (.mov (kT 0)),
 kO 35 (.mov (kT 9)),
 kO 36 (.mov (kT 8)),
 kO 37 (.nilc (kT 34)),
 kO 38 (.idxA 6 1 (kT 37) (kT 35)),
 ⟨none,.store 1 (kT 38) (kT 36),none⟩])
 .skip))))
 (.ops [kO 39 (kA .add (kT 25) (kC 1)),
 kO 25 (.mov (kT 39))])))))))
 (.seq (.ops [kO 6 (.mov (.const (.bool kE)))])
 .ret)))))
theorem enter99 (hl : xs.length ≤ 40) (w : wq E 40 none c99 (frameOf xs) h [] (leaveQ E [.tmp 6] Q)) : CallP E 99 xs h Q :=
  CallP.enterQ (fn := Try.f99) (fn_get Try.func99) (code := Try.f99.body.get rfl) rfl rfl rfl (by kernel_rfl) rfl (fun _ => rfl) hl w
theorem can99 : callable E 99 = true := callable_get Try.func99 rfl rfl
def c100 : C := (.seq (.ops [kO 2 (.box 79 (kT 0)),
 kO 3 (.box 79 (kT 1)),
 kO 4 (.mov (kC 0))])
 (.seq (.ops [kO 5 (.cutA 2 1 (kT 2) none none none),
 kO 6 (.cutA 2 1 (kT 3) none none none),
 kO 7 (.call 121 [.tmp 5,.tmp 6]),
 kO 4 (.mov (kT 7))])
 .ret))
theorem enter100 (hl : xs.length ≤ 8) (w : wq E 8 none c100 (frameOf xs) h [] (leaveQ E [.tmp 4] Q)) : CallP E 100 xs h Q :=
  CallP.enterQ (fn := Try.f100) (fn_get Try.func100) (code := Try.f100.body.get rfl) rfl rfl rfl (by kernel_rfl) rfl (fun _ => rfl) hl w
theorem can100 : callable E 100 = true := callable_get Try.func100 rfl rfl
def c101 : C := (.seq (.ops [kO 2 (.mov (kC 0))])
 (.seq (.cond (.const (.bool kF)) (.seq (.ops [kO 3 (.mov (kT 0)),
 kO 4 (.cint .u32 (kT 3)),
 kO 5 (.call 122 [.tmp 4]),
 kO 2 (.mov (kT 5))])
 .ret)
 .skip)
 (.seq (.ops [kO 6 (.mov (kT 0)),
 kO 7 (.call 123 [.tmp 6]),
 kO 2 (.mov (kT 7))])
 .ret)))
theorem enter101 (hl : xs.length ≤ 8) (w : wq E 8 none c101 (frameOf xs) h [] (leaveQ E [.tmp 2] Q)) : CallP E 101 xs h Q :=
  CallP.enterQ (fn := Try.f101) (fn_get Try.func101) (code := Try.f101.body.get rfl) rfl rfl rfl (by kernel_rfl) rfl (fun _ => rfl) hl w
theorem can101 : callable E 101 = true := callable_get Try.func101 rfl rfl
def c102 : C := (.seq (.ops [kO 4 (.mov (.const kN))])
 (.seq (.block 0 (.loop (.seq (.seq (.ops [kO 6 (.mov (kT 0)),
 kO 7 (.lenS (kT 6)),
 kO 8 (.mov (kT 1)),
 kO 9 (kA .leq (kT 7) (kT 8))])
 (.cond (kT 9) .skip
 (.exit 0)))
 (.block 1 (.seq (.ops [kO 5 (.mov (kC 0))])
 (.ops [kO 10 (.mov (kT 0)),
 kO 11 (.mov (kT 5)),
 kO 12 (.slit 2 1 [kZ] [(0,1,(kT 11))]),
 kO 13 (.append 2 1 8 (kT 10) (kT 12)),
 kO 0 (.mov (kT 13))]))))))
 (.seq (.ops [kO 14 (.mov (kT 0)),
 kO 4 (.mov (kT 14))])
 .ret)))
theorem enter102 (hl : xs.length ≤ 15) (w : wq E 15 none c102 (frameOf xs) h [] (leaveQ E [.tmp 4] Q)) : CallP E 102 xs h Q :=
  CallP.enterQ (fn := Try.f102) (fn_get Try.func102) (code := Try.f102.body.get rfl) rfl rfl rfl (by kernel_rfl) rfl (fun _ => rfl) hl w
theorem can102 : callable E 102 = true := callable_get Try.func102 rfl rfl
def c103 : C := (.seq (.ops [kO 2 (.mov (.const kN))])
 (.seq (.block 0 (.loop (.seq (.seq (.ops [kO 3 (.mov (kT 0)),
 kO 4 (.lenS (kT 3)),
 kO 5 (kA .gtr (kT 4) (kC 0)),
 kO 6 (.mov (kT 5)),
 ⟨some 7,.mov (kT 0),(some (6,kE))⟩,
 ⟨some 8,.mov (kT 0),(some (6,kE))⟩,
 ⟨some 9,.lenS (kT 8),(some (6,kE))⟩,
 ⟨some 10,kA .sub (kT 9) (kC 1),(some (6,kE))⟩,
 ⟨some 11,.idxS 1 (kT 7) (kT 10),(some (6,kE))⟩,
 ⟨some 12,.load1 (kT 11),(some (6,kE))⟩,
 ⟨some 13,kA .eql (kT 12) (kC 0),(some (6,kE))⟩,
 kO 14 (.pick (kT 6) (kT 13) (.const (.bool kF)))])
 (.cond (kT 14) .skip
 (.exit 0)))
 (.block 1 (.ops [kO 15 (.mov (kT 0)),
 kO 16 (.mov (kT 0)),
 kO 17 (.lenS (kT 16)),
 kO 18 (kA .sub (kT 17) (kC 1)),
 kO 19 (.cutS 1 (kT 15) none (some (kT 18)) none),
 kO 0 (.mov (kT 19))])))))
 (.seq (.ops [kO 20 (.mov (kT 0)),
 kO 2 (.mov (kT 20))])
 .ret)))
theorem enter103 (hl : xs.length ≤ 21) (w : wq E 21 none c103 (frameOf xs) h [] (leaveQ E [.tmp 2] Q)) : CallP E 103 xs h Q :=
  CallP.enterQ (fn := Try.f103) (fn_get Try.func103) (code := Try.f103.body.get rfl) rfl rfl rfl (by kernel_rfl) rfl (fun _ => rfl) hl w
theorem can103 : callable E 103 = true := callable_get Try.func103 rfl rfl
def c113 : C := (.seq (.ops [kO 1 (.box 83 (kT 0)),
 kO 2 (.mov (kC 0))])
 (.seq (.ops [kO 3 (.fldA 1 (kT 1)),
 kO 4 (.load1 (kT 3)),
 kO 5 (.lenS (kT 4)),
 kO 6 (kA .shl (kC 1) (kT 5)),
 kO 7 (kA .sub (kT 6) (kC 1)),
 kO 2 (.mov (kT 7))])
 .ret))
theorem enter113 (hl : xs.length ≤ 8) (w : wq E 8 none c113 (frameOf xs) h [] (leaveQ E [.tmp 2] Q)) : CallP E 113 xs h Q :=
  CallP.enterQ (fn := Try.f113) (fn_get Try.func113) (code := Try.f113.body.get rfl) rfl rfl rfl (by kernel_rfl) rfl (fun _ => rfl) hl w
theorem can113 : callable E 113 = true := callable_get Try.func113 rfl rfl
def c115 : C := (.seq (.ops [kO 4 (.load1 (kT 1)),
 kO 5 (kA .shl (kC 1) (kT 4)),
 kO 6 (.mov (kC 0))])
 (.block 0 (.loop (.seq (.ops [kO 7 (kA .lss (kT 6) (kT 5))])
 (.seq (.cond (kT 7) .skip
 (.exit 0))
 (.seq (.block 1 (.seq (.ops [kO 8 (.mov (kT 6)),
 kO 3 (.mov (kT 8))])
 (.seq (.ops [kO 9 (.mov (kT 0)),
 kO 10 (.mov (kT 3)),
 kO 11 (.callv (kT 9) [.tmp 10]),
 kO 12 (.not (kT 11))])
 (.cond (kT 12) .ret
 .skip))))
 (.ops [kO 13 (kA .add (kT 6) (kC 1)),
 kO 6 (.mov (kT 13))])))))))
theorem enter115 (hl : xs.length ≤ 14) (w : wq E 14 none c115 (frameOf xs) h [] (leaveQ E [] Q)) : CallP E 115 xs h Q :=
  CallP.enterQ (fn := Try.f115) (fn_get Try.func115) (code := Try.f115.body.get rfl) rfl rfl rfl (by kernel_rfl) rfl (fun _ => rfl) hl w
theorem can115 : callable E 115 = true := callable_get Try.func115 rfl rfl
def c117 : C := (.seq (.ops [kO 2 (.box 83 (kT 0)),
 kO 4 (.mov (.const (.bool kF)))])
 (.seq (.ops [kO 5 (.fldA 1 (kT 2)),
 kO 6 (.load1 (kT 5)),
 kO 7 (.mov (kT 1)),
 kO 8 (.idxS 2 (kT 6) (kT 7)),
 kO 9 (.idxA 2 1 (kT 8) (kC 0)),
 kO 10 (.load1 (kT 9)),
 kO 11 (.fldA 1 (kT 2)),
 kO 12 (.load1 (kT 11)),
 kO 13 (.mov (kT 1)),
 kO 14 (.idxS 2 (kT 12) (kT 13)),
 kO 15 (.idxA 2 1 (kT 14) (kC 1)),
 kO 16 (.load1 (kT 15)),
 kO 17 (kA .eql (kT 10) (kT 16)),
 kO 4 (.mov (kT 17))])
 .ret))
theorem enter117 (hl : xs.length ≤ 18) (w : wq E 18 none c117 (frameOf xs) h [] (leaveQ E [.tmp 4] Q)) : CallP E 117 xs h Q :=
  CallP.enterQ (fn := Try.f117) (fn_get Try.func117) (code := Try.f117.body.get rfl) rfl rfl rfl (by kernel_rfl) rfl (fun _ => rfl) hl w
theorem can117 : callable E 117 = true := callable_get Try.func117 rfl rfl
def c118 : C := (.seq (.ops [kO 6 (.mov (kC 0))])
 (.seq (.block 0 (.seq (.ops [kO 8 (.mov (kT 0)),
 kO 9 (.mov (kT 2)),
 kO 10 (kA .eql (kT 8) (kT 9)),
 kO 7 (.mov (kT 10))])
 (.cond (kT 7) (.seq (.ops [kO 11 (.mov (kT 1)),
 kO 6 (.mov (kT 11))])
 .ret)
 (.seq (.ops [kO 13 (.mov (kT 0)),
 kO 14 (.mov (kT 2)),
 kO 15 (kA .gtr (kT 13) (kT 14)),
 kO 12 (.mov (kT 15))])
 (.cond (kT 12) (.seq (.ops [kO 16 (.mov (kT 0)),
 kO 17 (kA .sub (kT 16) (kC 1)),
 kO 6 (.mov (kT 17))])
 .ret)
 .skip)))))
 (.seq (.ops [kO 18 (.mov (kT 0)),
 kO 6 (.mov (kT 18))])
 .ret)))
theorem enter118 (hl : xs.length ≤ 19) (w : wq E 19 none c118 (frameOf xs) h [] (leaveQ E [.tmp 6] Q)) : CallP E 118 xs h Q :=
  CallP.enterQ (fn := Try.f118) (fn_get Try.func118) (code := Try.f118.body.get rfl) rfl rfl rfl (by kernel_rfl) rfl (fun _ => rfl) hl w
theorem can118 : callable E 118 = true := callable_get Try.func118 rfl rfl
def c119 : C := (.seq (.ops [kO 5 (.mov (kT 0)),
 kO 6 (.lenS (kT 5)),
 kO 4 (.mov (kT 6))])
 (.ops [kO 7 (.mov (kT 0)),
 kO 8 (.mov (kT 4)),
 kO 9 (.mov (kT 4)),
 kO 10 (.cint .u64 (kT 9)),
 kO 11 (.call 132 [.tmp 10]),
 kO 12 (.mov (kT 1)),
 kO 13 (.call 131 [.tmp 7,(kC 0),.tmp 8,.tmp 11,.tmp 12])]))
theorem enter119 (hl : xs.length ≤ 14) (w : wq E 14 none c119 (frameOf xs) h [] (leaveQ E [] Q)) : CallP E 119 xs h Q :=
  CallP.enterQ (fn := Try.f119) (fn_get Try.func119) (code := Try.f119.body.get rfl) rfl rfl rfl (by kernel_rfl) rfl (fun _ => rfl) hl w
theorem can119 : callable E 119 = true := callable_get Try.func119 rfl rfl
def c120 : C := (.seq (.ops [kO 3 (.mov (kC 0))])
 (.block 0 (.loop (.seq (.seq (.ops [kO 4 (.load1 (kT 1)),
 kO 5 (.mov (kT 3)),
 kO 6 (kA .shr (kT 4) (kT 5)),
 kO 7 (kA .gtr (kT 6) (kC 0))])
 (.cond (kT 7) .skip
 (.exit 0)))
 (.seq (.block 1 (.seq (.ops [kO 10 (.load1 (kT 1)),
 kO 11 (.mov (kT 3)),
 kO 12 (.call 90 [.tmp 10,.tmp 11]),
 kO 13 (.mov (kT 12)),
 ⟨some 14,.mov (kT 0),(some (13,kE))⟩,
 ⟨some 15,.mov (kT 3),(some (13,kE))⟩,
 ⟨some 16,.callv (kT 14) [.tmp 15],(some (13,kE))⟩,
 ⟨some 17,.not (kT 16),(some (13,kE))⟩,
 kO 18 (.pick (kT 13) (kT 17) (.const (.bool kF)))])
 (.cond (kT 18) .ret
 .skip)))
 (.ops [kO 8 (.mov (kT 3)),
 kO 9 (kA .add (kT 8) (kC 1)),
 kO 3 (.mov (kT 9))]))))))
theorem enter120 (hl : xs.length ≤ 19) (w : wq E 19 none c120 (frameOf xs) h [] (leaveQ E [] Q)) : CallP E 120 xs h Q :=
  CallP.enterQ (fn := Try.f120) (fn_get Try.func120) (code := Try.f120.body.get rfl) rfl rfl rfl (by kernel_rfl) rfl (fun _ => rfl) hl w
theorem can120 : callable E 120 = true := callable_get Try.func120 rfl rfl
def c121 : C := (.seq (.ops [kO 4 (.mov (kC 0))])
 (.seq (.seq (.ops [kO 9 (.mov (kT 0)),
 kO 10 (.lenS (kT 9)),
 kO 11 (.mov (kC 0))])
 (.block 0 (.loop (.seq (.ops [kO 12 (kA .lss (kT 11) (kT 10))])
 (.seq (.cond (kT 12) .skip
 (.exit 0))
 (.seq (.block 1 (.seq (.ops [kO 13 (.mov (kT 11)),
 kO 14 (.idxS 1 (kT 9) (kT 11)),
 kO 15 (.load1 (kT 14)),
 kO 5 (.mov (kT 13)),
 kO 6 (.mov (kT 15))])
 (.seq (.seq (.ops [kO 16 (.mov (kT 5)),
 kO 17 (.mov (kT 1)),
 kO 18 (.lenS (kT 17)),
 kO 19 (kA .geq (kT 16) (kT 18))])
 (.cond (kT 19) (.seq (.ops [kO 4 (.mov (kC 1))])
 .ret)
 .skip))
 (.seq (.ops [kO 20 (.mov (kT 1)),
 kO 21 (.mov (kT 5)),
 kO 22 (.idxS 1 (kT 20) (kT 21)),
 kO 23 (.load1 (kT 22)),
 kO 7 (.mov (kT 23))])
 (.seq (.ops [kO 24 (.mov (kT 6)),
 kO 25 (.mov (kT 7)),
 kO 26 (.call 133 [.tmp 24,.tmp 25]),
 kO 8 (.mov (kT 26))])
 (.seq (.ops [kO 27 (.mov (kT 8)),
 kO 28 (kA .neq (kT 27) (kC 0))])
 (.cond (kT 28) (.seq (.ops [kO 29 (.mov (kT 8)),
 kO 4 (.mov (kT 29))])
 .ret)
 .skip)))))))
 (.ops [kO 30 (kA .add (kT 11) (kC 1)),
 kO 11 (.mov (kT 30))])))))))
 (.seq (.seq (.ops [kO 31 (.mov (kT 0)),
 kO 32 (.lenS (kT 31)),
 kO 33 (.mov (kT 1)),
 kO 34 (.lenS (kT 33)),
 kO 35 (kA .lss (kT 32) (kT 34))])
 (.cond (kT 35) (.seq (.ops [kO 4 (.mov (.const (.int .i64 (-1))))])
 .ret)
 .skip))
 (.seq (.ops [kO 4 (.mov (kC 0))])
 .ret))))
theorem enter121 (hl : xs.length ≤ 36) (w : wq E 36 none c121 (frameOf xs) h [] (leaveQ E [.tmp 4] Q)) : CallP E 121 xs h Q :=
  CallP.enterQ (fn := Try.f121) (fn_get Try.func121) (code := Try.f121.body.get rfl) rfl rfl rfl (by kernel_rfl) rfl (fun _ => rfl) hl w
theorem can121 : callable E 121 = true := callable_get Try.func121 rfl rfl
def c123 : C := (.seq (.ops [kO 2 (.mov (kC 0))])
 (.seq (.ops [kO 3 (.mov (kT 0)),
 kO 4 (.ar .u64 .shr (kT 3) (.const (.int .u64 1))),
 kO 5 (.ar .u64 .and (kT 4) (.const (.int .u64 6148914691236517205))),
 kO 6 (.mov (kT 0)),
 kO 7 (.ar .u64 .and (kT 6) (.const (.int .u64 6148914691236517205))),
 kO 8 (.ar .u64 .add (kT 5) (kT 7)),
 kO 0 (.mov (kT 8))])
 (.seq (.ops [kO 9 (.mov (kT 0)),
 kO 10 (.ar .u64 .shr (kT 9) (.const (.int .u64 2))),
 kO 11 (.ar .u64 .and (kT 10) (.const (.int .u64 3689348814741910323))),
 kO 12 (.mov (kT 0)),
 kO 13 (.ar .u64 .and (kT 12) (.const (.int .u64 3689348814741910323))),
 kO 14 (.ar .u64 .add (kT 11) (kT 13)),
 kO 0 (.mov (kT 14))])
 (.seq (.ops [kO 15 (.mov (kT 0)),
 kO 16 (.ar .u64 .shr (kT 15) (.const (.int .u64 4))),
 kO 17 (.mov (kT 0)),
 kO 18 (.ar .u64 .add (kT 16) (kT 17)),
 kO 19 (.ar .u64 .and (kT 18) (.const (.int .u64 1085102592571150095))),
 kO 0 (.mov (kT 19))])
 (.seq (.ops [kO 20 (.mov (kT 0)),
 kO 21 (.mov (kT 0)),
 kO 22 (.ar .u64 .shr (kT 21) (.const (.int .u64 8))),
 kO 23 (.ar .u64 .add (kT 20) (kT 22)),
 kO 0 (.mov (kT 23))])
 (.seq (.ops [kO 24 (.mov (kT 0)),
 kO 25 (.mov (kT 0)),
 kO 26 (.ar .u64 .shr (kT 25) (.const (.int .u64 16))),
 kO 27 (.ar .u64 .add (kT 24) (kT 26)),
 kO 0 (.mov (kT 27))])
 (.seq (.ops [kO 28 (.mov (kT 0)),
 kO 29 (.mov (kT 0)),
 kO 30 (.ar .u64 .shr (kT 29) (.const (.int .u64 32))),
 kO 31 (.ar .u64 .add (kT 28) (kT 30)),
 kO 0 (.mov (kT 31))])
 (.seq (.ops [kO 32 (.mov (kT 0)),
 kO 33 (.cint .i64 (kT 32)),
 kO 34 (kA .and (kT 33) (kC 127)),
 kO 2 (.mov (kT 34))])
 .ret))))))))
theorem enter123 (hl : xs.length ≤ 35) (w : wq E 35 none c123 (frameOf xs) h [] (leaveQ E [.tmp 2] Q)) : CallP E 123 xs h Q :=
  CallP.enterQ (fn := Try.f123) (fn_get Try.func123) (code := Try.f123.body.get rfl) rfl rfl rfl (by kernel_rfl) rfl (fun _ => rfl) hl w
theorem can123 : callable E 123 = true := callable_get Try.func123 rfl rfl
def c131 : C := (.seq (.ops [kO 10 (.mov (.const (.bool kE)))])
 (.seq (.ops [kO 11 (.mov (.const (.bool kE)))])
 (.block 0 (.loop (.block 1 (.seq (.ops [kO 21 (.mov (kT 2)),
 kO 22 (.mov (kT 1)),
 kO 23 (kA .sub (kT 21) (kT 22)),
 kO 12 (.mov (kT 23))])
 (.seq (.seq (.ops [kO 24 (.mov (kT 12)),
 kO 25 (kA .leq (kT 24) (kC 12))])
 (.cond (kT 25) (.seq (.ops [kO 26 (.mov (kT 0)),
 kO 27 (.mov (kT 1)),
 kO 28 (.mov (kT 2)),
 kO 29 (.mov (kT 4)),
 kO 30 (.call 135 [.tmp 26,.tmp 27,.tmp 28,.tmp 29])])
 .ret)
 .skip))
 (.seq (.seq (.ops [kO 31 (.mov (kT 3)),
 kO 32 (kA .eql (kT 31) (kC 0))])
 (.cond (kT 32) (.seq (.ops [kO 33 (.mov (kT 0)),
 kO 34 (.mov (kT 1)),
 kO 35 (.mov (kT 2)),
 kO 36 (.mov (kT 4)),
 kO 37 (.call 136 [.tmp 33,.tmp 34,.tmp 35,.tmp 36])])
 .ret)
 .skip))
 (.seq (.seq (.ops [kO 38 (.mov (kT 10)),
 kO 39 (.not (kT 38))])
 (.cond (kT 39) (.seq (.ops [kO 40 (.mov (kT 0)),
 kO 41 (.mov (kT 1)),
 kO 42 (.mov (kT 2)),
 kO 43 (.mov (kT 4)),
 kO 44 (.call 137 [.tmp 40,.tmp 41,.tmp 42,.tmp 43])])
 (.ops [kO 45 (.mov (kT 3)),
 kO 46 (kA .sub (kT 45) (kC 1)),
 kO 3 (.mov (kT 46))]))
 .skip))
 (.seq (.ops [kO 48 (.mov (kT 0)),
 kO 49 (.mov (kT 1)),
 kO 50 (.mov (kT 2)),
 kO 51 (.mov (kT 4)),
 kO 52 (.call 138 [.tmp 48,.tmp 49,.tmp 50,.tmp 51]),
 kO 47 (.mov (kT 52)),
 kO 53 (.ext (kT 47) 0),
 kO 54 (.ext (kT 47) 1),
 kO 13 (.mov (kT 53)),
 kO 14 (.mov (kT 54))])
 (.seq (.seq (.ops [kO 55 (.mov (kT 14)),
 kO 56 (kA .eql (kT 55) (kC 2))])
 (.cond (kT 56) (.seq (.ops [kO 57 (.mov (kT 0)),
 kO 58 (.mov (kT 1)),
 kO 59 (.mov (kT 2)),
 kO 60 (.mov (kT 4)),
 kO 61 (.call 139 [.tmp 57,.tmp 58,.tmp 59,.tmp 60])])
 (.seq (.ops [kO 62 (.mov (kT 2)),
 kO 63 (kA .sub (kT 62) (kC 1)),
 kO 64 (.mov (kT 13)),
 kO 65 (.mov (kT 1)),
 kO 66 (kA .sub (kT 64) (kT 65)),
 kO 67 (kA .sub (kT 63) (kT 66)),
 kO 13 (.mov (kT 67))])
 (.ops [kO 14 (.mov (kC 1))])))
 .skip))
 (.seq (.seq (.ops [kO 68 (.mov (kT 10)),
 kO 69 (.mov (kT 68)),
 ⟨some 70,.mov (kT 11),(some (69,kE))⟩,
 kO 71 (.pick (kT 69) (kT 70) (.const (.bool kF))),
 kO 72 (.mov (kT 71)),
 ⟨some 73,.mov (kT 14),(some (72,kE))⟩,
 ⟨some 74,kA .eql (kT 73) (kC 1),(some (72,kE))⟩,
 kO 75 (.pick (kT 72) (kT 74) (.const (.bool kF)))])
 (.cond (kT 75) (.seq (.ops [kO 76 (.mov (kT 0)),
 kO 77 (.mov (kT 1)),
 kO 78 (.mov (kT 2)),
 kO 79 (.mov (kT 4)),
 kO 80 (.call 140 [.tmp 76,.tmp 77,.tmp 78,.tmp 79])])
 (.cond (kT 80) .ret
 .skip))
 .skip))
 (.seq (.seq (.ops [kO 81 (.mov (kT 1)),
 kO 82 (kA .gtr (kT 81) (kC 0)),
 kO 83 (.mov (kT 82)),
 ⟨some 84,.mov (kT 4),(some (83,kE))⟩,
 ⟨some 85,.mov (kT 0),(some (83,kE))⟩,
 ⟨some 86,.mov (kT 1),(some (83,kE))⟩,
 ⟨some 87,kA .sub (kT 86) (kC 1),(some (83,kE))⟩,
 ⟨some 88,.idxS 2 (kT 85) (kT 87),(some (83,kE))⟩,
 ⟨some 89,.loadN 2 (kT 88),(some (83,kE))⟩,
 ⟨some 90,.mov (kT 0),(some (83,kE))⟩,
 ⟨some 91,.mov (kT 13),(some (83,kE))⟩,
 ⟨some 92,.idxS 2 (kT 90) (kT 91),(some (83,kE))⟩,
 ⟨some 93,.loadN 2 (kT 92),(some (83,kE))⟩,
 ⟨some 94,.callv (kT 84) [.tmp 89,.tmp 93],(some (83,kE))⟩,
 ⟨some 95,kA .lss (kT 94) (kC 0),(some (83,kE))⟩,
 ⟨some 96,.not (kT 95),(some (83,kE))⟩,
 kO 97 (.pick (kT 83) (kT 96) (.const (.bool kF)))])
 (.cond (kT 97) (.seq (.ops [kO 98 (.mov (kT 0)),
 kO 99 (.mov (kT 1)),
 kO 100 (.mov (kT 2)),
 kO 101 (.mov (kT 13)),
 kO 102 (.mov (kT 4)),
 kO 103 (.call 141 [.tmp 98,.tmp 99,.tmp 100,.tmp 101,.tmp 102]),
 kO 15 (.mov (kT 103))])
 (.seq (.ops [kO 104 (.mov (kT 15)),
 kO 1 (.mov (kT 104))])
 (.exit 1)))
 .skip))
 (.seq (.ops [kO 106 (.mov (kT 0)),
 kO 107 (.mov (kT 1)),
 kO 108 (.mov (kT 2)),
 kO 109 (.mov (kT 13)),
 kO 110 (.mov (kT 4)),
 kO 111 (.call 142 [.tmp 106,.tmp 107,.tmp 108,.tmp 109,.tmp 110]),
 kO 105 (.mov (kT 111)),
 kO 112 (.ext (kT 105) 0),
 kO 113 (.ext (kT 105) 1),
 kO 16 (.mov (kT 112)),
 kO 17 (.mov (kT 113))])
 (.seq (.ops [kO 114 (.mov (kT 17)),
 kO 11 (.mov (kT 114))])
 (.seq (.ops [kO 115 (.mov (kT 16)),
 kO 116 (.mov (kT 1)),
 kO 117 (kA .sub (kT 115) (kT 116)),
 kO 118 (.mov (kT 2)),
 kO 119 (.mov (kT 16)),
 kO 120 (kA .sub (kT 118) (kT 119)),
 kO 18 (.mov (kT 117)),
 kO 19 (.mov (kT 120))])
 (.seq (.ops [kO 121 (.mov (kT 12)),
 kO 122 (kA .quo (kT 121) (kC 8)),
 kO 20 (.mov (kT 122))])
 (.seq (.ops [kO 123 (.mov (kT 18)),
 kO 124 (.mov (kT 19)),
 kO 125 (kA .lss (kT 123) (kT 124))])
 (.cond (kT 125) (.seq (.ops [kO 126 (.mov (kT 18)),
 kO 127 (.mov (kT 20)),
 kO 128 (kA .geq (kT 126) (kT 127)),
 kO 10 (.mov (kT 128))])
 (.seq (.ops [kO 129 (.mov (kT 0)),
 kO 130 (.mov (kT 1)),
 kO 131 (.mov (kT 16)),
 kO 132 (.mov (kT 3)),
 kO 133 (.mov (kT 4)),
 kO 134 (.call 131 [.tmp 129,.tmp 130,.tmp 131,.tmp 132,.tmp 133])])
 (.ops [kO 135 (.mov (kT 16)),
 kO 136 (kA .add (kT 135) (kC 1)),
 kO 1 (.mov (kT 136))])))
 (.seq (.ops [kO 137 (.mov (kT 19)),
 kO 138 (.mov (kT 20)),
 kO 139 (kA .geq (kT 137) (kT 138)),
 kO 10 (.mov (kT 139))])
 (.seq (.ops [kO 140 (.mov (kT 0)),
 kO 141 (.mov (kT 16)),
 kO 142 (kA .add (kT 141) (kC 1)),
 kO 143 (.mov (kT 2)),
 kO 144 (.mov (kT 3)),
 kO 145 (.mov (kT 4)),
 kO 146 (.call 131 [.tmp 140,.tmp 142,.tmp 143,.tmp 144,.tmp 145])])
 (.ops [kO 147 (.mov (kT 16)),
 kO 2 (.mov (kT 147))]))))))))))))))))))))))
theorem enter131 (hl : xs.length ≤ 148) (w : wq E 148 none c131 (frameOf xs) h [] (leaveQ E [] Q)) : CallP E 131 xs h Q :=
  CallP.enterQ (fn := Try.f131) (fn_get Try.func131) (code := Try.f131.body.get rfl) rfl rfl rfl (by kernel_rfl) rfl (fun _ => rfl) hl w
theorem can131 : callable E 131 = true := callable_get Try.func131 rfl rfl
def c132 : C := (.seq (.ops [kO 2 (.mov (kC 0))])
 (.seq (.cond (.const (.bool kF)) (.seq (.ops [kO 3 (.mov (kT 0)),
 kO 4 (.cint .u32 (kT 3)),
 kO 5 (.call 143 [.tmp 4]),
 kO 2 (.mov (kT 5))])
 .ret)
 .skip)
 (.seq (.ops [kO 6 (.mov (kT 0)),
 kO 7 (.call 144 [.tmp 6]),
 kO 2 (.mov (kT 7))])
 .ret)))
theorem enter132 (hl : xs.length ≤ 8) (w : wq E 8 none c132 (frameOf xs) h [] (leaveQ E [.tmp 2] Q)) : CallP E 132 xs h Q :=
  CallP.enterQ (fn := Try.f132) (fn_get Try.func132) (code := Try.f132.body.get rfl) rfl rfl rfl (by kernel_rfl) rfl (fun _ => rfl) hl w
theorem can132 : callable E 132 = true := callable_get Try.func132 rfl rfl
def c133 : C := (.seq (.ops [kO 4 (.mov (kC 0))])
 (.seq (.ops [kO 7 (.mov (kT 0)),
 kO 8 (.call 145 [.tmp 7]),
 kO 5 (.mov (kT 8))])
 (.seq (.ops [kO 9 (.mov (kT 1)),
 kO 10 (.call 145 [.tmp 9]),
 kO 6 (.mov (kT 10))])
 (.seq (.seq (.ops [kO 11 (.mov (kT 5))])
 (.cond (kT 11) (.seq (.seq (.ops [kO 12 (.mov (kT 6))])
 (.cond (kT 12) (.seq (.ops [kO 4 (.mov (kC 0))])
 .ret)
 .skip))
 (.seq (.ops [kO 4 (.mov (.const (.int .i64 (-1))))])
 .ret))
 .skip))
 (.seq (.seq (.ops [kO 13 (.mov (kT 6))])
 (.cond (kT 13) (.seq (.ops [kO 4 (.mov (kC 1))])
 .ret)
 .skip))
 (.seq (.seq (.ops [kO 14 (.mov (kT 0)),
 kO 15 (.mov (kT 1)),
 kO 16 (kA .lss (kT 14) (kT 15))])
 (.cond (kT 16) (.seq (.ops [kO 4 (.mov (.const (.int .i64 (-1))))])
 .ret)
 .skip))
 (.seq (.seq (.ops [kO 17 (.mov (kT 0)),
 kO 18 (.mov (kT 1)),
 kO 19 (kA .gtr (kT 17) (kT 18))])
 (.cond (kT 19) (.seq (.ops [kO 4 (.mov (kC 1))])
 .ret)
 .skip))
 (.seq (.ops [kO 4 (.mov (kC 0))])
 .ret))))))))
theorem enter133 (hl : xs.length ≤ 20) (w : wq E 20 none c133 (frameOf xs) h [] (leaveQ E [.tmp 4] Q)) : CallP E 133 xs h Q :=
  CallP.enterQ (fn := Try.f133) (fn_get Try.func133) (code := Try.f133.body.get rfl) rfl rfl rfl (by kernel_rfl) rfl (fun _ => rfl) hl w
theorem can133 : callable E 133 = true := callable_get Try.func133 rfl rfl
def c135 : C := (.seq (.ops [kO 10 (.mov (kT 1)),
 kO 11 (kA .add (kT 10) (kC 1)),
 kO 8 (.mov (kT 11))])
 (.block 0 (.loop (.seq (.seq (.ops [kO 12 (.mov (kT 8)),
 kO 13 (.mov (kT 2)),
 kO 14 (kA .lss (kT 12) (kT 13))])
 (.cond (kT 14) .skip
 (.exit 0)))
 (.seq (.block 1 (.seq (.ops [kO 17 (.mov (kT 8)),
 kO 9 (.mov (kT 17))])
 (.block 2 (.loop (.seq (.seq (.ops [kO 18 (.mov (kT 9)),
 kO 19 (.mov (kT 1)),
 kO 20 (kA .gtr (kT 18) (kT 19)),
 kO 21 (.mov (kT 20)),
 ⟨some 22,.mov (kT 3),(some (21,kE))⟩,
 ⟨some 23,.mov (kT 0),(some (21,kE))⟩,
 ⟨some 24,.mov (kT 9),(some (21,kE))⟩,
 ⟨some 25,.idxS 2 (kT 23) (kT 24),(some (21,kE))⟩,
 ⟨some 26,.loadN 2 (kT 25),(some (21,kE))⟩,
 ⟨some 27,.mov (kT 0),(some (21,kE))⟩,
 ⟨some 28,.mov (kT 9),(some (21,kE))⟩,
 ⟨some 29,kA .sub (kT 28) (kC 1),(some (21,kE))⟩,
 ⟨some 30,.idxS 2 (kT 27) (kT 29),(some (21,kE))⟩,
 ⟨some 31,.loadN 2 (kT 30),(some (21,kE))⟩,
 ⟨some 32,.callv (kT 22) [.tmp 26,.tmp 31],(some (21,kE))⟩,
 ⟨some 33,kA .lss (kT 32) (kC 0),(some (21,kE))⟩,
 kO 34 (.pick (kT 21) (kT 33) (.const (.bool kF)))])
 (.cond (kT 34) .skip
 (.exit 2)))
 (.seq (.block 3 (.draw [kO 37 (.mov (kT 0)),
 kO 38 (.mov (kT 9)),
 kO 39 (.mov (kT 0)),
 kO 40 (.mov (kT 9)),
 kO 41 (kA .sub (kT 40) (kC 1)),
 kO 42 (.mov (kT 0)),
 kO 43 (.mov (kT 9)),
 kO 44 (kA .sub (kT 43) (kC 1)),
 kO 45 (.idxS 2 (kT 42) (kT 44)),
 kO 46 (.loadN 2 (kT 45)),
 kO 47 (.mov (kT 0)),
 kO 48 (.mov (kT 9)),
 kO 49 (.idxS 2 (kT 47) (kT 48)),
 kO 50 (.loadN 2 (kT 49)),
 kO 51 (.idxS 2 (kT 37) (kT 38)),
 ⟨none,.store 2 (kT 51) (kT 46),none⟩,
 kO 52 (.idxS 2 (kT 39) (kT 41)),
 ⟨none,.store 2 (kT 52) (kT 50),none⟩]
 [⟨kF,kF,fL0,fL0⟩,
 ⟨kF,kF,fL0,fL0⟩,
 ⟨kF,kE,fL0,fL4⟩,
 ⟨kF,kE,fL0,fL4⟩,
 ⟨kF,kE,fL0,fL4⟩,
 ⟨kF,kF,fL0,fL0⟩,
 ⟨kF,kF,fL0,fL0⟩,
 ⟨kF,kF,fL0,fL0⟩,
 ⟨kF,kF,fL0,fL0⟩,
 ⟨kF,kF,fL0,fL0⟩,
 ⟨kF,kF,fL0,fL0⟩,
 ⟨kF,kF,fL0,fL0⟩,
 ⟨kF,kF,fL0,fL0⟩,
 ⟨kF,kF,fL0,fL0⟩,
 ⟨kF,kF,fL0,fL0⟩,
 ⟨kE,kF,fL0,fL4⟩,
 ⟨kF,kF,fL4,fL4⟩,
 ⟨kE,kF,fL4,[kF,kF,kF,kF,kF,kF,kF,kF,kF,kF,kF,kF,kF,kF,kF,kE,kF,kE]⟩]))
 (.ops [kO 35 (.mov (kT 9)),
 kO 36 (kA .sub (kT 35) (kC 1)),
 kO 9 (.mov (kT 36))])))))))
 (.ops [kO 15 (.mov (kT 8)),
 kO 16 (kA .add (kT 15) (kC 1)),
 kO 8 (.mov (kT 16))]))))))
theorem enter135 (hl : xs.length ≤ 53) (w : wq E 53 none c135 (frameOf xs) h [] (leaveQ E [] Q)) : CallP E 135 xs h Q :=
  CallP.enterQ (fn := Try.f135) (fn_get Try.func135) (code := Try.f135.body.get rfl) rfl rfl rfl (by kernel_rfl) rfl (fun _ => rfl) hl w
theorem can135 : callable E 135 = true := callable_get Try.func135 rfl rfl
def c144 : C := (.seq (.ops [kO 2 (.mov (kC 0))])
 (.seq (.seq (.ops [kO 3 (.mov (kT 0)),
 kO 4 (.ar .u64 .geq (kT 3) (.const (.int .u64 4294967296)))])
 (.cond (kT 4) (.seq (.ops [kO 5 (.mov (kT 0)),
 kO 6 (.ar .u64 .shr (kT 5) (.const (.int .u64 32))),
 kO 0 (.mov (kT 6))])
 (.ops [kO 2 (.mov (kC 32))]))
 .skip))
 (.seq (.seq (.ops [kO 7 (.mov (kT 0)),
 kO 8 (.ar .u64 .geq (kT 7) (.const (.int .u64 65536)))])
 (.cond (kT 8) (.seq (.ops [kO 9 (.mov (kT 0)),
 kO 10 (.ar .u64 .shr (kT 9) (.const (.int .u64 16))),
 kO 0 (.mov (kT 10))])
 (.ops [kO 11 (.mov (kT 2)),
 kO 12 (kA .add (kT 11) (kC 16)),
 kO 2 (.mov (kT 12))]))
 .skip))
 (.seq (.seq (.ops [kO 13 (.mov (kT 0)),
 kO 14 (.ar .u64 .geq (kT 13) (.const (.int .u64 256)))])
 (.cond (kT 14) (.seq (.ops [kO 15 (.mov (kT 0)),
 kO 16 (.ar .u64 .shr (kT 15) (.const (.int .u64 8))),
 kO 0 (.mov (kT 16))])
 (.ops [kO 17 (.mov (kT 2)),
 kO 18 (kA .add (kT 17) (kC 8)),
 kO 2 (.mov (kT 18))]))
 .skip))
 (.seq (.ops [kO 19 (.mov (kT 2)),
 kO 20 (.mov (kT 0)),
 kO 21 (.cint .u8 (kT 20)),
 kO 22 (.ixStr (.const (.string ⟨⟨[0,1,2,2,3,3,3,3,4,4,4,4,4,4,4,4,5,5,5,5,5,5,5,5,5,5,5,5,5,5,5,5,6,6,6,6,6,6,6,6,6,6,6,6,6,6,6,6,6,6,6,6,6,6,6,6,6,6,6,6,6,6,6,6,7,7,7,7,7,7,7,7,7,7,7,7,7,7,7,7,7,7,7,7,7,7,7,7,7,7,7,7,7,7,7,7,7,7,7,7,7,7,7,7,7,7,7,7,7,7,7,7,7,7,7,7,7,7,7,7,7,7,7,7,7,7,7,7,8,8,8,8,8,8,8,8,8,8,8,8,8,8,8,8,8,8,8,8,8,8,8,8,8,8,8,8,8,8,8,8,8,8,8,8,8,8,8,8,8,8,8,8,8,8,8,8,8,8,8,8,8,8,8,8,8,8,8,8,8,8,8,8,8,8,8,8,8,8,8,8,8,8,8,8,8,8,8,8,8,8,8,8,8,8,8,8,8,8,8,8,8,8,8,8,8,8,8,8,8,8,8,8,8,8,8,8,8,8,8,8,8,8,8,8,8,8,8,8,8,8,8,8,8,8,8,8]⟩⟩)) (kT 21)),
 kO 23 (.cint .i64 (kT 22)),
 kO 24 (kA .add (kT 19) (kT 23)),
 kO 2 (.mov (kT 24))])
 .ret)))))
theorem enter144 (hl : xs.length ≤ 25) (w : wq E 25 none c144 (frameOf xs) h [] (leaveQ E [.tmp 2] Q)) : CallP E 144 xs h Q :=
  CallP.enterQ (fn := Try.f144) (fn_get Try.func144) (code := Try.f144.body.get rfl) rfl rfl rfl (by kernel_rfl) rfl (fun _ => rfl) hl w
theorem can144 : callable E 144 = true := callable_get Try.func144 rfl rfl
def c145 : C := (.seq (.ops [kO 2 (.mov (.const (.bool kF)))])
 (.seq (.ops [kO 3 (.mov (kT 0)),
 kO 4 (.mov (kT 0)),
 kO 5 (kA .neq (kT 3) (kT 4)),
 kO 2 (.mov (kT 5))])
 .ret))
theorem enter145 (hl : xs.length ≤ 6) (w : wq E 6 none c145 (frameOf xs) h [] (leaveQ E [.tmp 2] Q)) : CallP E 145 xs h Q :=
  CallP.enterQ (fn := Try.f145) (fn_get Try.func145) (code := Try.f145.body.get rfl) rfl rfl rfl (by kernel_rfl) rfl (fun _ => rfl) hl w
theorem can145 : callable E 145 = true := callable_get Try.func145 rfl rfl
def c116 : C := (.seq (.ops [kO 2 (.mov (.const kN))])
 (.seq (.ops [kO 3 (.mov (kC 0))])
 (.seq (.seq (.ops [kO 9 (.mov (kT 0)),
 kO 10 (.lenS (kT 9)),
 kO 11 (.mov (kC 0))])
 (.block 0 (.loop (.seq (.ops [kO 12 (kA .lss (kT 11) (kT 10))])
 (.seq (.cond (kT 12) .skip
 (.exit 0))
 (.seq (.block 1 (.seq (.ops [kO 13 (.idxS 1 (kT 9) (kT 11)),
 kO 14 (.load1 (kT 13)),
 kO 5 (.mov (kT 14))])
 (.seq (.ops [kO 15 (.mov (kT 3)),
 kO 16 (.mov (kT 5)),
 kO 17 (.lenS (kT 16)),
 kO 18 (kA .add (kT 15) (kT 17)),
 kO 3 (.mov (kT 18))])
 (.seq (.ops [kO 19 (.mov (kT 3)),
 kO 20 (kA .lss (kT 19) (kC 0))])
 (.cond (kT 20) (.ops [kO 21 (.raw (.makeInterface 9 (.const (.string ⟨⟨[108,101,110,32,111,117,116,32,111,102,32,114,97,110,103,101]⟩⟩))) 20),
 ⟨none,.raw (.panic (kT 21)) 0,none⟩])
 .skip)))))
 (.ops [kO 22 (kA .add (kT 11) (kC 1)),
 kO 11 (.mov (kT 22))])))))))
 (.seq (.ops [kO 23 (.mov (kT 3)),
 kO 24 (.call 130 [(.const kN),.tmp 23]),
 kO 6 (.mov (kT 24))])
 (.seq (.seq (.ops [kO 25 (.mov (kT 0)),
 kO 26 (.lenS (kT 25)),
 kO 27 (.mov (kC 0))])
 (.block 2 (.loop (.seq (.ops [kO 28 (kA .lss (kT 27) (kT 26))])
 (.seq (.cond (kT 28) .skip
 (.exit 2))
 (.seq (.block 3 (.seq (.ops [kO 29 (.idxS 1 (kT 25) (kT 27)),
 kO 30 (.load1 (kT 29)),
 kO 8 (.mov (kT 30))])
 (.ops [kO 31 (.mov (kT 6)),
 kO 32 (.mov (kT 8)),
 kO 33 (.append 79 2 16 (kT 31) (kT 32)),
 kO 6 (.mov (kT 33))])))
 (.ops [kO 34 (kA .add (kT 27) (kC 1)),
 kO 27 (.mov (kT 34))])))))))
 (.seq (.ops [kO 35 (.mov (kT 6)),
 kO 2 (.mov (kT 35))])
 .ret))))))
theorem enter116 (hl : xs.length ≤ 36) (w : wq E 36 none c116 (frameOf xs) h [] (leaveQ E [.tmp 2] Q)) : CallP E 116 xs h Q :=
  CallP.enterQ (fn := Try.f116) (fn_get Try.func116) (code := Try.f116.body.get rfl) rfl rfl rfl (by kernel_rfl) rfl (fun _ => rfl) hl w
theorem can116 : callable E 116 = true := callable_get Try.func116 rfl rfl
def c130 : C := (.seq (.ops [kO 4 (.mov (.const kN))])
 (.seq (.seq (.ops [kO 5 (.mov (kT 1)),
 kO 6 (kA .lss (kT 5) (kC 0))])
 (.cond (kT 6) (.ops [kO 7 (.raw (.makeInterface 9 (.const (.string ⟨⟨[99,97,110,110,111,116,32,98,101,32,110,101,103,97,116,105,118,101]⟩⟩))) 20),
 ⟨none,.raw (.panic (kT 7)) 0,none⟩])
 .skip))
 (.seq (.seq (.ops [kO 8 (.mov (kT 1)),
 kO 9 (.mov (kT 0)),
 kO 10 (.raw (.call ⟨.builtin .cap,⟨[.tmp 9]⟩,⟨[22]⟩⟩) 3),
 kO 11 (.mov (kT 0)),
 kO 12 (.lenS (kT 11)),
 kO 13 (kA .sub (kT 10) (kT 12)),
 kO 14 (kA .sub (kT 8) (kT 13)),
 kO 1 (.mov (kT 14))])
 (.seq (.ops [kO 15 (.mov (kT 1)),
 kO 16 (kA .gtr (kT 15) (kC 0))])
 (.cond (kT 16) (.ops [kO 17 (.mov (kT 0)),
 kO 18 (.mov (kT 0)),
 kO 19 (.raw (.call ⟨.builtin .cap,⟨[.tmp 18]⟩,⟨[22]⟩⟩) 3),
 kO 20 (.cutS 2 (kT 17) none (some (kT 19)) none),
 kO 21 (.mov (kT 1)),
 kO 22 (.raw (.call ⟨.builtin .append,⟨[.tmp 20,.tmp 21]⟩,⟨[22,3]⟩⟩) 22),
 kO 23 (.mov (kT 0)),
 kO 24 (.lenS (kT 23)),
 kO 25 (.cutS 2 (kT 22) none (some (kT 24)) none),
 kO 0 (.mov (kT 25))])
 .skip)))
 (.seq (.ops [kO 26 (.mov (kT 0)),
 kO 4 (.mov (kT 26))])
 .ret))))
theorem enter130 (hl : xs.length ≤ 27) (w : wq E 27 none c130 (frameOf xs) h [] (leaveQ E [.tmp 4] Q)) : CallP E 130 xs h Q :=
  CallP.enterQ (fn := Try.f130) (fn_get Try.func130) (code := Try.f130.body.get rfl) rfl rfl rfl (by kernel_rfl) rfl (fun _ => rfl) hl w
theorem can130 : callable E 130 = true := callable_get Try.func130 rfl rfl
end
end Go.Proofs.Ythgjnkdealdmoaa
