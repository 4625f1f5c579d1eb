/- The code of the functions that PNCB comes to. -/
import Derived.Test.YthgjnkdealdmoaaTypesC
set_option maxRecDepth 100000
set_option linter.unusedSectionVars false
set_option linter.unusedVariables false
namespace Go.Proofs.Ythgjnkdealdmoaa
open Go.Rx Go.RowKit
noncomputable section
abbrev kF:=false
abbrev kE:=true
abbrev fL0:List Bool:=[kF,kF,kE,kF,kF,kF,kF,kF,kF,kF,kF]
abbrev fL1:List Bool:=[kF,kF,kF,kF,kF,kF,kE,kF]
abbrev fL2:List Bool:=[kF,kF,kF,kF,kF,kF,kF,kF]
abbrev fL3:List Bool:=[kF,kF,kF,kF,kF,kF,kF]
abbrev fL4:List Bool:=[kF,kF,kF,kF,kF,kF,kF,kF,kF,kF,kF]
abbrev fL5:List Bool:=[kF,kF,kE,kF,kE,kF,kF]
abbrev fL6:List Bool:=[kF,kF,kE,kF,kF,kF,kF,kF,kE,kF,kF]
abbrev fL7:List Bool:=[kF,kF,kE,kF,kF,kF,kF]
abbrev kO (d:Nat) (t:TOp):G:=⟨some d,t,none⟩
abbrev kT:=Operand.tmp
abbrev kC (n:Int):Operand:=.const (.int .i64 n)
abbrev kN:Value:=.slice none 0 0
abbrev kZ:Value:=.int .i64 0
abbrev kA:=TOp.ar .i64
variable [Unknowns] {xs : List Value} {h : Hp} {Q : Value → Hp → Prop}
def c8 : C := (.seq (.ops [kO 4 (.mov (.const (.bool kF)))])
 (.seq (.ops [kO 17 (.mov (kT 0)),
 kO 18 (.mov (kT 1)),
 kO 19 (.call 17 [.tmp 17,.tmp 18,(kC 9)]),
 kO 16 (.mov (kT 19)),
 kO 20 (.ext (kT 16) 0),
 kO 21 (.ext (kT 16) 1),
 kO 0 (.mov (kT 20)),
 kO 5 (.mov (kT 21))])
 (.seq (.ops [kO 23 (.mov (kT 0)),
 kO 24 (.mov (kT 5)),
 kO 25 (.call 40 [.tmp 23,.tmp 24]),
 kO 22 (.mov (kT 25)),
 kO 26 (.ext (kT 22) 0),
 kO 27 (.ext (kT 22) 1),
 kO 6 (.mov (kT 26)),
 kO 7 (.mov (kT 27))])
 (.seq (.ops [kO 29 (.mov (kT 0)),
 kO 30 (.mov (kT 5)),
 kO 31 (.call 41 [.tmp 29,.tmp 30]),
 kO 28 (.mov (kT 31)),
 kO 32 (.ext (kT 28) 0),
 kO 33 (.ext (kT 28) 1),
 kO 8 (.mov (kT 32)),
 kO 9 (.mov (kT 33))])
 (.seq (.ops [kO 35 (.mov (kT 0)),
 kO 36 (.mov (kT 5)),
 kO 37 (.call 42 [.tmp 35,.tmp 36]),
 kO 34 (.mov (kT 37)),
 kO 38 (.ext (kT 34) 0),
 kO 39 (.ext (kT 34) 1),
 kO 40 (.ext (kT 34) 2),
 kO 10 (.mov (kT 38)),
 kO 11 (.mov (kT 39)),
 kO 12 (.mov (kT 40))])
 (.seq (.seq (.ops [kO 13 (.mov (kC 0))])
 (.block 0 (.loop (.seq (.seq (.ops [kO 41 (.mov (kT 13)),
 kO 42 (.mov (kT 0)),
 kO 43 (kA .lss (kT 41) (kT 42))])
 (.cond (kT 43) .skip
 (.exit 0)))
 (.seq (.block 1 (.seq (.ops [kO 47 (.mov (kT 0)),
 kO 48 (.mov (kT 5)),
 kO 49 (.mov (kT 13)),
 kO 50 (.call 43 [.tmp 47,.tmp 48,.tmp 49]),
 kO 46 (.mov (kT 50)),
 kO 51 (.ext (kT 46) 0),
 kO 52 (.ext (kT 46) 1),
 kO 14 (.mov (kT 51)),
 kO 15 (.mov (kT 52))])
 (.seq (.ops [kO 53 (.mov (kT 15)),
 kO 54 (kA .neq (kT 53) (kC 0)),
 kO 55 (.mov (kT 54)),
 ⟨some 56,.mov (kT 14),(some (55,kF))⟩,
 ⟨some 57,.mov (kT 12),(some (55,kF))⟩,
 ⟨some 58,.mov (kT 13),(some (55,kF))⟩,
 ⟨some 59,.idxS 1 (kT 57) (kT 58),(some (55,kF))⟩,
 ⟨some 60,.load1 (kT 59),(some (55,kF))⟩,
 ⟨some 61,kA .neq (kT 56) (kT 60),(some (55,kF))⟩,
 kO 62 (.pick (kT 55) (.const (.bool kE)) (kT 61))])
 (.cond (kT 62) (.seq (.ops [kO 4 (.mov (.const (.bool kF)))])
 .ret)
 .skip))))
 (.ops [kO 44 (.mov (kT 13)),
 kO 45 (kA .add (kT 44) (kC 1)),
 kO 13 (.mov (kT 45))]))))))
 (.seq (.ops [kO 63 (.mov (kT 7)),
 kO 64 (kA .eql (kT 63) (kC 0)),
 kO 65 (.mov (kT 64)),
 ⟨some 66,.mov (kT 6),(some (65,kE))⟩,
 ⟨some 67,.mov (kT 10),(some (65,kE))⟩,
 ⟨some 68,kA .eql (kT 66) (kT 67),(some (65,kE))⟩,
 kO 69 (.pick (kT 65) (kT 68) (.const (.bool kF))),
 kO 70 (.mov (kT 69)),
 ⟨some 71,.mov (kT 9),(some (70,kE))⟩,
 ⟨some 72,kA .eql (kT 71) (kC 0),(some (70,kE))⟩,
 kO 73 (.pick (kT 70) (kT 72) (.const (.bool kF))),
 kO 74 (.mov (kT 73)),
 ⟨some 75,.mov (kT 8),(some (74,kE))⟩,
 ⟨some 76,.mov (kT 11),(some (74,kE))⟩,
 ⟨some 77,kA .eql (kT 75) (kT 76),(some (74,kE))⟩,
 kO 78 (.pick (kT 74) (kT 77) (.const (.bool kF))),
 kO 79 (.mov (kT 78)),
 ⟨some 80,.call 20 [],(some (79,kE))⟩,
 kO 81 (.pick (kT 79) (kT 80) (.const (.bool kF))),
 kO 4 (.mov (kT 81))])
 .ret)))))))
theorem enter8 (hl : xs.length ≤ 82) (w : wq E 82 none c8 (frameOf xs) h [] (leaveQ E [.tmp 4] Q)) : CallP E 8 xs h Q :=
  CallP.enterQ (fn := Try.f8) (fn_get Try.func8) (code := Try.f8.body.get rfl) rfl rfl rfl (by kernel_rfl) rfl (fun _ => rfl) hl w
theorem can8 : callable E 8 = true := callable_get Try.func8 rfl rfl
def c17 : C := (.seq (.ops [kO 6 (.mov (kC 0)),
 kO 7 (.mov (.const kN))])
 (.seq (.ops [kO 15 (.mov (kT 0)),
 kO 16 (.cint .u64 (kT 15)),
 kO 17 (.ar .u64 .rem (kT 16) (.const (.int .u64 6))),
 kO 18 (.cint .i64 (kT 17)),
 kO 19 (kA .add (kC 1) (kT 18)),
 kO 0 (.mov (kT 19))])
 (.seq (.ops [kO 8 (.mov (.const kN))])
 (.seq (.seq (.ops [kO 9 (.mov (kC 0))])
 (.block 0 (.loop (.seq (.seq (.ops [kO 20 (.mov (kT 9)),
 kO 21 (.mov (kT 1)),
 kO 22 (.lenS (kT 21)),
 kO 23 (kA .lss (kT 20) (kT 22)),
 kO 24 (.mov (kT 23)),
 ⟨some 25,.mov (kT 9),(some (24,kE))⟩,
 ⟨some 26,.mov (kT 2),(some (24,kE))⟩,
 ⟨some 27,kA .lss (kT 25) (kT 26),(some (24,kE))⟩,
 kO 28 (.pick (kT 24) (kT 27) (.const (.bool kF)))])
 (.cond (kT 28) .skip
 (.exit 0)))
 (.seq (.block 1 (.seq (.ops [kO 31 (.mov (kT 1)),
 kO 32 (.mov (kT 9)),
 kO 33 (.idxS 2 (kT 31) (kT 32)),
 kO 34 (.idxA 2 1 (kT 33) (kC 0)),
 kO 35 (.load1 (kT 34)),
 kO 36 (.cint .u64 (kT 35)),
 kO 37 (.mov (kT 0)),
 kO 38 (.cint .u64 (kT 37)),
 kO 39 (.ar .u64 .rem (kT 36) (kT 38)),
 kO 40 (.cint .i64 (kT 39)),
 kO 41 (.mov (kT 1)),
 kO 42 (.mov (kT 9)),
 kO 43 (.idxS 2 (kT 41) (kT 42)),
 kO 44 (.idxA 2 1 (kT 43) (kC 1)),
 kO 45 (.load1 (kT 44)),
 kO 46 (.cint .u64 (kT 45)),
 kO 47 (.mov (kT 0)),
 kO 48 (.cint .u64 (kT 47)),
 kO 49 (.ar .u64 .rem (kT 46) (kT 48)),
 kO 50 (.cint .i64 (kT 49)),
 kO 10 (.mov (kT 40)),
 kO 11 (.mov (kT 50))])
 (.seq (.ops [kO 51 (.mov (kT 10)),
 kO 52 (.mov (kT 11)),
 kO 53 (.raw (.call ⟨.builtin .min,⟨[.tmp 51,.tmp 52]⟩,⟨[3,3]⟩⟩) 3),
 kO 54 (.mov (kT 10)),
 kO 55 (.mov (kT 11)),
 kO 56 (.raw (.call ⟨.builtin .max,⟨[.tmp 54,.tmp 55]⟩,⟨[3,3]⟩⟩) 3),
 kO 57 (.aggr [kZ,kZ] [(0,1,(kT 53)),(1,1,(kT 56))]),
 kO 12 (.alloc 79 [kZ,kZ]),
 ⟨none,.store 2 (kT 12) (kT 57),none⟩])
 (.seq (.ops [kO 13 (.mov (kC 0))])
 (.seq (.block 2 (.loop (.seq (.seq (.ops [kO 58 (.mov (kT 13)),
 kO 59 (.mov (kT 8)),
 kO 60 (.lenS (kT 59)),
 kO 61 (kA .lss (kT 58) (kT 60)),
 kO 62 (.mov (kT 61)),
 ⟨some 63,.mov (kT 8),(some (62,kE))⟩,
 ⟨some 64,.mov (kT 13),(some (62,kE))⟩,
 ⟨some 65,.idxS 2 (kT 63) (kT 64),(some (62,kE))⟩,
 ⟨some 66,.idxA 2 1 (kT 65) (kC 0),(some (62,kE))⟩,
 ⟨some 67,.load1 (kT 66),(some (62,kE))⟩,
 ⟨some 68,.idxA 2 1 (kT 12) (kC 0),(some (62,kE))⟩,
 ⟨some 69,.load1 (kT 68),(some (62,kE))⟩,
 ⟨some 70,kA .lss (kT 67) (kT 69),(some (62,kE))⟩,
 ⟨some 71,.mov (kT 70),(some (62,kE))⟩,
 ⟨some 72,.mov (kT 8),(some (71,kF))⟩,
 ⟨some 73,.mov (kT 13),(some (71,kF))⟩,
 ⟨some 74,.idxS 2 (kT 72) (kT 73),(some (71,kF))⟩,
 ⟨some 75,.idxA 2 1 (kT 74) (kC 0),(some (71,kF))⟩,
 ⟨some 76,.load1 (kT 75),(some (71,kF))⟩,
 ⟨some 77,.idxA 2 1 (kT 12) (kC 0),(some (71,kF))⟩,
 ⟨some 78,.load1 (kT 77),(some (71,kF))⟩,
 ⟨some 79,kA .eql (kT 76) (kT 78),(some (71,kF))⟩,
 ⟨some 80,.mov (kT 79),(some (71,kF))⟩,
 ⟨some 81,.mov (kT 8),(some (80,kE))⟩,
 ⟨some 82,.mov (kT 13),(some (80,kE))⟩,
 ⟨some 83,.idxS 2 (kT 81) (kT 82),(some (80,kE))⟩,
 ⟨some 84,.idxA 2 1 (kT 83) (kC 1),(some (80,kE))⟩,
 ⟨some 85,.load1 (kT 84),(some (80,kE))⟩,
 ⟨some 86,.idxA 2 1 (kT 12) (kC 1),(some (80,kE))⟩,
 ⟨some 87,.load1 (kT 86),(some (80,kE))⟩,
 ⟨some 88,kA .leq (kT 85) (kT 87),(some (80,kE))⟩,
 ⟨some 89,.pick (kT 80) (kT 88) (.const (.bool kF)),(some (71,kF))⟩,
 ⟨some 90,.pick (kT 71) (.const (.bool kE)) (kT 89),(some (62,kE))⟩,
 kO 91 (.pick (kT 62) (kT 90) (.const (.bool kF)))])
 (.cond (kT 91) .skip
 (.exit 2)))
 (.block 3 (.ops [kO 92 (.mov (kT 13)),
 kO 93 (kA .add (kT 92) (kC 1)),
 kO 13 (.mov (kT 93))])))))
 (.seq (.ops [kO 14 (.mov (.const kN))])
 (.seq (.ops [kO 94 (.mov (kT 14)),
 kO 95 (.mov (kT 8)),
 kO 96 (.mov (kT 13)),
 kO 97 (.cutS 2 (kT 95) none (some (kT 96)) none),
 kO 98 (.append 79 2 16 (kT 94) (kT 97)),
 kO 14 (.mov (kT 98))])
 (.seq (.ops [kO 99 (.mov (kT 14)),
 kO 100 (.loadN 2 (kT 12)),
 kO 101 (.slit 79 1 [kZ,kZ] [(0,2,(kT 100))]),
 kO 102 (.append 79 2 16 (kT 99) (kT 101)),
 kO 14 (.mov (kT 102))])
 (.ops [kO 103 (.mov (kT 14)),
 kO 104 (.mov (kT 8)),
 kO 105 (.mov (kT 13)),
 kO 106 (.cutS 2 (kT 104) (some (kT 105)) none none),
 kO 107 (.append 79 2 16 (kT 103) (kT 106)),
 kO 8 (.mov (kT 107))])))))))))
 (.ops [kO 29 (.mov (kT 9)),
 kO 30 (kA .add (kT 29) (kC 1)),
 kO 9 (.mov (kT 30))]))))))
 (.seq (.ops [kO 108 (.mov (kT 0)),
 kO 109 (.mov (kT 8)),
 kO 6 (.mov (kT 108)),
 kO 7 (.mov (kT 109))])
 .ret)))))
theorem enter17 (hl : xs.length ≤ 110) (w : wq E 110 none c17 (frameOf xs) h [] (leaveQ E [.tmp 6,.tmp 7] Q)) : CallP E 17 xs h Q :=
  CallP.enterQ (fn := Try.f17) (fn_get Try.func17) (code := Try.f17.body.get rfl) rfl rfl rfl (by kernel_rfl) rfl (fun _ => rfl) hl w
theorem can17 : callable E 17 = true := callable_get Try.func17 rfl rfl
theorem memo20 {h : Hp} {Q : Value → Hp → Prop} (q : Q (.bool true) h) : CallP E 20 [] h Q := CallP.memo rfl q
def c39 : C := (.seq (.ops [kO 6 (.mov (kC 0))])
 (.seq (.ops [kO 7 (.mov (kC 0))])
 (.seq (.seq (.ops [kO 8 (.mov (kC 0))])
 (.block 0 (.loop (.seq (.seq (.ops [kO 11 (.mov (kT 8)),
 kO 12 (.mov (kT 1)),
 kO 13 (.lenS (kT 12)),
 kO 14 (kA .lss (kT 11) (kT 13))])
 (.cond (kT 14) .skip
 (.exit 0)))
 (.seq (.block 1 (.seq (.ops [kO 17 (.mov (kT 1)),
 kO 18 (.mov (kT 8)),
 kO 19 (.idxS 2 (kT 17) (kT 18)),
 kO 20 (.idxA 2 1 (kT 19) (kC 0)),
 kO 21 (.load1 (kT 20)),
 kO 22 (.mov (kT 1)),
 kO 23 (.mov (kT 8)),
 kO 24 (.idxS 2 (kT 22) (kT 23)),
 kO 25 (.idxA 2 1 (kT 24) (kC 1)),
 kO 26 (.load1 (kT 25)),
 kO 9 (.mov (kT 21)),
 kO 10 (.mov (kT 26))])
 (.seq (.seq (.ops [kO 27 (.mov (kT 2)),
 kO 28 (.mov (kT 8)),
 kO 29 (kA .shr (kT 27) (kT 28)),
 kO 30 (kA .rem (kT 29) (kC 2)),
 kO 31 (kA .eql (kT 30) (kC 1))])
 (.cond (kT 31) (.ops [kO 32 (.mov (kT 10)),
 kO 33 (.mov (kT 9)),
 kO 9 (.mov (kT 32)),
 kO 10 (.mov (kT 33))])
 .skip))
 (.seq (.ops [kO 34 (.mov (kT 0)),
 kO 35 (.mov (kT 1)),
 kO 36 (.mov (kT 2)),
 kO 37 (.mov (kT 10)),
 kO 38 (.mov (kT 9)),
 kO 39 (.call 82 [.tmp 34,.tmp 35,.tmp 36,.tmp 37,.tmp 38])])
 (.cond (kT 39) (.ops [kO 40 (.mov (kT 7)),
 kO 41 (.mov (kT 8)),
 kO 42 (kA .shl (kC 1) (kT 41)),
 kO 43 (kA .or (kT 40) (kT 42)),
 kO 7 (.mov (kT 43))])
 .skip)))))
 (.ops [kO 15 (.mov (kT 8)),
 kO 16 (kA .add (kT 15) (kC 1)),
 kO 8 (.mov (kT 16))]))))))
 (.seq (.ops [kO 44 (.mov (kT 7)),
 kO 6 (.mov (kT 44))])
 .ret))))
theorem enter39 (hl : xs.length ≤ 45) (w : wq E 45 none c39 (frameOf xs) h [] (leaveQ E [.tmp 6] Q)) : CallP E 39 xs h Q :=
  CallP.enterQ (fn := Try.f39) (fn_get Try.func39) (code := Try.f39.body.get rfl) rfl rfl rfl (by kernel_rfl) rfl (fun _ => rfl) hl w
theorem can39 : callable E 39 = true := callable_get Try.func39 rfl rfl
def c40 : C := (.seq (.ops [kO 4 (.mov (kC 0)),
 kO 5 (.mov (kC 0))])
 (.seq (.seq (.ops [kO 8 (.mov (kT 0)),
 kO 9 (.mov (kT 1)),
 kO 10 (.call 60 [.tmp 8,.tmp 9]),
 kO 6 (.mov (kT 10))])
 (.seq (.ops [kO 11 (.mov (kT 6)),
 kO 12 (kA .neq (kT 11) (kC 0))])
 (.cond (kT 12) (.seq (.ops [kO 13 (.mov (kT 6)),
 kO 4 (.mov (kC 0)),
 kO 5 (.mov (kT 13))])
 .ret)
 .skip)))
 (.seq (.ops [kO 14 (.mov (kT 0)),
 kO 15 (.mov (kT 1)),
 kO 16 (.aggr [kZ,kN] [(0,1,(kT 14)),(1,1,(kT 15))]),
 kO 7 (.alloc 83 [kZ,kN]),
 ⟨none,.store 2 (kT 7) (kT 16),none⟩])
 (.seq (.ops [kO 17 (.loadN 2 (kT 7)),
 kO 18 (.loadN 2 (kT 7)),
 kO 19 (.func (.func 80) [.tmp 18] []),
 kO 20 (.call 83 [.tmp 17,.tmp 19]),
 kO 4 (.mov (kT 20)),
 kO 5 (.mov (kC 0))])
 .ret))))
theorem enter40 (hl : xs.length ≤ 21) (w : wq E 21 none c40 (frameOf xs) h [] (leaveQ E [.tmp 4,.tmp 5] Q)) : CallP E 40 xs h Q :=
  CallP.enterQ (fn := Try.f40) (fn_get Try.func40) (code := Try.f40.body.get rfl) rfl rfl rfl (by kernel_rfl) rfl (fun _ => rfl) hl w
theorem can40 : callable E 40 = true := callable_get Try.func40 rfl rfl
def c41 : C := (.seq (.ops [kO 4 (.mov (kC 0)),
 kO 5 (.mov (kC 0))])
 (.seq (.seq (.ops [kO 8 (.mov (kT 0)),
 kO 9 (.mov (kT 1)),
 kO 10 (.call 60 [.tmp 8,.tmp 9]),
 kO 6 (.mov (kT 10))])
 (.seq (.ops [kO 11 (.mov (kT 6)),
 kO 12 (kA .neq (kT 11) (kC 0))])
 (.cond (kT 12) (.seq (.ops [kO 13 (.mov (kT 6)),
 kO 4 (.mov (kC 0)),
 kO 5 (.mov (kT 13))])
 .ret)
 .skip)))
 (.seq (.ops [kO 14 (.mov (kT 0)),
 kO 15 (.mov (kT 1)),
 kO 16 (.aggr [kZ,kN] [(0,1,(kT 14)),(1,1,(kT 15))]),
 kO 7 (.alloc 83 [kZ,kN]),
 ⟨none,.store 2 (kT 7) (kT 16),none⟩])
 (.seq (.ops [kO 17 (.loadN 2 (kT 7)),
 kO 18 (.loadN 2 (kT 7)),
 kO 19 (.func (.func 81) [.tmp 18] []),
 kO 20 (.call 83 [.tmp 17,.tmp 19]),
 kO 4 (.mov (kT 20)),
 kO 5 (.mov (kC 0))])
 .ret))))
theorem enter41 (hl : xs.length ≤ 21) (w : wq E 21 none c41 (frameOf xs) h [] (leaveQ E [.tmp 4,.tmp 5] Q)) : CallP E 41 xs h Q :=
  CallP.enterQ (fn := Try.f41) (fn_get Try.func41) (code := Try.f41.body.get rfl) rfl rfl rfl (by kernel_rfl) rfl (fun _ => rfl) hl w
theorem can41 : callable E 41 = true := callable_get Try.func41 rfl rfl
def c42 : C := (.seq (.ops [kO 4 (.mov (kC 0)),
 kO 5 (.mov (kC 0)),
 kO 6 (.mov (.const kN))])
 (.seq (.ops [kO 7 (.mov (kC 0)),
 kO 8 (.mov (kC 0))])
 (.seq (.ops [kO 13 (.mov (kT 0)),
 kO 14 (.make 3 [kZ] 8 (kT 13) (kT 13)),
 kO 9 (.mov (kT 14))])
 (.seq (.seq (.ops [kO 10 (.mov (kC 0))])
 (.block 0 (.loop (.seq (.seq (.ops [kO 15 (.mov (kT 10)),
 kO 16 (.mov (kT 1)),
 kO 17 (.call 69 [.tmp 16]),
 kO 18 (kA .leq (kT 15) (kT 17))])
 (.cond (kT 18) .skip
 (.exit 0)))
 (.seq (.block 1 (.seq (.ops [kO 21 (.mov (kT 0)),
 kO 22 (.mov (kT 1)),
 kO 23 (.mov (kT 10)),
 kO 24 (.call 39 [.tmp 21,.tmp 22,.tmp 23]),
 kO 11 (.mov (kT 24))])
 (.seq (.seq (.ops [kO 25 (.mov (kT 11)),
 kO 26 (.mov (kT 1)),
 kO 27 (.call 69 [.tmp 26]),
 kO 28 (kA .eql (kT 25) (kT 27))])
 (.cond (kT 28) (.ops [kO 29 (.mov (kT 8)),
 kO 30 (kA .add (kT 29) (kC 1)),
 kO 8 (.mov (kT 30))])
 .skip))
 (.seq (.seq (.ops [kO 31 (.mov (kT 11)),
 kO 32 (kA .neq (kT 31) (kC 0))])
 (.cond (kT 32) (.exit 1)
 .skip))
 (.seq (.ops [kO 33 (.mov (kT 7)),
 kO 34 (kA .add (kT 33) (kC 1)),
 kO 7 (.mov (kT 34))])
 (.seq (.ops [kO 12 (.mov (kC 0))])
 (.block 2 (.loop (.seq (.seq (.ops [kO 35 (.mov (kT 12)),
 kO 36 (.mov (kT 0)),
 kO 37 (kA .lss (kT 35) (kT 36))])
 (.cond (kT 37) .skip
 (.exit 2)))
 (.seq (.block 3 (.seq (.ops [kO 40 (.mov (kT 0)),
 kO 41 (.mov (kT 1)),
 kO 42 (.mov (kT 10)),
 kO 43 (.mov (kT 12)),
 kO 44 (.call 84 [.tmp 40,.tmp 41,.tmp 42,.tmp 43])])
 (.cond (kT 44) (.ops [kO 45 (.mov (kT 9)),
 kO 46 (.mov (kT 12)),
 kO 47 (.idxS 1 (kT 45) (kT 46)),
 kO 48 (.load1 (kT 47)),
 kO 49 (kA .add (kT 48) (kC 1)),
 kO 50 (.idxS 1 (kT 45) (kT 46)),
 ⟨none,.store 1 (kT 50) (kT 49),none⟩])
 .skip)))
 (.ops [kO 38 (.mov (kT 12)),
 kO 39 (kA .add (kT 38) (kC 1)),
 kO 12 (.mov (kT 39))])))))))))))
 (.ops [kO 19 (.mov (kT 10)),
 kO 20 (kA .add (kT 19) (kC 1)),
 kO 10 (.mov (kT 20))]))))))
 (.seq (.ops [kO 51 (.mov (kT 7)),
 kO 52 (.mov (kT 8)),
 kO 53 (.mov (kT 9)),
 kO 4 (.mov (kT 51)),
 kO 5 (.mov (kT 52)),
 kO 6 (.mov (kT 53))])
 .ret)))))
theorem enter42 (hl : xs.length ≤ 54) (w : wq E 54 none c42 (frameOf xs) h [] (leaveQ E [.tmp 4,.tmp 5,.tmp 6] Q)) : CallP E 42 xs h Q :=
  CallP.enterQ (fn := Try.f42) (fn_get Try.func42) (code := Try.f42.body.get rfl) rfl rfl rfl (by kernel_rfl) rfl (fun _ => rfl) hl w
theorem can42 : callable E 42 = true := callable_get Try.func42 rfl rfl
def c43 : C := (.seq (.ops [kO 6 (.mov (kC 0)),
 kO 7 (.mov (kC 0))])
 (.seq (.seq (.ops [kO 12 (.mov (kT 0)),
 kO 13 (.mov (kT 1)),
 kO 14 (.call 60 [.tmp 12,.tmp 13]),
 kO 8 (.mov (kT 14))])
 (.seq (.ops [kO 15 (.mov (kT 8)),
 kO 16 (kA .neq (kT 15) (kC 0))])
 (.cond (kT 16) (.seq (.ops [kO 17 (.mov (kT 8)),
 kO 6 (.mov (kC 0)),
 kO 7 (.mov (kT 17))])
 .ret)
 .skip)))
 (.seq (.seq (.ops [kO 18 (.mov (kT 2)),
 kO 19 (kA .lss (kT 18) (kC 0)),
 kO 20 (.mov (kT 19)),
 ⟨some 21,.mov (kT 2),(some (20,kF))⟩,
 ⟨some 22,.mov (kT 0),(some (20,kF))⟩,
 ⟨some 23,kA .geq (kT 21) (kT 22),(some (20,kF))⟩,
 kO 24 (.pick (kT 20) (.const (.bool kE)) (kT 23))])
 (.cond (kT 24) (.seq (.ops [kO 6 (.mov (kC 0)),
 kO 7 (.mov (kC 1))])
 .ret)
 .skip))
 (.seq (.ops [kO 25 (.mov (kT 0)),
 kO 26 (.mov (kT 1)),
 kO 27 (.aggr [kZ,kN] [(0,1,(kT 25)),(1,1,(kT 26))]),
 kO 9 (.alloc 83 [kZ,kN]),
 ⟨none,.store 2 (kT 9) (kT 27),none⟩])
 (.seq (.draw [kO 28 (.mov (kT 0)),
 kO 29 (kA .shl (kC 1) (kT 28)),
 kO 30 (kA .sub (kT 29) (kC 1)),
 kO 31 (.mov (kT 2)),
 kO 32 (kA .shl (kC 1) (kT 31)),
 kO 33 (kA .andNot (kT 30) (kT 32)),
 kO 10 (.alloc 3 [kZ]),
 ⟨none,.store 1 (kT 10) (kT 33),none⟩]
 [⟨kF,kE,fL2,fL1⟩,
 ⟨kF,kE,fL2,fL1⟩,
 ⟨kF,kE,fL2,fL1⟩,
 ⟨kF,kE,fL2,fL1⟩,
 ⟨kF,kE,fL2,fL1⟩,
 ⟨kF,kE,fL2,fL1⟩,
 ⟨kE,kF,fL2,fL1⟩,
 ⟨kE,kF,fL1,[kF,kF,kF,kF,kF,kF,kE,kE]⟩])
 (.seq (.ops [kO 34 (.func (.func 85) [] [.tmp 9,.tmp 10]),
 kO 11 (.mov (kT 34))])
 (.seq (.ops [kO 35 (.loadN 2 (kT 9)),
 kO 36 (.mov (kT 11)),
 kO 37 (.call 83 [.tmp 35,.tmp 36]),
 kO 6 (.mov (kT 37)),
 kO 7 (.mov (kC 0))])
 .ret)))))))
theorem enter43 (hl : xs.length ≤ 38) (w : wq E 38 none c43 (frameOf xs) h [] (leaveQ E [.tmp 6,.tmp 7] Q)) : CallP E 43 xs h Q :=
  CallP.enterQ (fn := Try.f43) (fn_get Try.func43) (code := Try.f43.body.get rfl) rfl rfl rfl (by kernel_rfl) rfl (fun _ => rfl) hl w
theorem can43 : callable E 43 = true := callable_get Try.func43 rfl rfl
def c60 : C := (.seq (.ops [kO 4 (.mov (kC 0))])
 (.seq (.seq (.ops [kO 7 (.mov (kT 0)),
 kO 8 (kA .lss (kT 7) (kC 1)),
 kO 9 (.mov (kT 8)),
 ⟨some 10,.mov (kT 0),(some (9,kF))⟩,
 ⟨some 11,kA .gtr (kT 10) (kC 6),(some (9,kF))⟩,
 kO 12 (.pick (kT 9) (.const (.bool kE)) (kT 11))])
 (.cond (kT 12) (.seq (.ops [kO 4 (.mov (kC 1))])
 .ret)
 .skip))
 (.seq (.seq (.ops [kO 13 (.mov (kT 1)),
 kO 14 (.lenS (kT 13)),
 kO 15 (kA .gtr (kT 14) (kC 9))])
 (.cond (kT 15) (.seq (.ops [kO 4 (.mov (kC 10))])
 .ret)
 .skip))
 (.seq (.seq (.ops [kO 16 (.mov (kT 1)),
 kO 17 (.lenS (kT 16)),
 kO 18 (.mov (kC 0))])
 (.block 0 (.loop (.seq (.ops [kO 19 (kA .lss (kT 18) (kT 17))])
 (.seq (.cond (kT 19) .skip
 (.exit 0))
 (.seq (.block 1 (.seq (.ops [kO 20 (.mov (kT 18)),
 kO 21 (.idxS 2 (kT 16) (kT 18)),
 kO 22 (.loadN 2 (kT 21)),
 kO 6 (.alloc 79 [kZ,kZ]),
 kO 5 (.mov (kT 20)),
 ⟨none,.store 2 (kT 6) (kT 22),none⟩])
 (.seq (.seq (.ops [kO 23 (.idxA 2 1 (kT 6) (kC 0)),
 kO 24 (.load1 (kT 23)),
 kO 25 (kA .lss (kT 24) (kC 0)),
 kO 26 (.mov (kT 25)),
 ⟨some 27,.idxA 2 1 (kT 6) (kC 0),(some (26,kF))⟩,
 ⟨some 28,.load1 (kT 27),(some (26,kF))⟩,
 ⟨some 29,.idxA 2 1 (kT 6) (kC 1),(some (26,kF))⟩,
 ⟨some 30,.load1 (kT 29),(some (26,kF))⟩,
 ⟨some 31,kA .gtr (kT 28) (kT 30),(some (26,kF))⟩,
 kO 32 (.pick (kT 26) (.const (.bool kE)) (kT 31)),
 kO 33 (.mov (kT 32)),
 ⟨some 34,.idxA 2 1 (kT 6) (kC 1),(some (33,kF))⟩,
 ⟨some 35,.load1 (kT 34),(some (33,kF))⟩,
 ⟨some 36,.mov (kT 0),(some (33,kF))⟩,
 ⟨some 37,kA .geq (kT 35) (kT 36),(some (33,kF))⟩,
 kO 38 (.pick (kT 33) (.const (.bool kE)) (kT 37))])
 (.cond (kT 38) (.seq (.ops [kO 4 (.mov (kC 10))])
 .ret)
 .skip))
 (.seq (.ops [kO 39 (.mov (kT 5)),
 kO 40 (kA .gtr (kT 39) (kC 0)),
 kO 41 (.mov (kT 40)),
 ⟨some 42,.loadN 2 (kT 6),(some (41,kE))⟩,
 ⟨some 43,.mov (kT 1),(some (41,kE))⟩,
 ⟨some 44,.mov (kT 5),(some (41,kE))⟩,
 ⟨some 45,kA .sub (kT 44) (kC 1),(some (41,kE))⟩,
 ⟨some 46,.idxS 2 (kT 43) (kT 45),(some (41,kE))⟩,
 ⟨some 47,.loadN 2 (kT 46),(some (41,kE))⟩,
 ⟨some 48,.call 100 [.tmp 42,.tmp 47],(some (41,kE))⟩,
 ⟨some 49,kA .lss (kT 48) (kC 0),(some (41,kE))⟩,
 kO 50 (.pick (kT 41) (kT 49) (.const (.bool kF)))])
 (.cond (kT 50) (.seq (.ops [kO 4 (.mov (kC 10))])
 .ret)
 .skip)))))
 (.ops [kO 51 (kA .add (kT 18) (kC 1)),
 kO 18 (.mov (kT 51))])))))))
 (.seq (.ops [kO 4 (.mov (kC 0))])
 .ret)))))
theorem enter60 (hl : xs.length ≤ 52) (w : wq E 52 none c60 (frameOf xs) h [] (leaveQ E [.tmp 4] Q)) : CallP E 60 xs h Q :=
  CallP.enterQ (fn := Try.f60) (fn_get Try.func60) (code := Try.f60.body.get rfl) rfl rfl rfl (by kernel_rfl) rfl (fun _ => rfl) hl w
theorem can60 : callable E 60 = true := callable_get Try.func60 rfl rfl
def c69 : C := (.seq (.ops [kO 2 (.mov (kC 0))])
 (.seq (.ops [kO 3 (.mov (kT 0)),
 kO 4 (.lenS (kT 3)),
 kO 5 (kA .shl (kC 1) (kT 4)),
 kO 6 (kA .sub (kT 5) (kC 1)),
 kO 2 (.mov (kT 6))])
 .ret))
theorem enter69 (hl : xs.length ≤ 7) (w : wq E 7 none c69 (frameOf xs) h [] (leaveQ E [.tmp 2] Q)) : CallP E 69 xs h Q :=
  CallP.enterQ (fn := Try.f69) (fn_get Try.func69) (code := Try.f69.body.get rfl) rfl rfl rfl (by kernel_rfl) rfl (fun _ => rfl) hl w
theorem can69 : callable E 69 = true := callable_get Try.func69 rfl rfl
def c80 : C := (.seq (.ops [kO 2 (.box 83 (kT 0)),
 kO 4 (.mov (.const (.bool kF)))])
 (.seq (.ops [kO 5 (.loadN 2 (kT 2)),
 kO 6 (.mov (kT 1)),
 kO 7 (.call 112 [.tmp 5,.tmp 6]),
 kO 8 (kA .eql (kT 7) (kC 0)),
 kO 4 (.mov (kT 8))])
 .ret))
theorem enter80 (hl : xs.length ≤ 9) (w : wq E 9 none c80 (frameOf xs) h [] (leaveQ E [.tmp 4] Q)) : CallP E 80 xs h Q :=
  CallP.enterQ (fn := Try.f80) (fn_get Try.func80) (code := Try.f80.body.get rfl) rfl rfl rfl (by kernel_rfl) rfl (fun _ => rfl) hl w
theorem can80 : callable E 80 = true := callable_get Try.func80 rfl rfl
def c81 : C := (.seq (.ops [kO 2 (.box 83 (kT 0)),
 kO 4 (.mov (.const (.bool kF)))])
 (.seq (.draw [kO 5 (.loadN 2 (kT 2)),
 kO 6 (.mov (kT 1)),
 kO 7 (.call 112 [.tmp 5,.tmp 6]),
 kO 8 (.loadN 2 (kT 2)),
 kO 9 (.call 113 [.tmp 8]),
 kO 10 (kA .eql (kT 7) (kT 9)),
 kO 4 (.mov (kT 10))]
 [⟨kF,kF,fL3,fL3⟩,
 ⟨kF,kF,fL3,fL3⟩,
 ⟨kE,kF,fL3,fL7⟩,
 ⟨kF,kE,fL3,fL7⟩,
 ⟨kE,kF,fL7,fL5⟩,
 ⟨kF,kF,fL5,fL5⟩,
 ⟨kF,kF,fL5,fL5⟩])
 .ret))
theorem enter81 (hl : xs.length ≤ 11) (w : wq E 11 none c81 (frameOf xs) h [] (leaveQ E [.tmp 4] Q)) : CallP E 81 xs h Q :=
  CallP.enterQ (fn := Try.f81) (fn_get Try.func81) (code := Try.f81.body.get rfl) rfl rfl rfl (by kernel_rfl) rfl (fun _ => rfl) hl w
theorem can81 : callable E 81 = true := callable_get Try.func81 rfl rfl
def c82 : C := (.seq (.ops [kO 10 (.mov (.const (.bool kF)))])
 (.seq (.ops [kO 16 (.mov (kT 0)),
 kO 17 (.make 4 [.bool kF] 1 (kT 16) (kT 16)),
 kO 11 (.mov (kT 17))])
 (.seq (.ops [kO 18 (.mov (kT 11)),
 kO 19 (.mov (kT 3)),
 kO 20 (.idxS 1 (kT 18) (kT 19)),
 ⟨none,.store 1 (kT 20) (.const (.bool kE)),none⟩])
 (.seq (.seq (.ops [kO 12 (.mov (kC 0))])
 (.block 0 (.loop (.seq (.seq (.ops [kO 21 (.mov (kT 12)),
 kO 22 (.mov (kT 0)),
 kO 23 (kA .lss (kT 21) (kT 22))])
 (.cond (kT 23) .skip
 (.exit 0)))
 (.seq (.block 1 (.seq (.ops [kO 13 (.mov (kC 0))])
 (.block 2 (.loop (.seq (.seq (.ops [kO 26 (.mov (kT 13)),
 kO 27 (.mov (kT 1)),
 kO 28 (.lenS (kT 27)),
 kO 29 (kA .lss (kT 26) (kT 28))])
 (.cond (kT 29) .skip
 (.exit 2)))
 (.seq (.block 3 (.seq (.ops [kO 32 (.mov (kT 1)),
 kO 33 (.mov (kT 13)),
 kO 34 (.idxS 2 (kT 32) (kT 33)),
 kO 35 (.idxA 2 1 (kT 34) (kC 0)),
 kO 36 (.load1 (kT 35)),
 kO 37 (.mov (kT 1)),
 kO 38 (.mov (kT 13)),
 kO 39 (.idxS 2 (kT 37) (kT 38)),
 kO 40 (.idxA 2 1 (kT 39) (kC 1)),
 kO 41 (.load1 (kT 40)),
 kO 14 (.mov (kT 36)),
 kO 15 (.mov (kT 41))])
 (.seq (.seq (.ops [kO 42 (.mov (kT 2)),
 kO 43 (.mov (kT 13)),
 kO 44 (kA .shr (kT 42) (kT 43)),
 kO 45 (kA .rem (kT 44) (kC 2)),
 kO 46 (kA .eql (kT 45) (kC 1))])
 (.cond (kT 46) (.ops [kO 47 (.mov (kT 15)),
 kO 48 (.mov (kT 14)),
 kO 14 (.mov (kT 47)),
 kO 15 (.mov (kT 48))])
 .skip))
 (.seq (.ops [kO 49 (.mov (kT 11)),
 kO 50 (.mov (kT 14)),
 kO 51 (.idxS 1 (kT 49) (kT 50)),
 kO 52 (.load1 (kT 51))])
 (.cond (kT 52) (.ops [kO 53 (.mov (kT 11)),
 kO 54 (.mov (kT 15)),
 kO 55 (.idxS 1 (kT 53) (kT 54)),
 ⟨none,.store 1 (kT 55) (.const (.bool kE)),none⟩])
 .skip)))))
 (.ops [kO 30 (.mov (kT 13)),
 kO 31 (kA .add (kT 30) (kC 1)),
 kO 13 (.mov (kT 31))])))))))
 (.ops [kO 24 (.mov (kT 12)),
 kO 25 (kA .add (kT 24) (kC 1)),
 kO 12 (.mov (kT 25))]))))))
 (.seq (.ops [kO 56 (.mov (kT 11)),
 kO 57 (.mov (kT 4)),
 kO 58 (.idxS 1 (kT 56) (kT 57)),
 kO 59 (.load1 (kT 58)),
 kO 10 (.mov (kT 59))])
 .ret)))))
theorem enter82 (hl : xs.length ≤ 60) (w : wq E 60 none c82 (frameOf xs) h [] (leaveQ E [.tmp 10] Q)) : CallP E 82 xs h Q :=
  CallP.enterQ (fn := Try.f82) (fn_get Try.func82) (code := Try.f82.body.get rfl) rfl rfl rfl (by kernel_rfl) rfl (fun _ => rfl) hl w
theorem can82 : callable E 82 = true := callable_get Try.func82 rfl rfl
def c83 : C := (.seq (.ops [kO 2 (.box 83 (kT 0)),
 kO 3 (.box 88 (kT 1)),
 kO 4 (.mov (kC 0))])
 (.seq (.ops [kO 5 (.alloc 3 [kZ]),
 ⟨none,.store 1 (kT 5) (kC 0),none⟩])
 (.seq (.seq (.ops [kO 7 (.fldA 1 (kT 2)),
 kO 8 (.load1 (kT 7)),
 kO 9 (.lenS (kT 8)),
 kO 10 (.call 87 [.tmp 9])])
 (.block 0 (.range (kT 10) ⟨[11]⟩ (.ops [kO 6 (.mov (kT 11))])
 (.block 1 (.seq (.ops [kO 12 (.load1 (kT 3)),
 kO 13 (.mov (kT 6)),
 kO 14 (.callv (kT 12) [.tmp 13])])
 (.cond (kT 14) (.ops [kO 15 (.load1 (kT 5)),
 kO 16 (kA .add (kT 15) (kC 1)),
 ⟨none,.store 1 (kT 5) (kT 16),none⟩])
 .skip))))))
 (.seq (.ops [kO 17 (.load1 (kT 5)),
 kO 4 (.mov (kT 17))])
 .ret))))
theorem enter83 (hl : xs.length ≤ 18) (w : wq E 18 none c83 (frameOf xs) h [] (leaveQ E [.tmp 4] Q)) : CallP E 83 xs h Q :=
  CallP.enterQ (fn := Try.f83) (fn_get Try.func83) (code := Try.f83.body.get rfl) rfl rfl rfl (by kernel_rfl) rfl (fun _ => rfl) hl w
theorem can83 : callable E 83 = true := callable_get Try.func83 rfl rfl
def c84 : C := (.seq (.ops [kO 8 (.mov (.const (.bool kF)))])
 (.seq (.ops [kO 12 (.mov (kT 0)),
 kO 13 (.make 4 [.bool kF] 1 (kT 12) (kT 12)),
 kO 9 (.mov (kT 13))])
 (.seq (.seq (.ops [kO 10 (.mov (kC 0))])
 (.block 0 (.loop (.seq (.seq (.ops [kO 14 (.mov (kT 10)),
 kO 15 (.mov (kT 1)),
 kO 16 (.lenS (kT 15)),
 kO 17 (kA .lss (kT 14) (kT 16))])
 (.cond (kT 17) .skip
 (.exit 0)))
 (.seq (.block 1 (.seq (.ops [kO 20 (.mov (kT 2)),
 kO 21 (.mov (kT 10)),
 kO 22 (kA .shr (kT 20) (kT 21)),
 kO 23 (kA .rem (kT 22) (kC 2)),
 kO 24 (kA .eql (kT 23) (kC 1))])
 (.cond (kT 24) (.ops [kO 25 (.mov (kT 9)),
 kO 26 (.mov (kT 1)),
 kO 27 (.mov (kT 10)),
 kO 28 (.idxS 2 (kT 26) (kT 27)),
 kO 29 (.idxA 2 1 (kT 28) (kC 0)),
 kO 30 (.load1 (kT 29)),
 kO 31 (.idxS 1 (kT 25) (kT 30)),
 ⟨none,.store 1 (kT 31) (.const (.bool kE)),none⟩])
 (.ops [kO 32 (.mov (kT 9)),
 kO 33 (.mov (kT 1)),
 kO 34 (.mov (kT 10)),
 kO 35 (.idxS 2 (kT 33) (kT 34)),
 kO 36 (.idxA 2 1 (kT 35) (kC 1)),
 kO 37 (.load1 (kT 36)),
 kO 38 (.idxS 1 (kT 32) (kT 37)),
 ⟨none,.store 1 (kT 38) (.const (.bool kE)),none⟩]))))
 (.ops [kO 18 (.mov (kT 10)),
 kO 19 (kA .add (kT 18) (kC 1)),
 kO 10 (.mov (kT 19))]))))))
 (.seq (.seq (.ops [kO 11 (.mov (kC 0))])
 (.block 2 (.loop (.seq (.seq (.ops [kO 39 (.mov (kT 11)),
 kO 40 (.mov (kT 0)),
 kO 41 (kA .lss (kT 39) (kT 40))])
 (.cond (kT 41) .skip
 (.exit 2)))
 (.seq (.block 3 (.seq (.ops [kO 44 (.mov (kT 9)),
 kO 45 (.mov (kT 11)),
 kO 46 (.idxS 1 (kT 44) (kT 45)),
 kO 47 (.load1 (kT 46)),
 kO 48 (.mov (kT 11)),
 kO 49 (.mov (kT 3)),
 kO 50 (kA .eql (kT 48) (kT 49)),
 kO 51 (.raw (.binOp .eql 4 (kT 47) (kT 50) 4) 4)])
 (.cond (kT 51) (.seq (.ops [kO 8 (.mov (.const (.bool kF)))])
 .ret)
 .skip)))
 (.ops [kO 42 (.mov (kT 11)),
 kO 43 (kA .add (kT 42) (kC 1)),
 kO 11 (.mov (kT 43))]))))))
 (.seq (.ops [kO 8 (.mov (.const (.bool kE)))])
 .ret)))))
theorem enter84 (hl : xs.length ≤ 52) (w : wq E 52 none c84 (frameOf xs) h [] (leaveQ E [.tmp 8] Q)) : CallP E 84 xs h Q :=
  CallP.enterQ (fn := Try.f84) (fn_get Try.func84) (code := Try.f84.body.get rfl) rfl rfl rfl (by kernel_rfl) rfl (fun _ => rfl) hl w
theorem can84 : callable E 84 = true := callable_get Try.func84 rfl rfl
def c85 : C := (.seq (.ops [kO 4 (.mov (.const (.bool kF)))])
 (.seq (.draw [kO 5 (.loadN 2 (kT 1)),
 kO 6 (.mov (kT 0)),
 kO 7 (.call 86 [.tmp 5,.tmp 6]),
 kO 8 (.load1 (kT 2)),
 kO 9 (kA .eql (kT 7) (kT 8)),
 kO 10 (.mov (kT 9)),
 ⟨some 11,.loadN 2 (kT 1),(some (10,kE))⟩,
 ⟨some 12,.mov (kT 0),(some (10,kE))⟩,
 ⟨some 13,.call 80 [.tmp 11,.tmp 12],(some (10,kE))⟩,
 kO 14 (.pick (kT 10) (kT 13) (.const (.bool kF))),
 kO 4 (.mov (kT 14))]
 [⟨kF,kF,fL4,fL4⟩,
 ⟨kF,kF,fL4,fL4⟩,
 ⟨kE,kF,fL4,fL0⟩,
 ⟨kF,kE,fL4,fL0⟩,
 ⟨kF,kF,fL0,fL0⟩,
 ⟨kF,kF,fL0,fL0⟩,
 ⟨kF,kF,fL0,fL0⟩,
 ⟨kF,kF,fL0,fL0⟩,
 ⟨kE,kF,fL0,fL6⟩,
 ⟨kF,kF,fL6,fL6⟩,
 ⟨kF,kF,fL6,fL6⟩])
 .ret))
theorem enter85 (hl : xs.length ≤ 15) (w : wq E 15 none c85 (frameOf xs) h [] (leaveQ E [.tmp 4] Q)) : CallP E 85 xs h Q :=
  CallP.enterQ (fn := Try.f85) (fn_get Try.func85) (code := Try.f85.body.get rfl) rfl rfl rfl (by kernel_rfl) rfl (fun _ => rfl) hl w
theorem can85 : callable E 85 = true := callable_get Try.func85 rfl rfl
def c86 : C := (.seq (.ops [kO 2 (.box 83 (kT 0)),
 kO 4 (.mov (kC 0))])
 (.seq (.ops [kO 5 (.mov (kC 0))])
 (.seq (.seq (.ops [kO 9 (.fldA 1 (kT 2)),
 kO 10 (.load1 (kT 9)),
 kO 11 (.lenS (kT 10)),
 kO 12 (.mov (kC 0))])
 (.block 0 (.loop (.seq (.ops [kO 13 (kA .lss (kT 12) (kT 11))])
 (.seq (.cond (kT 13) .skip
 (.exit 0))
 (.seq (.block 1 (.seq (.ops [kO 14 (.mov (kT 12)),
 kO 6 (.mov (kT 14))])
 (.seq (.ops [kO 16 (.loadN 2 (kT 2)),
 kO 17 (.mov (kT 6)),
 kO 18 (.mov (kT 1)),
 kO 19 (.call 114 [.tmp 16,.tmp 17,.tmp 18]),
 kO 15 (.mov (kT 19)),
 kO 20 (.ext (kT 15) 0),
 kO 21 (.ext (kT 15) 1),
 kO 7 (.mov (kT 20)),
 kO 8 (.mov (kT 21))])
 (.ops [kO 22 (.mov (kT 5)),
 kO 23 (.mov (kT 8)),
 kO 24 (kA .shl (kC 1) (kT 23)),
 kO 25 (kA .or (kT 22) (kT 24)),
 kO 5 (.mov (kT 25))]))))
 (.ops [kO 26 (kA .add (kT 12) (kC 1)),
 kO 12 (.mov (kT 26))])))))))
 (.seq (.ops [kO 27 (.mov (kT 5)),
 kO 4 (.mov (kT 27))])
 .ret))))
theorem enter86 (hl : xs.length ≤ 28) (w : wq E 28 none c86 (frameOf xs) h [] (leaveQ E [.tmp 4] Q)) : CallP E 86 xs h Q :=
  CallP.enterQ (fn := Try.f86) (fn_get Try.func86) (code := Try.f86.body.get rfl) rfl rfl rfl (by kernel_rfl) rfl (fun _ => rfl) hl w
theorem can86 : callable E 86 = true := callable_get Try.func86 rfl rfl
def c87 : C := (.seq (.ops [kO 1 (.box 3 (kT 0)),
 kO 2 (.mov (.const .nilFunc))])
 (.seq (.ops [kO 3 (.func (.func 115) [] [.tmp 1]),
 kO 2 (.mov (kT 3))])
 .ret))
theorem enter87 (hl : xs.length ≤ 4) (w : wq E 4 none c87 (frameOf xs) h [] (leaveQ E [.tmp 2] Q)) : CallP E 87 xs h Q :=
  CallP.enterQ (fn := Try.f87) (fn_get Try.func87) (code := Try.f87.body.get rfl) rfl rfl rfl (by kernel_rfl) rfl (fun _ => rfl) hl w
theorem can87 : callable E 87 = true := callable_get Try.func87 rfl rfl
def c90 : C := (.seq (.ops [kO 4 (.mov (.const (.bool kF)))])
 (.seq (.ops [kO 5 (.mov (kT 0)),
 kO 6 (.mov (kT 1)),
 kO 7 (kA .shr (kT 5) (kT 6)),
 kO 8 (kA .and (kT 7) (kC 1)),
 kO 9 (kA .eql (kT 8) (kC 1)),
 kO 4 (.mov (kT 9))])
 .ret))
theorem enter90 (hl : xs.length ≤ 10) (w : wq E 10 none c90 (frameOf xs) h [] (leaveQ E [.tmp 4] Q)) : CallP E 90 xs h Q :=
  CallP.enterQ (fn := Try.f90) (fn_get Try.func90) (code := Try.f90.body.get rfl) rfl rfl rfl (by kernel_rfl) rfl (fun _ => rfl) hl w
theorem can90 : callable E 90 = true := callable_get Try.func90 rfl rfl
def c100 : C := (.seq (.ops [kO 2 (.box 79 (kT 0)),
 kO 3 (.box 79 (kT 1)),
 kO 4 (.mov (kC 0))])
 (.seq (.ops [kO 5 (.cutA 2 1 (kT 2) none none none),
 kO 6 (.cutA 2 1 (kT 3) none none none),
 kO 7 (.call 121 [.tmp 5,.tmp 6]),
 kO 4 (.mov (kT 7))])
 .ret))
theorem enter100 (hl : xs.length ≤ 8) (w : wq E 8 none c100 (frameOf xs) h [] (leaveQ E [.tmp 4] Q)) : CallP E 100 xs h Q :=
  CallP.enterQ (fn := Try.f100) (fn_get Try.func100) (code := Try.f100.body.get rfl) rfl rfl rfl (by kernel_rfl) rfl (fun _ => rfl) hl w
theorem can100 : callable E 100 = true := callable_get Try.func100 rfl rfl
def c112 : C := (.seq (.ops [kO 2 (.box 83 (kT 0)),
 kO 4 (.mov (kC 0))])
 (.seq (.ops [kO 10 (.loadN 2 (kT 2)),
 kO 11 (.mov (kT 1)),
 kO 12 (.call 129 [.tmp 10,.tmp 11]),
 kO 5 (.alloc 115 [kZ,kZ,kZ,kZ,kZ,kZ]),
 ⟨none,.store 6 (kT 5) (kT 12),none⟩])
 (.seq (.ops [kO 6 (.mov (kC 0))])
 (.seq (.seq (.ops [kO 13 (.fldA 1 (kT 2)),
 kO 14 (.load1 (kT 13)),
 kO 15 (.lenS (kT 14)),
 kO 16 (.mov (kC 0))])
 (.block 0 (.loop (.seq (.ops [kO 17 (kA .lss (kT 16) (kT 15))])
 (.seq (.cond (kT 17) .skip
 (.exit 0))
 (.seq (.block 1 (.seq (.ops [kO 18 (.mov (kT 16)),
 kO 7 (.mov (kT 18))])
 (.seq (.ops [kO 20 (.loadN 2 (kT 2)),
 kO 21 (.mov (kT 7)),
 kO 22 (.mov (kT 1)),
 kO 23 (.call 114 [.tmp 20,.tmp 21,.tmp 22]),
 kO 19 (.mov (kT 23)),
 kO 24 (.ext (kT 19) 0),
 kO 25 (.ext (kT 19) 1),
 kO 8 (.mov (kT 24)),
 kO 9 (.mov (kT 25))])
 (.seq (.ops [kO 26 (.mov (kT 9)),
 kO 27 (.idxA 6 1 (kT 5) (kT 26)),
 kO 28 (.load1 (kT 27)),
 kO 29 (.mov (kT 8)),
 kO 30 (.call 90 [.tmp 28,.tmp 29])])
 (.cond (kT 30) (.ops [kO 31 (.mov (kT 6)),
 kO 32 (.mov (kT 7)),
 kO 33 (kA .shl (kC 1) (kT 32)),
 kO 34 (kA .or (kT 31) (kT 33)),
 kO 6 (.mov (kT 34))])
 .skip)))))
 (.ops [kO 35 (kA .add (kT 16) (kC 1)),
 kO 16 (.mov (kT 35))])))))))
 (.seq (.ops [kO 36 (.mov (kT 6)),
 kO 4 (.mov (kT 36))])
 .ret)))))
theorem enter112 (hl : xs.length ≤ 37) (w : wq E 37 none c112 (frameOf xs) h [] (leaveQ E [.tmp 4] Q)) : CallP E 112 xs h Q :=
  CallP.enterQ (fn := Try.f112) (fn_get Try.func112) (code := Try.f112.body.get rfl) rfl rfl rfl (by kernel_rfl) rfl (fun _ => rfl) hl w
theorem can112 : callable E 112 = true := callable_get Try.func112 rfl rfl
def c113 : C := (.seq (.ops [kO 1 (.box 83 (kT 0)),
 kO 2 (.mov (kC 0))])
 (.seq (.ops [kO 3 (.fldA 1 (kT 1)),
 kO 4 (.load1 (kT 3)),
 kO 5 (.lenS (kT 4)),
 kO 6 (kA .shl (kC 1) (kT 5)),
 kO 7 (kA .sub (kT 6) (kC 1)),
 kO 2 (.mov (kT 7))])
 .ret))
theorem enter113 (hl : xs.length ≤ 8) (w : wq E 8 none c113 (frameOf xs) h [] (leaveQ E [.tmp 2] Q)) : CallP E 113 xs h Q :=
  CallP.enterQ (fn := Try.f113) (fn_get Try.func113) (code := Try.f113.body.get rfl) rfl rfl rfl (by kernel_rfl) rfl (fun _ => rfl) hl w
theorem can113 : callable E 113 = true := callable_get Try.func113 rfl rfl
def c114 : C := (.seq (.ops [kO 3 (.box 83 (kT 0)),
 kO 6 (.mov (kC 0)),
 kO 7 (.mov (kC 0))])
 (.seq (.ops [kO 9 (.fldA 1 (kT 3)),
 kO 10 (.load1 (kT 9)),
 kO 11 (.mov (kT 1)),
 kO 12 (.idxS 2 (kT 10) (kT 11)),
 kO 13 (.loadN 2 (kT 12)),
 kO 8 (.alloc 79 [kZ,kZ]),
 ⟨none,.store 2 (kT 8) (kT 13),none⟩])
 (.seq (.seq (.ops [kO 14 (.mov (kT 2)),
 kO 15 (.mov (kT 1)),
 kO 16 (.call 90 [.tmp 14,.tmp 15])])
 (.cond (kT 16) (.seq (.ops [kO 17 (.idxA 2 1 (kT 8) (kC 1)),
 kO 18 (.load1 (kT 17)),
 kO 19 (.idxA 2 1 (kT 8) (kC 0)),
 kO 20 (.load1 (kT 19)),
 kO 6 (.mov (kT 18)),
 kO 7 (.mov (kT 20))])
 .ret)
 .skip))
 (.seq (.ops [kO 21 (.idxA 2 1 (kT 8) (kC 0)),
 kO 22 (.load1 (kT 21)),
 kO 23 (.idxA 2 1 (kT 8) (kC 1)),
 kO 24 (.load1 (kT 23)),
 kO 6 (.mov (kT 22)),
 kO 7 (.mov (kT 24))])
 .ret))))
theorem enter114 (hl : xs.length ≤ 25) (w : wq E 25 none c114 (frameOf xs) h [] (leaveQ E [.tmp 6,.tmp 7] Q)) : CallP E 114 xs h Q :=
  CallP.enterQ (fn := Try.f114) (fn_get Try.func114) (code := Try.f114.body.get rfl) rfl rfl rfl (by kernel_rfl) rfl (fun _ => rfl) hl w
theorem can114 : callable E 114 = true := callable_get Try.func114 rfl rfl
def c115 : C := (.seq (.ops [kO 4 (.load1 (kT 1)),
 kO 5 (kA .shl (kC 1) (kT 4)),
 kO 6 (.mov (kC 0))])
 (.block 0 (.loop (.seq (.ops [kO 7 (kA .lss (kT 6) (kT 5))])
 (.seq (.cond (kT 7) .skip
 (.exit 0))
 (.seq (.block 1 (.seq (.ops [kO 8 (.mov (kT 6)),
 kO 3 (.mov (kT 8))])
 (.seq (.ops [kO 9 (.mov (kT 0)),
 kO 10 (.mov (kT 3)),
 kO 11 (.callv (kT 9) [.tmp 10]),
 kO 12 (.not (kT 11))])
 (.cond (kT 12) .ret
 .skip))))
 (.ops [kO 13 (kA .add (kT 6) (kC 1)),
 kO 6 (.mov (kT 13))])))))))
theorem enter115 (hl : xs.length ≤ 14) (w : wq E 14 none c115 (frameOf xs) h [] (leaveQ E [] Q)) : CallP E 115 xs h Q :=
  CallP.enterQ (fn := Try.f115) (fn_get Try.func115) (code := Try.f115.body.get rfl) rfl rfl rfl (by kernel_rfl) rfl (fun _ => rfl) hl w
theorem can115 : callable E 115 = true := callable_get Try.func115 rfl rfl
def c121 : C := (.seq (.ops [kO 4 (.mov (kC 0))])
 (.seq (.seq (.ops [kO 9 (.mov (kT 0)),
 kO 10 (.lenS (kT 9)),
 kO 11 (.mov (kC 0))])
 (.block 0 (.loop (.seq (.ops [kO 12 (kA .lss (kT 11) (kT 10))])
 (.seq (.cond (kT 12) .skip
 (.exit 0))
 (.seq (.block 1 (.seq (.ops [kO 13 (.mov (kT 11)),
 kO 14 (.idxS 1 (kT 9) (kT 11)),
 kO 15 (.load1 (kT 14)),
 kO 5 (.mov (kT 13)),
 kO 6 (.mov (kT 15))])
 (.seq (.seq (.ops [kO 16 (.mov (kT 5)),
 kO 17 (.mov (kT 1)),
 kO 18 (.lenS (kT 17)),
 kO 19 (kA .geq (kT 16) (kT 18))])
 (.cond (kT 19) (.seq (.ops [kO 4 (.mov (kC 1))])
 .ret)
 .skip))
 (.seq (.ops [kO 20 (.mov (kT 1)),
 kO 21 (.mov (kT 5)),
 kO 22 (.idxS 1 (kT 20) (kT 21)),
 kO 23 (.load1 (kT 22)),
 kO 7 (.mov (kT 23))])
 (.seq (.ops [kO 24 (.mov (kT 6)),
 kO 25 (.mov (kT 7)),
 kO 26 (.call 133 [.tmp 24,.tmp 25]),
 kO 8 (.mov (kT 26))])
 (.seq (.ops [kO 27 (.mov (kT 8)),
 kO 28 (kA .neq (kT 27) (kC 0))])
 (.cond (kT 28) (.seq (.ops [kO 29 (.mov (kT 8)),
 kO 4 (.mov (kT 29))])
 .ret)
 .skip)))))))
 (.ops [kO 30 (kA .add (kT 11) (kC 1)),
 kO 11 (.mov (kT 30))])))))))
 (.seq (.seq (.ops [kO 31 (.mov (kT 0)),
 kO 32 (.lenS (kT 31)),
 kO 33 (.mov (kT 1)),
 kO 34 (.lenS (kT 33)),
 kO 35 (kA .lss (kT 32) (kT 34))])
 (.cond (kT 35) (.seq (.ops [kO 4 (.mov (.const (.int .i64 (-1))))])
 .ret)
 .skip))
 (.seq (.ops [kO 4 (.mov (kC 0))])
 .ret))))
theorem enter121 (hl : xs.length ≤ 36) (w : wq E 36 none c121 (frameOf xs) h [] (leaveQ E [.tmp 4] Q)) : CallP E 121 xs h Q :=
  CallP.enterQ (fn := Try.f121) (fn_get Try.func121) (code := Try.f121.body.get rfl) rfl rfl rfl (by kernel_rfl) rfl (fun _ => rfl) hl w
theorem can121 : callable E 121 = true := callable_get Try.func121 rfl rfl
def c129 : C := (.seq (.ops [kO 2 (.box 83 (kT 0)),
 kO 4 (.alloc 115 [kZ,kZ,kZ,kZ,kZ,kZ])])
 (.seq (.ops [kO 5 (.alloc 115 [kZ,kZ,kZ,kZ,kZ,kZ])])
 (.seq (.seq (.ops [kO 10 (.mov (kC 0))])
 (.block 0 (.loop (.seq (.ops [kO 11 (kA .lss (kT 10) (kC 6))])
 (.seq (.cond (kT 11) .skip
 (.exit 0))
 (.seq (.block 1 (.seq (.ops [kO 12 (.mov (kT 10)),
 kO 6 (.mov (kT 12))])
 (.ops [kO 13 (.mov (kT 6)),
 kO 14 (.mov (kT 6)),
 kO 15 (kA .shl (kC 1) (kT 14)),
 kO 16 (.idxA 6 1 (kT 5) (kT 13)),
 ⟨none,.store 1 (kT 16) (kT 15),none⟩])))
 (.ops [kO 17 (kA .add (kT 10) (kC 1)),
 kO 10 (.mov (kT 17))])))))))
 (.seq (.seq (.ops [kO 18 (.fldA 0 (kT 2)),
 kO 19 (.load1 (kT 18)),
 kO 20 (.mov (kC 0))])
 (.block 2 (.loop (.seq (.ops [kO 21 (kA .lss (kT 20) (kT 19))])
 (.seq (.cond (kT 21) .skip
 (.exit 2))
 (.seq (.block 3 (.seq (.ops [kO 22 (.fldA 1 (kT 2)),
 kO 23 (.load1 (kT 22)),
 kO 24 (.lenS (kT 23)),
 kO 25 (.mov (kC 0))])
 (.block 4 (.loop (.seq (.ops [kO 26 (kA .lss (kT 25) (kT 24))])
 (.seq (.cond (kT 26) .skip
 (.exit 4))
 (.seq (.block 5 (.seq (.ops [kO 27 (.mov (kT 25)),
 kO 7 (.mov (kT 27))])
 (.seq (.ops [kO 29 (.loadN 2 (kT 2)),
 kO 30 (.mov (kT 7)),
 kO 31 (.mov (kT 1)),
 kO 32 (.call 114 [.tmp 29,.tmp 30,.tmp 31]),
 kO 28 (.mov (kT 32)),
 kO 33 (.ext (kT 28) 0),
 kO 34 (.ext (kT 28) 1),
 kO 8 (.mov (kT 33)),
 kO 9 (.mov (kT 34))])
 (.ops [kO 35 (.mov (kT 8)),
 kO 36 (.idxA 6 1 (kT 5) (kT 35)),
 kO 37 (.load1 (kT 36)),
 kO 38 (.mov (kT 9)),
 kO 39 (.idxA 6 1 (kT 5) (kT 38)),
 kO 40 (.load1 (kT 39)),
 kO 41 (kA .or (kT 37) (kT 40)),
 kO 42 (.idxA 6 1 (kT 5) (kT 35)),
 ⟨none,.store 1 (kT 42) (kT 41),none⟩]))))
 (.ops [kO 43 (kA .add (kT 25) (kC 1)),
 kO 25 (.mov (kT 43))]))))))))
 (.ops [kO 44 (kA .add (kT 20) (kC 1)),
 kO 20 (.mov (kT 44))])))))))
 (.seq (.ops [kO 45 (.loadN 6 (kT 5)),
 ⟨none,.store 6 (kT 4) (kT 45),none⟩])
 .ret)))))
theorem enter129 (hl : xs.length ≤ 46) (w : wq E 46 none c129 (frameOf xs) h [] (leaveQ E [.cell 4 115] Q)) : CallP E 129 xs h Q :=
  CallP.enterQ (fn := Try.f129) (fn_get Try.func129) (code := Try.f129.body.get rfl) rfl rfl rfl (by kernel_rfl) rfl (fun _ => rfl) hl w
theorem can129 : callable E 129 = true := callable_get Try.func129 rfl rfl
def c133 : C := (.seq (.ops [kO 4 (.mov (kC 0))])
 (.seq (.ops [kO 7 (.mov (kT 0)),
 kO 8 (.call 145 [.tmp 7]),
 kO 5 (.mov (kT 8))])
 (.seq (.ops [kO 9 (.mov (kT 1)),
 kO 10 (.call 145 [.tmp 9]),
 kO 6 (.mov (kT 10))])
 (.seq (.seq (.ops [kO 11 (.mov (kT 5))])
 (.cond (kT 11) (.seq (.seq (.ops [kO 12 (.mov (kT 6))])
 (.cond (kT 12) (.seq (.ops [kO 4 (.mov (kC 0))])
 .ret)
 .skip))
 (.seq (.ops [kO 4 (.mov (.const (.int .i64 (-1))))])
 .ret))
 .skip))
 (.seq (.seq (.ops [kO 13 (.mov (kT 6))])
 (.cond (kT 13) (.seq (.ops [kO 4 (.mov (kC 1))])
 .ret)
 .skip))
 (.seq (.seq (.ops [kO 14 (.mov (kT 0)),
 kO 15 (.mov (kT 1)),
 kO 16 (kA .lss (kT 14) (kT 15))])
 (.cond (kT 16) (.seq (.ops [kO 4 (.mov (.const (.int .i64 (-1))))])
 .ret)
 .skip))
 (.seq (.seq (.ops [kO 17 (.mov (kT 0)),
 kO 18 (.mov (kT 1)),
 kO 19 (kA .gtr (kT 17) (kT 18))])
 (.cond (kT 19) (.seq (.ops [kO 4 (.mov (kC 1))])
 .ret)
 .skip))
 (.seq (.ops [kO 4 (.mov (kC 0))])
 .ret))))))))
theorem enter133 (hl : xs.length ≤ 20) (w : wq E 20 none c133 (frameOf xs) h [] (leaveQ E [.tmp 4] Q)) : CallP E 133 xs h Q :=
  CallP.enterQ (fn := Try.f133) (fn_get Try.func133) (code := Try.f133.body.get rfl) rfl rfl rfl (by kernel_rfl) rfl (fun _ => rfl) hl w
theorem can133 : callable E 133 = true := callable_get Try.func133 rfl rfl
def c145 : C := (.seq (.ops [kO 2 (.mov (.const (.bool kF)))])
 (.seq (.ops [kO 3 (.mov (kT 0)),
 kO 4 (.mov (kT 0)),
 kO 5 (kA .neq (kT 3) (kT 4)),
 kO 2 (.mov (kT 5))])
 .ret))
theorem enter145 (hl : xs.length ≤ 6) (w : wq E 6 none c145 (frameOf xs) h [] (leaveQ E [.tmp 2] Q)) : CallP E 145 xs h Q :=
  CallP.enterQ (fn := Try.f145) (fn_get Try.func145) (code := Try.f145.body.get rfl) rfl rfl rfl (by kernel_rfl) rfl (fun _ => rfl) hl w
theorem can145 : callable E 145 = true := callable_get Try.func145 rfl rfl
end
end Go.Proofs.Ythgjnkdealdmoaa
