/- The code of the functions that PNRA comes to. -/
import Derived.Test.YthgjnkdealdmoaaTypesC
set_option maxRecDepth 100000
set_option linter.unusedSectionVars false
set_option linter.unusedVariables false
namespace Go.Proofs.Ythgjnkdealdmoaa
open Go.Rx Go.RowKit
noncomputable section
abbrev kF:=false
abbrev kE:=true
abbrev kO (d:Nat) (t:TOp):G:=⟨some d,t,none⟩
abbrev kT:=Operand.tmp
abbrev kC (n:Int):Operand:=.const (.int .i64 n)
abbrev kN:Value:=.slice none 0 0
abbrev kZ:Value:=.int .i64 0
abbrev kA:=TOp.ar .i64
variable [Unknowns] {xs : List Value} {h : Hp} {Q : Value → Hp → Prop}
def c3 : C := (.seq (.ops [kO 6 (.mov (.const (.bool kF)))])
 (.seq (.ops [kO 12 (.mov (kT 0)),
 kO 13 (.mov (kT 1)),
 kO 14 (.call 17 [.tmp 12,.tmp 13,(kC 9)]),
 kO 11 (.mov (kT 14)),
 kO 15 (.ext (kT 11) 0),
 kO 16 (.ext (kT 11) 1),
 kO 0 (.mov (kT 15)),
 kO 7 (.mov (kT 16))])
 (.seq (.ops [kO 17 (.mov (kT 2)),
 kO 18 (.cint .u64 (kT 17)),
 kO 19 (.mov (kT 7)),
 kO 20 (.lenS (kT 19)),
 kO 21 (.ar .u64 .shl (.const (.int .u64 1)) (kT 20)),
 kO 22 (.ar .u64 .rem (kT 18) (kT 21)),
 kO 23 (.cint .i64 (kT 22)),
 kO 8 (.mov (kT 23))])
 (.seq (.ops [kO 25 (.mov (kT 0)),
 kO 26 (.mov (kT 7)),
 kO 27 (.mov (kT 8)),
 kO 28 (.call 18 [.tmp 25,.tmp 26,.tmp 27]),
 kO 24 (.mov (kT 28)),
 kO 29 (.ext (kT 24) 0),
 kO 30 (.ext (kT 24) 1),
 kO 9 (.mov (kT 29)),
 kO 10 (.mov (kT 30))])
 (.seq (.ops [kO 31 (.mov (kT 10)),
 kO 32 (kA .eql (kT 31) (kC 0)),
 kO 33 (.mov (kT 32)),
 ⟨some 34,.mov (kT 9),(some (33,kE))⟩,
 ⟨some 35,.mov (kT 0),(some (33,kE))⟩,
 ⟨some 36,.mov (kT 7),(some (33,kE))⟩,
 ⟨some 37,.mov (kT 8),(some (33,kE))⟩,
 ⟨some 38,.call 19 [.tmp 35,.tmp 36,.tmp 37],(some (33,kE))⟩,
 ⟨some 39,kA .eql (kT 34) (kT 38),(some (33,kE))⟩,
 kO 40 (.pick (kT 33) (kT 39) (.const (.bool kF))),
 kO 41 (.mov (kT 40)),
 ⟨some 42,.call 20 [],(some (41,kE))⟩,
 kO 43 (.pick (kT 41) (kT 42) (.const (.bool kF))),
 kO 6 (.mov (kT 43))])
 .ret)))))
theorem enter3 (hl : xs.length ≤ 44) (w : wq E 44 none c3 (frameOf xs) h [] (leaveQ E [.tmp 6] Q)) : CallP E 3 xs h Q :=
  CallP.enterQ (fn := Try.f3) (fn_get Try.func3) (code := Try.f3.body.get rfl) rfl rfl rfl (by kernel_rfl) rfl (fun _ => rfl) hl w
theorem can3 : callable E 3 = true := callable_get Try.func3 rfl rfl
def c17 : C := (.seq (.ops [kO 6 (.mov (kC 0)),
 kO 7 (.mov (.const kN))])
 (.seq (.ops [kO 15 (.mov (kT 0)),
 kO 16 (.cint .u64 (kT 15)),
 kO 17 (.ar .u64 .rem (kT 16) (.const (.int .u64 6))),
 kO 18 (.cint .i64 (kT 17)),
 kO 19 (kA .add (kC 1) (kT 18)),
 kO 0 (.mov (kT 19))])
 (.seq (.ops [kO 8 (.mov (.const kN))])
 (.seq (.seq (.ops [kO 9 (.mov (kC 0))])
 (.block 0 (.loop (.seq (.seq (.ops [kO 20 (.mov (kT 9)),
 kO 21 (.mov (kT 1)),
 kO 22 (.lenS (kT 21)),
 kO 23 (kA .lss (kT 20) (kT 22)),
 kO 24 (.mov (kT 23)),
 ⟨some 25,.mov (kT 9),(some (24,kE))⟩,
 ⟨some 26,.mov (kT 2),(some (24,kE))⟩,
 ⟨some 27,kA .lss (kT 25) (kT 26),(some (24,kE))⟩,
 kO 28 (.pick (kT 24) (kT 27) (.const (.bool kF)))])
 (.cond (kT 28) .skip
 (.exit 0)))
 (.seq (.block 1 (.seq (.ops [kO 31 (.mov (kT 1)),
 kO 32 (.mov (kT 9)),
 kO 33 (.idxS 2 (kT 31) (kT 32)),
 kO 34 (.idxA 2 1 (kT 33) (kC 0)),
 kO 35 (.load1 (kT 34)),
 kO 36 (.cint .u64 (kT 35)),
 kO 37 (.mov (kT 0)),
 kO 38 (.cint .u64 (kT 37)),
 kO 39 (.ar .u64 .rem (kT 36) (kT 38)),
 kO 40 (.cint .i64 (kT 39)),
 kO 41 (.mov (kT 1)),
 kO 42 (.mov (kT 9)),
 kO 43 (.idxS 2 (kT 41) (kT 42)),
 kO 44 (.idxA 2 1 (kT 43) (kC 1)),
 kO 45 (.load1 (kT 44)),
 kO 46 (.cint .u64 (kT 45)),
 kO 47 (.mov (kT 0)),
 kO 48 (.cint .u64 (kT 47)),
 kO 49 (.ar .u64 .rem (kT 46) (kT 48)),
 kO 50 (.cint .i64 (kT 49)),
 kO 10 (.mov (kT 40)),
 kO 11 (.mov (kT 50))])
 (.seq (.ops [kO 51 (.mov (kT 10)),
 kO 52 (.mov (kT 11)),
 kO 53 (.raw (.call ⟨.builtin .min,⟨[.tmp 51,.tmp 52]⟩,⟨[3,3]⟩⟩) 3),
 kO 54 (.mov (kT 10)),
 kO 55 (.mov (kT 11)),
 kO 56 (.raw (.call ⟨.builtin .max,⟨[.tmp 54,.tmp 55]⟩,⟨[3,3]⟩⟩) 3),
 kO 57 (.aggr [kZ,kZ] [(0,1,(kT 53)),(1,1,(kT 56))]),
 kO 12 (.alloc 79 [kZ,kZ]),
 ⟨none,.store 2 (kT 12) (kT 57),none⟩])
 (.seq (.ops [kO 13 (.mov (kC 0))])
 (.seq (.block 2 (.loop (.seq (.seq (.ops [kO 58 (.mov (kT 13)),
 kO 59 (.mov (kT 8)),
 kO 60 (.lenS (kT 59)),
 kO 61 (kA .lss (kT 58) (kT 60)),
 kO 62 (.mov (kT 61)),
 ⟨some 63,.mov (kT 8),(some (62,kE))⟩,
 ⟨some 64,.mov (kT 13),(some (62,kE))⟩,
 ⟨some 65,.idxS 2 (kT 63) (kT 64),(some (62,kE))⟩,
 ⟨some 66,.idxA 2 1 (kT 65) (kC 0),(some (62,kE))⟩,
 ⟨some 67,.load1 (kT 66),(some (62,kE))⟩,
 ⟨some 68,.idxA 2 1 (kT 12) (kC 0),(some (62,kE))⟩,
 ⟨some 69,.load1 (kT 68),(some (62,kE))⟩,
 ⟨some 70,kA .lss (kT 67) (kT 69),(some (62,kE))⟩,
 ⟨some 71,.mov (kT 70),(some (62,kE))⟩,
 ⟨some 72,.mov (kT 8),(some (71,kF))⟩,
 ⟨some 73,.mov (kT 13),(some (71,kF))⟩,
 ⟨some 74,.idxS 2 (kT 72) (kT 73),(some (71,kF))⟩,
 ⟨some 75,.idxA 2 1 (kT 74) (kC 0),(some (71,kF))⟩,
 ⟨some 76,.load1 (kT 75),(some (71,kF))⟩,
 ⟨some 77,.idxA 2 1 (kT 12) (kC 0),(some (71,kF))⟩,
 ⟨some 78,.load1 (kT 77),(some (71,kF))⟩,
 ⟨some 79,kA .eql (kT 76) (kT 78),(some (71,kF))⟩,
 ⟨some 80,.mov (kT 79),(some (71,kF))⟩,
 ⟨some 81,.mov (kT 8),(some (80,kE))⟩,
 ⟨some 82,.mov (kT 13),(some (80,kE))⟩,
 ⟨some 83,.idxS 2 (kT 81) (kT 82),(some (80,kE))⟩,
 ⟨some 84,.idxA 2 1 (kT 83) (kC 1),(some (80,kE))⟩,
 ⟨some 85,.load1 (kT 84),(some (80,kE))⟩,
 ⟨some 86,.idxA 2 1 (kT 12) (kC 1),(some (80,kE))⟩,
 ⟨some 87,.load1 (kT 86),(some (80,kE))⟩,
 ⟨some 88,kA .leq (kT 85) (kT 87),(some (80,kE))⟩,
 ⟨some 89,.pick (kT 80) (kT 88) (.const (.bool kF)),(some (71,kF))⟩,
 ⟨some 90,.pick (kT 71) (.const (.bool kE)) (kT 89),(some (62,kE))⟩,
 kO 91 (.pick (kT 62) (kT 90) (.const (.bool kF)))])
 (.cond (kT 91) .skip
 (.exit 2)))
 (.block 3 (.ops [kO 92 (.mov (kT 13)),
 kO 93 (kA .add (kT 92) (kC 1)),
 kO 13 (.mov (kT 93))])))))
 (.seq (.ops [kO 14 (.mov (.const kN))])
 (.seq (.ops [kO 94 (.mov (kT 14)),
 kO 95 (.mov (kT 8)),
 kO 96 (.mov (kT 13)),
 kO 97 (.cutS 2 (kT 95) none (some (kT 96)) none),
 kO 98 (.append 79 2 16 (kT 94) (kT 97)),
 kO 14 (.mov (kT 98))])
 (.seq (.ops [kO 99 (.mov (kT 14)),
 kO 100 (.loadN 2 (kT 12)),
 kO 101 (.slit 79 1 [kZ,kZ] [(0,2,(kT 100))]),
 kO 102 (.append 79 2 16 (kT 99) (kT 101)),
 kO 14 (.mov (kT 102))])
 (.ops [kO 103 (.mov (kT 14)),
 kO 104 (.mov (kT 8)),
 kO 105 (.mov (kT 13)),
 kO 106 (.cutS 2 (kT 104) (some (kT 105)) none none),
 kO 107 (.append 79 2 16 (kT 103) (kT 106)),
 kO 8 (.mov (kT 107))])))))))))
 (.ops [kO 29 (.mov (kT 9)),
 kO 30 (kA .add (kT 29) (kC 1)),
 kO 9 (.mov (kT 30))]))))))
 (.seq (.ops [kO 108 (.mov (kT 0)),
 kO 109 (.mov (kT 8)),
 kO 6 (.mov (kT 108)),
 kO 7 (.mov (kT 109))])
 .ret)))))
theorem enter17 (hl : xs.length ≤ 110) (w : wq E 110 none c17 (frameOf xs) h [] (leaveQ E [.tmp 6,.tmp 7] Q)) : CallP E 17 xs h Q :=
  CallP.enterQ (fn := Try.f17) (fn_get Try.func17) (code := Try.f17.body.get rfl) rfl rfl rfl (by kernel_rfl) rfl (fun _ => rfl) hl w
theorem can17 : callable E 17 = true := callable_get Try.func17 rfl rfl
def c18 : C := (.seq (.ops [kO 6 (.mov (kC 0)),
 kO 7 (.mov (kC 0))])
 (.seq (.ops [kO 11 (.mov (kT 0)),
 kO 12 (.mov (kT 1)),
 kO 13 (.mov (kT 2)),
 kO 14 (.call 58 [.tmp 11,.tmp 12,.tmp 13]),
 kO 10 (.mov (kT 14)),
 kO 15 (.ext (kT 10) 0),
 kO 16 (.ext (kT 10) 1),
 kO 8 (.alloc 83 [kZ,kN]),
 ⟨none,.store 2 (kT 8) (kT 15),none⟩,
 kO 9 (.mov (kT 16))])
 (.seq (.seq (.ops [kO 17 (.mov (kT 9)),
 kO 18 (kA .neq (kT 17) (kC 0))])
 (.cond (kT 18) (.seq (.ops [kO 19 (.mov (kT 9)),
 kO 6 (.mov (kC 0)),
 kO 7 (.mov (kT 19))])
 .ret)
 .skip))
 (.seq (.ops [kO 20 (.loadN 2 (kT 8)),
 kO 21 (.mov (kT 2)),
 kO 22 (.call 59 [.tmp 20,.tmp 21]),
 kO 6 (.mov (kT 22)),
 kO 7 (.mov (kC 0))])
 .ret))))
theorem enter18 (hl : xs.length ≤ 23) (w : wq E 23 none c18 (frameOf xs) h [] (leaveQ E [.tmp 6,.tmp 7] Q)) : CallP E 18 xs h Q :=
  CallP.enterQ (fn := Try.f18) (fn_get Try.func18) (code := Try.f18.body.get rfl) rfl rfl rfl (by kernel_rfl) rfl (fun _ => rfl) hl w
theorem can18 : callable E 18 = true := callable_get Try.func18 rfl rfl
def c19 : C := (.seq (.ops [kO 6 (.mov (kC 0))])
 (.seq (.ops [kO 14 (.mov (kT 0)),
 kO 15 (.make 3 [kZ] 8 (kT 14) (kT 14)),
 kO 7 (.mov (kT 15))])
 (.seq (.seq (.ops [kO 8 (.mov (kC 0))])
 (.block 0 (.loop (.seq (.seq (.ops [kO 16 (.mov (kT 8)),
 kO 17 (.mov (kT 0)),
 kO 18 (kA .lss (kT 16) (kT 17))])
 (.cond (kT 18) .skip
 (.exit 0)))
 (.seq (.block 1 (.ops [kO 21 (.mov (kT 7)),
 kO 22 (.mov (kT 8)),
 kO 23 (.mov (kT 8)),
 kO 24 (.idxS 1 (kT 21) (kT 22)),
 ⟨none,.store 1 (kT 24) (kT 23),none⟩]))
 (.ops [kO 19 (.mov (kT 8)),
 kO 20 (kA .add (kT 19) (kC 1)),
 kO 8 (.mov (kT 20))]))))))
 (.seq (.ops [kO 9 (.mov (kC 0))])
 (.seq (.seq (.ops [kO 10 (.mov (kC 0))])
 (.block 2 (.loop (.seq (.seq (.ops [kO 25 (.mov (kT 10)),
 kO 26 (.mov (kT 1)),
 kO 27 (.lenS (kT 26)),
 kO 28 (kA .lss (kT 25) (kT 27))])
 (.cond (kT 28) .skip
 (.exit 2)))
 (.seq (.block 3 (.seq (.ops [kO 31 (.mov (kT 7)),
 kO 32 (.mov (kT 1)),
 kO 33 (.mov (kT 10)),
 kO 34 (.idxS 2 (kT 32) (kT 33)),
 kO 35 (.idxA 2 1 (kT 34) (kC 0)),
 kO 36 (.load1 (kT 35)),
 kO 37 (.idxS 1 (kT 31) (kT 36)),
 kO 38 (.load1 (kT 37)),
 kO 39 (.mov (kT 7)),
 kO 40 (.mov (kT 1)),
 kO 41 (.mov (kT 10)),
 kO 42 (.idxS 2 (kT 40) (kT 41)),
 kO 43 (.idxA 2 1 (kT 42) (kC 1)),
 kO 44 (.load1 (kT 43)),
 kO 45 (.idxS 1 (kT 39) (kT 44)),
 kO 46 (.load1 (kT 45)),
 kO 11 (.mov (kT 38)),
 kO 12 (.mov (kT 46))])
 (.seq (.seq (.ops [kO 47 (.mov (kT 2)),
 kO 48 (.mov (kT 10)),
 kO 49 (kA .shr (kT 47) (kT 48)),
 kO 50 (kA .rem (kT 49) (kC 2)),
 kO 51 (kA .eql (kT 50) (kC 0)),
 kO 52 (.mov (kT 51)),
 ⟨some 53,.mov (kT 11),(some (52,kF))⟩,
 ⟨some 54,.mov (kT 12),(some (52,kF))⟩,
 ⟨some 55,kA .eql (kT 53) (kT 54),(some (52,kF))⟩,
 kO 56 (.pick (kT 52) (.const (.bool kE)) (kT 55))])
 (.cond (kT 56) (.exit 3)
 .skip))
 (.seq (.ops [kO 57 (.mov (kT 9)),
 kO 58 (kA .add (kT 57) (kC 1)),
 kO 9 (.mov (kT 58))])
 (.seq (.ops [kO 13 (.mov (kC 0))])
 (.block 4 (.loop (.seq (.seq (.ops [kO 59 (.mov (kT 13)),
 kO 60 (.mov (kT 0)),
 kO 61 (kA .lss (kT 59) (kT 60))])
 (.cond (kT 61) .skip
 (.exit 4)))
 (.seq (.block 5 (.seq (.ops [kO 64 (.mov (kT 7)),
 kO 65 (.mov (kT 13)),
 kO 66 (.idxS 1 (kT 64) (kT 65)),
 kO 67 (.load1 (kT 66)),
 kO 68 (.mov (kT 12)),
 kO 69 (kA .eql (kT 67) (kT 68))])
 (.cond (kT 69) (.ops [kO 70 (.mov (kT 7)),
 kO 71 (.mov (kT 13)),
 kO 72 (.mov (kT 11)),
 kO 73 (.idxS 1 (kT 70) (kT 71)),
 ⟨none,.store 1 (kT 73) (kT 72),none⟩])
 .skip)))
 (.ops [kO 62 (.mov (kT 13)),
 kO 63 (kA .add (kT 62) (kC 1)),
 kO 13 (.mov (kT 63))]))))))))))
 (.ops [kO 29 (.mov (kT 10)),
 kO 30 (kA .add (kT 29) (kC 1)),
 kO 10 (.mov (kT 30))]))))))
 (.seq (.ops [kO 74 (.mov (kT 9)),
 kO 6 (.mov (kT 74))])
 .ret))))))
theorem enter19 (hl : xs.length ≤ 75) (w : wq E 75 none c19 (frameOf xs) h [] (leaveQ E [.tmp 6] Q)) : CallP E 19 xs h Q :=
  CallP.enterQ (fn := Try.f19) (fn_get Try.func19) (code := Try.f19.body.get rfl) rfl rfl rfl (by kernel_rfl) rfl (fun _ => rfl) hl w
theorem can19 : callable E 19 = true := callable_get Try.func19 rfl rfl
theorem memo20 {h : Hp} {Q : Value → Hp → Prop} (q : Q (.bool true) h) : CallP E 20 [] h Q := CallP.memo rfl q
def c58 : C := (.seq (.ops [kO 6 (.alloc 83 [kZ,kN]),
 kO 7 (.mov (kC 0))])
 (.seq (.ops [kO 10 (.mov (kT 0)),
 kO 11 (.mov (kT 1)),
 kO 12 (.aggr [kZ,kN] [(0,1,(kT 10)),(1,1,(kT 11))]),
 kO 8 (.alloc 83 [kZ,kN]),
 ⟨none,.store 2 (kT 8) (kT 12),none⟩])
 (.seq (.seq (.ops [kO 13 (.mov (kT 0)),
 kO 14 (.mov (kT 1)),
 kO 15 (.call 60 [.tmp 13,.tmp 14]),
 kO 9 (.mov (kT 15))])
 (.seq (.ops [kO 16 (.mov (kT 9)),
 kO 17 (kA .neq (kT 16) (kC 0))])
 (.cond (kT 17) (.seq (.ops [kO 18 (.aggr [kZ,kN] []),
 kO 19 (.mov (kT 9)),
 ⟨none,.store 2 (kT 6) (kT 18),none⟩,
 kO 7 (.mov (kT 19))])
 .ret)
 .skip)))
 (.seq (.seq (.ops [kO 20 (.loadN 2 (kT 8)),
 kO 21 (.mov (kT 2)),
 kO 22 (.call 96 [.tmp 20,.tmp 21]),
 kO 23 (.not (kT 22))])
 (.cond (kT 23) (.seq (.ops [kO 24 (.aggr [kZ,kN] []),
 ⟨none,.store 2 (kT 6) (kT 24),none⟩,
 kO 7 (.mov (kC 1))])
 .ret)
 .skip))
 (.seq (.ops [kO 25 (.loadN 2 (kT 8)),
 ⟨none,.store 2 (kT 6) (kT 25),none⟩,
 kO 7 (.mov (kC 0))])
 .ret)))))
theorem enter58 (hl : xs.length ≤ 26) (w : wq E 26 none c58 (frameOf xs) h [] (leaveQ E [.cell 6 83,.tmp 7] Q)) : CallP E 58 xs h Q :=
  CallP.enterQ (fn := Try.f58) (fn_get Try.func58) (code := Try.f58.body.get rfl) rfl rfl rfl (by kernel_rfl) rfl (fun _ => rfl) hl w
theorem can58 : callable E 58 = true := callable_get Try.func58 rfl rfl
def c59 : C := (.seq (.ops [kO 2 (.box 83 (kT 0)),
 kO 4 (.mov (kC 0))])
 (.seq (.ops [kO 8 (.call 97 []),
 kO 5 (.alloc 116 [kZ,kZ,kZ,kZ,kZ,kZ]),
 ⟨none,.store 6 (kT 5) (kT 8),none⟩])
 (.seq (.ops [kO 6 (.alloc 3 [kZ]),
 ⟨none,.store 1 (kT 6) (kC 0),none⟩])
 (.seq (.seq (.ops [kO 9 (.mov (kT 1)),
 kO 10 (.call 98 [.tmp 9])])
 (.block 0 (.range (kT 10) ⟨[11]⟩ (.ops [kO 7 (.mov (kT 11))])
 (.block 1 (.seq (.ops [kO 12 (.fldA 1 (kT 2)),
 kO 13 (.load1 (kT 12)),
 kO 14 (.mov (kT 7)),
 kO 15 (.idxS 2 (kT 13) (kT 14)),
 kO 16 (.idxA 2 1 (kT 15) (kC 0)),
 kO 17 (.load1 (kT 16)),
 kO 18 (.fldA 1 (kT 2)),
 kO 19 (.load1 (kT 18)),
 kO 20 (.mov (kT 7)),
 kO 21 (.idxS 2 (kT 19) (kT 20)),
 kO 22 (.idxA 2 1 (kT 21) (kC 1)),
 kO 23 (.load1 (kT 22)),
 kO 24 (.call 99 [.tmp 5,.tmp 17,.tmp 23])])
 (.cond (kT 24) (.ops [kO 25 (.load1 (kT 6)),
 kO 26 (kA .add (kT 25) (kC 1)),
 ⟨none,.store 1 (kT 6) (kT 26),none⟩])
 .skip))))))
 (.seq (.ops [kO 27 (.load1 (kT 6)),
 kO 4 (.mov (kT 27))])
 .ret)))))
theorem enter59 (hl : xs.length ≤ 28) (w : wq E 28 none c59 (frameOf xs) h [] (leaveQ E [.tmp 4] Q)) : CallP E 59 xs h Q :=
  CallP.enterQ (fn := Try.f59) (fn_get Try.func59) (code := Try.f59.body.get rfl) rfl rfl rfl (by kernel_rfl) rfl (fun _ => rfl) hl w
theorem can59 : callable E 59 = true := callable_get Try.func59 rfl rfl
def c60 : C := (.seq (.ops [kO 4 (.mov (kC 0))])
 (.seq (.seq (.ops [kO 7 (.mov (kT 0)),
 kO 8 (kA .lss (kT 7) (kC 1)),
 kO 9 (.mov (kT 8)),
 ⟨some 10,.mov (kT 0),(some (9,kF))⟩,
 ⟨some 11,kA .gtr (kT 10) (kC 6),(some (9,kF))⟩,
 kO 12 (.pick (kT 9) (.const (.bool kE)) (kT 11))])
 (.cond (kT 12) (.seq (.ops [kO 4 (.mov (kC 1))])
 .ret)
 .skip))
 (.seq (.seq (.ops [kO 13 (.mov (kT 1)),
 kO 14 (.lenS (kT 13)),
 kO 15 (kA .gtr (kT 14) (kC 9))])
 (.cond (kT 15) (.seq (.ops [kO 4 (.mov (kC 10))])
 .ret)
 .skip))
 (.seq (.seq (.ops [kO 16 (.mov (kT 1)),
 kO 17 (.lenS (kT 16)),
 kO 18 (.mov (kC 0))])
 (.block 0 (.loop (.seq (.ops [kO 19 (kA .lss (kT 18) (kT 17))])
 (.seq (.cond (kT 19) .skip
 (.exit 0))
 (.seq (.block 1 (.seq (.ops [kO 20 (.mov (kT 18)),
 kO 21 (.idxS 2 (kT 16) (kT 18)),
 kO 22 (.loadN 2 (kT 21)),
 kO 6 (.alloc 79 [kZ,kZ]),
 kO 5 (.mov (kT 20)),
 ⟨none,.store 2 (kT 6) (kT 22),none⟩])
 (.seq (.seq (.ops [kO 23 (.idxA 2 1 (kT 6) (kC 0)),
 kO 24 (.load1 (kT 23)),
 kO 25 (kA .lss (kT 24) (kC 0)),
 kO 26 (.mov (kT 25)),
 ⟨some 27,.idxA 2 1 (kT 6) (kC 0),(some (26,kF))⟩,
 ⟨some 28,.load1 (kT 27),(some (26,kF))⟩,
 ⟨some 29,.idxA 2 1 (kT 6) (kC 1),(some (26,kF))⟩,
 ⟨some 30,.load1 (kT 29),(some (26,kF))⟩,
 ⟨some 31,kA .gtr (kT 28) (kT 30),(some (26,kF))⟩,
 kO 32 (.pick (kT 26) (.const (.bool kE)) (kT 31)),
 kO 33 (.mov (kT 32)),
 ⟨some 34,.idxA 2 1 (kT 6) (kC 1),(some (33,kF))⟩,
 ⟨some 35,.load1 (kT 34),(some (33,kF))⟩,
 ⟨some 36,.mov (kT 0),(some (33,kF))⟩,
 ⟨some 37,kA .geq (kT 35) (kT 36),(some (33,kF))⟩,
 kO 38 (.pick (kT 33) (.const (.bool kE)) (kT 37))])
 (.cond (kT 38) (.seq (.ops [kO 4 (.mov (kC 10))])
 .ret)
 .skip))
 (.seq (.ops [kO 39 (.mov (kT 5)),
 kO 40 (kA .gtr (kT 39) (kC 0)),
 kO 41 (.mov (kT 40)),
 ⟨some 42,.loadN 2 (kT 6),(some (41,kE))⟩,
 ⟨some 43,.mov (kT 1),(some (41,kE))⟩,
 ⟨some 44,.mov (kT 5),(some (41,kE))⟩,
 ⟨some 45,kA .sub (kT 44) (kC 1),(some (41,kE))⟩,
 ⟨some 46,.idxS 2 (kT 43) (kT 45),(some (41,kE))⟩,
 ⟨some 47,.loadN 2 (kT 46),(some (41,kE))⟩,
 ⟨some 48,.call 100 [.tmp 42,.tmp 47],(some (41,kE))⟩,
 ⟨some 49,kA .lss (kT 48) (kC 0),(some (41,kE))⟩,
 kO 50 (.pick (kT 41) (kT 49) (.const (.bool kF)))])
 (.cond (kT 50) (.seq (.ops [kO 4 (.mov (kC 10))])
 .ret)
 .skip)))))
 (.ops [kO 51 (kA .add (kT 18) (kC 1)),
 kO 18 (.mov (kT 51))])))))))
 (.seq (.ops [kO 4 (.mov (kC 0))])
 .ret)))))
theorem enter60 (hl : xs.length ≤ 52) (w : wq E 52 none c60 (frameOf xs) h [] (leaveQ E [.tmp 4] Q)) : CallP E 60 xs h Q :=
  CallP.enterQ (fn := Try.f60) (fn_get Try.func60) (code := Try.f60.body.get rfl) rfl rfl rfl (by kernel_rfl) rfl (fun _ => rfl) hl w
theorem can60 : callable E 60 = true := callable_get Try.func60 rfl rfl
def c90 : C := (.seq (.ops [kO 4 (.mov (.const (.bool kF)))])
 (.seq (.ops [kO 5 (.mov (kT 0)),
 kO 6 (.mov (kT 1)),
 kO 7 (kA .shr (kT 5) (kT 6)),
 kO 8 (kA .and (kT 7) (kC 1)),
 kO 9 (kA .eql (kT 8) (kC 1)),
 kO 4 (.mov (kT 9))])
 .ret))
theorem enter90 (hl : xs.length ≤ 10) (w : wq E 10 none c90 (frameOf xs) h [] (leaveQ E [.tmp 4] Q)) : CallP E 90 xs h Q :=
  CallP.enterQ (fn := Try.f90) (fn_get Try.func90) (code := Try.f90.body.get rfl) rfl rfl rfl (by kernel_rfl) rfl (fun _ => rfl) hl w
theorem can90 : callable E 90 = true := callable_get Try.func90 rfl rfl
def c96 : C := (.seq (.ops [kO 2 (.box 83 (kT 0)),
 kO 4 (.mov (.const (.bool kF)))])
 (.seq (.ops [kO 5 (.mov (kT 1)),
 kO 6 (kA .geq (kT 5) (kC 0)),
 kO 7 (.mov (kT 6)),
 ⟨some 8,.mov (kT 1),(some (7,kE))⟩,
 ⟨some 9,.loadN 2 (kT 2),(some (7,kE))⟩,
 ⟨some 10,.call 113 [.tmp 9],(some (7,kE))⟩,
 ⟨some 11,kA .leq (kT 8) (kT 10),(some (7,kE))⟩,
 kO 12 (.pick (kT 7) (kT 11) (.const (.bool kF))),
 kO 4 (.mov (kT 12))])
 .ret))
theorem enter96 (hl : xs.length ≤ 13) (w : wq E 13 none c96 (frameOf xs) h [] (leaveQ E [.tmp 4] Q)) : CallP E 96 xs h Q :=
  CallP.enterQ (fn := Try.f96) (fn_get Try.func96) (code := Try.f96.body.get rfl) rfl rfl rfl (by kernel_rfl) rfl (fun _ => rfl) hl w
theorem can96 : callable E 96 = true := callable_get Try.func96 rfl rfl
def c97 : C := (.seq (.ops [kO 0 (.alloc 116 [kZ,kZ,kZ,kZ,kZ,kZ])])
 (.seq (.ops [kO 1 (.alloc 116 [kZ,kZ,kZ,kZ,kZ,kZ])])
 (.seq (.seq (.ops [kO 3 (.mov (kC 0))])
 (.block 0 (.loop (.seq (.ops [kO 4 (kA .lss (kT 3) (kC 6))])
 (.seq (.cond (kT 4) .skip
 (.exit 0))
 (.seq (.block 1 (.seq (.ops [kO 5 (.mov (kT 3)),
 kO 2 (.mov (kT 5))])
 (.ops [kO 6 (.mov (kT 2)),
 kO 7 (.mov (kT 2)),
 kO 8 (.idxA 6 1 (kT 1) (kT 6)),
 ⟨none,.store 1 (kT 8) (kT 7),none⟩])))
 (.ops [kO 9 (kA .add (kT 3) (kC 1)),
 kO 3 (.mov (kT 9))])))))))
 (.seq (.ops [kO 10 (.loadN 6 (kT 1)),
 ⟨none,.store 6 (kT 0) (kT 10),none⟩])
 .ret))))
theorem enter97 (hl : xs.length ≤ 11) (w : wq E 11 none c97 (frameOf xs) h [] (leaveQ E [.cell 0 116] Q)) : CallP E 97 xs h Q :=
  CallP.enterQ (fn := Try.f97) (fn_get Try.func97) (code := Try.f97.body.get rfl) rfl rfl rfl (by kernel_rfl) rfl (fun _ => rfl) hl w
theorem can97 : callable E 97 = true := callable_get Try.func97 rfl rfl
def c98 : C := (.seq (.ops [kO 1 (.box 3 (kT 0)),
 kO 2 (.mov (.const .nilFunc))])
 (.seq (.ops [kO 3 (.func (.func 120) [] [.tmp 1]),
 kO 2 (.mov (kT 3))])
 .ret))
theorem enter98 (hl : xs.length ≤ 4) (w : wq E 4 none c98 (frameOf xs) h [] (leaveQ E [.tmp 2] Q)) : CallP E 98 xs h Q :=
  CallP.enterQ (fn := Try.f98) (fn_get Try.func98) (code := Try.f98.body.get rfl) rfl rfl rfl (by kernel_rfl) rfl (fun _ => rfl) hl w
theorem can98 : callable E 98 = true := callable_get Try.func98 rfl rfl
def c99 : C := (.seq (.ops [kO 6 (.mov (.const (.bool kF)))])
 (.seq (.ops [kO 11 (.mov (kT 0)),
 kO 12 (.mov (kT 2)),
 kO 13 (.nilc (kT 11)),
 kO 14 (.idxA 6 1 (kT 13) (kT 12)),
 kO 15 (.load1 (kT 14)),
 kO 16 (.mov (kT 0)),
 kO 17 (.mov (kT 1)),
 kO 18 (.nilc (kT 16)),
 kO 19 (.idxA 6 1 (kT 18) (kT 17)),
 kO 20 (.load1 (kT 19)),
 kO 7 (.mov (kT 15)),
 kO 8 (.mov (kT 20))])
 (.seq (.seq (.ops [kO 21 (.mov (kT 7)),
 kO 22 (.mov (kT 8)),
 kO 23 (kA .eql (kT 21) (kT 22))])
 (.cond (kT 23) (.seq (.ops [kO 6 (.mov (.const (.bool kF)))])
 .ret)
 .skip))
 (.seq (.seq (.ops [kO 24 (.mov (kT 0)),
 kO 25 (.mov (kC 0))])
 (.block 0 (.loop (.seq (.ops [kO 26 (kA .lss (kT 25) (kC 6))])
 (.seq (.cond (kT 26) .skip
 (.exit 0))
 (.seq (.block 1 (.seq (.ops [kO 27 (.mov (kT 25)),
 kO 28 (.nilc (kT 24)),
 kO 29 (.idxA 6 1 (kT 28) (kT 25)),
 kO 30 (.load1 (kT 29)),
 kO 9 (.mov (kT 27)),
 kO 10 (.mov (kT 30))])
 (.seq (.ops [kO 31 (.mov (kT 10)),
 kO 32 (.mov (kT 7)),
 kO 33 (kA .eql (kT 31) (kT 32))])
 (.cond (kT 33) (.ops [kO 34 (.mov (kT 0)),
 kO 35 (.mov (kT 9)),
 kO 36 (.mov (kT 8)),
 kO 37 (.nilc (kT 34)),
 kO 38 (.idxA 6 1 (kT 37) (kT 35)),
 ⟨none,.store 1 (kT 38) (kT 36),none⟩])
 .skip))))
 (.ops [kO 39 (kA .add (kT 25) (kC 1)),
 kO 25 (.mov (kT 39))])))))))
 (.seq (.ops [kO 6 (.mov (.const (.bool kE)))])
 .ret)))))
theorem enter99 (hl : xs.length ≤ 40) (w : wq E 40 none c99 (frameOf xs) h [] (leaveQ E [.tmp 6] Q)) : CallP E 99 xs h Q :=
  CallP.enterQ (fn := Try.f99) (fn_get Try.func99) (code := Try.f99.body.get rfl) rfl rfl rfl (by kernel_rfl) rfl (fun _ => rfl) hl w
theorem can99 : callable E 99 = true := callable_get Try.func99 rfl rfl
def c100 : C := (.seq (.ops [kO 2 (.box 79 (kT 0)),
 kO 3 (.box 79 (kT 1)),
 kO 4 (.mov (kC 0))])
 (.seq (.ops [kO 5 (.cutA 2 1 (kT 2) none none none),
 kO 6 (.cutA 2 1 (kT 3) none none none),
 kO 7 (.call 121 [.tmp 5,.tmp 6]),
 kO 4 (.mov (kT 7))])
 .ret))
theorem enter100 (hl : xs.length ≤ 8) (w : wq E 8 none c100 (frameOf xs) h [] (leaveQ E [.tmp 4] Q)) : CallP E 100 xs h Q :=
  CallP.enterQ (fn := Try.f100) (fn_get Try.func100) (code := Try.f100.body.get rfl) rfl rfl rfl (by kernel_rfl) rfl (fun _ => rfl) hl w
theorem can100 : callable E 100 = true := callable_get Try.func100 rfl rfl
def c113 : C := (.seq (.ops [kO 1 (.box 83 (kT 0)),
 kO 2 (.mov (kC 0))])
 (.seq (.ops [kO 3 (.fldA 1 (kT 1)),
 kO 4 (.load1 (kT 3)),
 kO 5 (.lenS (kT 4)),
 kO 6 (kA .shl (kC 1) (kT 5)),
 kO 7 (kA .sub (kT 6) (kC 1)),
 kO 2 (.mov (kT 7))])
 .ret))
theorem enter113 (hl : xs.length ≤ 8) (w : wq E 8 none c113 (frameOf xs) h [] (leaveQ E [.tmp 2] Q)) : CallP E 113 xs h Q :=
  CallP.enterQ (fn := Try.f113) (fn_get Try.func113) (code := Try.f113.body.get rfl) rfl rfl rfl (by kernel_rfl) rfl (fun _ => rfl) hl w
theorem can113 : callable E 113 = true := callable_get Try.func113 rfl rfl
def c120 : C := (.seq (.ops [kO 3 (.mov (kC 0))])
 (.block 0 (.loop (.seq (.seq (.ops [kO 4 (.load1 (kT 1)),
 kO 5 (.mov (kT 3)),
 kO 6 (kA .shr (kT 4) (kT 5)),
 kO 7 (kA .gtr (kT 6) (kC 0))])
 (.cond (kT 7) .skip
 (.exit 0)))
 (.seq (.block 1 (.seq (.ops [kO 10 (.load1 (kT 1)),
 kO 11 (.mov (kT 3)),
 kO 12 (.call 90 [.tmp 10,.tmp 11]),
 kO 13 (.mov (kT 12)),
 ⟨some 14,.mov (kT 0),(some (13,kE))⟩,
 ⟨some 15,.mov (kT 3),(some (13,kE))⟩,
 ⟨some 16,.callv (kT 14) [.tmp 15],(some (13,kE))⟩,
 ⟨some 17,.not (kT 16),(some (13,kE))⟩,
 kO 18 (.pick (kT 13) (kT 17) (.const (.bool kF)))])
 (.cond (kT 18) .ret
 .skip)))
 (.ops [kO 8 (.mov (kT 3)),
 kO 9 (kA .add (kT 8) (kC 1)),
 kO 3 (.mov (kT 9))]))))))
theorem enter120 (hl : xs.length ≤ 19) (w : wq E 19 none c120 (frameOf xs) h [] (leaveQ E [] Q)) : CallP E 120 xs h Q :=
  CallP.enterQ (fn := Try.f120) (fn_get Try.func120) (code := Try.f120.body.get rfl) rfl rfl rfl (by kernel_rfl) rfl (fun _ => rfl) hl w
theorem can120 : callable E 120 = true := callable_get Try.func120 rfl rfl
def c121 : C := (.seq (.ops [kO 4 (.mov (kC 0))])
 (.seq (.seq (.ops [kO 9 (.mov (kT 0)),
 kO 10 (.lenS (kT 9)),
 kO 11 (.mov (kC 0))])
 (.block 0 (.loop (.seq (.ops [kO 12 (kA .lss (kT 11) (kT 10))])
 (.seq (.cond (kT 12) .skip
 (.exit 0))
 (.seq (.block 1 (.seq (.ops [kO 13 (.mov (kT 11)),
 kO 14 (.idxS 1 (kT 9) (kT 11)),
 kO 15 (.load1 (kT 14)),
 kO 5 (.mov (kT 13)),
 kO 6 (.mov (kT 15))])
 (.seq (.seq (.ops [kO 16 (.mov (kT 5)),
 kO 17 (.mov (kT 1)),
 kO 18 (.lenS (kT 17)),
 kO 19 (kA .geq (kT 16) (kT 18))])
 (.cond (kT 19) (.seq (.ops [kO 4 (.mov (kC 1))])
 .ret)
 .skip))
 (.seq (.ops [kO 20 (.mov (kT 1)),
 kO 21 (.mov (kT 5)),
 kO 22 (.idxS 1 (kT 20) (kT 21)),
 kO 23 (.load1 (kT 22)),
 kO 7 (.mov (kT 23))])
 (.seq (.ops [kO 24 (.mov (kT 6)),
 kO 25 (.mov (kT 7)),
 kO 26 (.call 133 [.tmp 24,.tmp 25]),
 kO 8 (.mov (kT 26))])
 (.seq (.ops [kO 27 (.mov (kT 8)),
 kO 28 (kA .neq (kT 27) (kC 0))])
 (.cond (kT 28) (.seq (.ops [kO 29 (.mov (kT 8)),
 kO 4 (.mov (kT 29))])
 .ret)
 .skip)))))))
 (.ops [kO 30 (kA .add (kT 11) (kC 1)),
 kO 11 (.mov (kT 30))])))))))
 (.seq (.seq (.ops [kO 31 (.mov (kT 0)),
 kO 32 (.lenS (kT 31)),
 kO 33 (.mov (kT 1)),
 kO 34 (.lenS (kT 33)),
 kO 35 (kA .lss (kT 32) (kT 34))])
 (.cond (kT 35) (.seq (.ops [kO 4 (.mov (.const (.int .i64 (-1))))])
 .ret)
 .skip))
 (.seq (.ops [kO 4 (.mov (kC 0))])
 .ret))))
theorem enter121 (hl : xs.length ≤ 36) (w : wq E 36 none c121 (frameOf xs) h [] (leaveQ E [.tmp 4] Q)) : CallP E 121 xs h Q :=
  CallP.enterQ (fn := Try.f121) (fn_get Try.func121) (code := Try.f121.body.get rfl) rfl rfl rfl (by kernel_rfl) rfl (fun _ => rfl) hl w
theorem can121 : callable E 121 = true := callable_get Try.func121 rfl rfl
def c133 : C := (.seq (.ops [kO 4 (.mov (kC 0))])
 (.seq (.ops [kO 7 (.mov (kT 0)),
 kO 8 (.call 145 [.tmp 7]),
 kO 5 (.mov (kT 8))])
 (.seq (.ops [kO 9 (.mov (kT 1)),
 kO 10 (.call 145 [.tmp 9]),
 kO 6 (.mov (kT 10))])
 (.seq (.seq (.ops [kO 11 (.mov (kT 5))])
 (.cond (kT 11) (.seq (.seq (.ops [kO 12 (.mov (kT 6))])
 (.cond (kT 12) (.seq (.ops [kO 4 (.mov (kC 0))])
 .ret)
 .skip))
 (.seq (.ops [kO 4 (.mov (.const (.int .i64 (-1))))])
 .ret))
 .skip))
 (.seq (.seq (.ops [kO 13 (.mov (kT 6))])
 (.cond (kT 13) (.seq (.ops [kO 4 (.mov (kC 1))])
 .ret)
 .skip))
 (.seq (.seq (.ops [kO 14 (.mov (kT 0)),
 kO 15 (.mov (kT 1)),
 kO 16 (kA .lss (kT 14) (kT 15))])
 (.cond (kT 16) (.seq (.ops [kO 4 (.mov (.const (.int .i64 (-1))))])
 .ret)
 .skip))
 (.seq (.seq (.ops [kO 17 (.mov (kT 0)),
 kO 18 (.mov (kT 1)),
 kO 19 (kA .gtr (kT 17) (kT 18))])
 (.cond (kT 19) (.seq (.ops [kO 4 (.mov (kC 1))])
 .ret)
 .skip))
 (.seq (.ops [kO 4 (.mov (kC 0))])
 .ret))))))))
theorem enter133 (hl : xs.length ≤ 20) (w : wq E 20 none c133 (frameOf xs) h [] (leaveQ E [.tmp 4] Q)) : CallP E 133 xs h Q :=
  CallP.enterQ (fn := Try.f133) (fn_get Try.func133) (code := Try.f133.body.get rfl) rfl rfl rfl (by kernel_rfl) rfl (fun _ => rfl) hl w
theorem can133 : callable E 133 = true := callable_get Try.func133 rfl rfl
def c145 : C := (.seq (.ops [kO 2 (.mov (.const (.bool kF)))])
 (.seq (.ops [kO 3 (.mov (kT 0)),
 kO 4 (.mov (kT 0)),
 kO 5 (kA .neq (kT 3) (kT 4)),
 kO 2 (.mov (kT 5))])
 .ret))
theorem enter145 (hl : xs.length ≤ 6) (w : wq E 6 none c145 (frameOf xs) h [] (leaveQ E [.tmp 2] Q)) : CallP E 145 xs h Q :=
  CallP.enterQ (fn := Try.f145) (fn_get Try.func145) (code := Try.f145.body.get rfl) rfl rfl rfl (by kernel_rfl) rfl (fun _ => rfl) hl w
theorem can145 : callable E 145 = true := callable_get Try.func145 rfl rfl
end
end Go.Proofs.Ythgjnkdealdmoaa
