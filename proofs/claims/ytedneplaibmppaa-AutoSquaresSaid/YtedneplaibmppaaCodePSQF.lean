/- The code of the functions that PSQF comes to. -/
import Derived.Test.YtedneplaibmppaaTypesC
set_option maxRecDepth 100000
set_option linter.unusedSectionVars false
set_option linter.unusedVariables false
namespace Go.Proofs.Ytedneplaibmppaa
open Go.Rx Go.RowKit
noncomputable section
abbrev fL0:List Bool:=[false,false,false,false,true,false,true,false,false,false,false,false,false,false,false,false,false,false,false,false,false,false,false,false,false,false,false]
abbrev fL1:List Bool:=[false,false,false,false,false,false,false,false,false,false,false,false,false,false,false,false,false,false,false,false,false,false,false]
abbrev fL2:List Bool:=[false,false,false,false,false,false,false,false,false,false,false,false]
abbrev fL3:List Bool:=[false,false,false,false,false,false,false,false]
abbrev fL4:List Bool:=[false,false,false,false,false,false,false,false,false,false,false,false,false,false,false,false,false,false,false,true,false]
abbrev fL5:List Bool:=[false,false,false,false,false,false,false,false,false,false,false,false,false,false,false,false,false,false,false,false,false]
abbrev fL6:List Bool:=[false,false,false,false,false,false,false,false,false,false,false,false,false,false,false,false,false]
abbrev fL7:List Bool:=[false,false,false,false,false,false,false,false,false,false,false,false,false,false,false]
abbrev fL8:List Bool:=[false,false,false,false,false,false,false,false,false,false,false,false,false,false,false,false,true,false]
abbrev fL9:List Bool:=[false,false,false,false,false,false,false,false,false,false,false,false,false,false,false,false,false,false]
abbrev fL10:List Bool:=[false,false,false,false,false,false,false,false,false,false,false,false,false]
abbrev fL11:List Bool:=[false,false,false,false,true,false,false,false]
abbrev fL12:List Bool:=[false,false,false,false,false,false,false,true,true,false,false,false]
abbrev fL13:List Bool:=[false,false,false,false,false,false,false,true,true,true,false,false]
abbrev fL14:List Bool:=[false,false,true,false,false,false,false,true,true,false,false,false,false,false]
abbrev fL15:List Bool:=[false,false,false,false,false,false,false,false,false,false,false,false,false,false,false,false,false,false,false,false,false,false,false,false,false,false,false]
abbrev fL16:List Bool:=[false,false,false,false,false,true,false,false,false,false,false,false,false,false,false,false,false]
abbrev fL17:List Bool:=[false,false,false,false,false,false,false,false,false,false,false,false,false,false]
abbrev fL18:List Bool:=[false,false,false,false,false,false,true,false,false,false,false,false,false,false,false]
abbrev fL19:List Bool:=[false,false,true,false,false,false,false,false]
abbrev fL20:List Bool:=[false,false,false,false,false,false,false,true,false,false,false,false]
abbrev fL21:List Bool:=[false,false,true,false,false,false,false,false,false,false,false,false,false,false]
abbrev fL22:List Bool:=[false,false,false,false,false,true,false,false,false,false,false,false,false]
abbrev fL23:List Bool:=[false,false,false,false,false,false]
abbrev fL24:List Bool:=[false,false,false,false,false,false,false,false,false]
abbrev fL25:List Bool:=[false,false,false,true,true,false,true,false,false]
abbrev fL26:List Bool:=[false,false,false,false,false,false,true,false,false,false,false,false,true,false,false]
abbrev fL27:List Bool:=[false,false,false,false,false,true,false,false,false,false,true,false,false]
abbrev fL28:List Bool:=[false,false,false,true,false,false,false,false,false]
abbrev fL29:List Bool:=[false,false,false,true,true,false,false,false,false]
abbrev fL30:List Bool:=[false,false,false,false,false,true,false,false,false,false,false,false,false,false,true,false,false]
abbrev fL31:List Bool:=[false,false,true,false,false,false]
abbrev fL32:List Bool:=[false,false,true,true,false,false]
abbrev fL33:List Bool:=[false,false,false,false,true,false,false,false,false,false,false,false,false,false,false,false,false,false,false,false,false,false,false,false,false,false,false]
abbrev fL34:List Bool:=[false,false,false,false,false,false,false,false,false,false,false,false,false,false,false,false,false,false,false,false,true,false,false]
abbrev fL35:List Bool:=[false,false,false,false,false,false,false,false,false,false,false,false,false,false,false,false,false,false,false,false,true,true,false]
abbrev fL36:List Bool:=[false,false,false,false,false,false,false,true,true,true,false,true]
abbrev fL37:List Bool:=[false,false,false,false,true,false,false,true]
abbrev fL38:List Bool:=[false,false,false,false,false,false,true,false]
abbrev fL39:List Bool:=[false,false,true,false,false,false,false,true,false,false,false,false,false,false]
abbrev fL40:List Bool:=[false,false,true,false,false,false,true,false]
abbrev kO (d:Nat) (t:TOp):G:=⟨some d,t,none⟩
abbrev kT:=Operand.tmp
variable [Unknowns]
def c9 : C := (.seq (.ops [kO 2 (.box 25 (kT 0)),
 kO 4 (.mov (.const (.bool false)))])
 (.seq (.ahead [kO 8 (.loadN 3 (kT 2)),
 kO 9 (.mov (kT 1)),
 kO 10 (.call 38 [.tmp 9]),
 kO 11 (.call 37 [.tmp 8,.tmp 10,(.const (.int .i64 12))]),
 kO 5 (.alloc 26 [.int .i64 0,.slice none 0 0,.slice none 0 0]),
 ⟨none,.store 3 (kT 5) (kT 11),none⟩]
 [⟨false,true,fL23,fL31⟩,
 ⟨false,false,fL23,fL23⟩,
 ⟨true,false,fL23,fL31⟩,
 ⟨true,false,fL31,fL32⟩,
 ⟨false,true,fL23,fL32⟩,
 ⟨true,false,fL32,[false,false,true,true,false,true]⟩]
 [false,false,false,false,true,false])
 (.seq (.ops [kO 13 (.loadN 3 (kT 5)),
 kO 14 (.call 18 [.tmp 13]),
 kO 15 (.call 31 [.tmp 14]),
 kO 12 (.mov (kT 15)),
 kO 16 (.ext (kT 12) 0),
 kO 17 (.ext (kT 12) 1),
 kO 6 (.alloc 25 [.int .i64 0,.slice none 0 0,.slice none 0 0]),
 ⟨none,.store 3 (kT 6) (kT 16),none⟩,
 kO 7 (.mov (kT 17))])
 (.seq (.seq (.ops [kO 18 (.fldA 0 (kT 5)),
 kO 19 (.load1 (kT 18)),
 kO 20 (.ar .i64 .neq (kT 19) (.const (.int .i64 2)))])
 (.cond (kT 20) (.seq (.ops [kO 21 (.mov (kT 7)),
 kO 22 (.ar .i64 .eql (kT 21) (.const (.int .i64 1))),
 kO 23 (.mov (kT 22)),
 ⟨some 24,.loadN 3 (kT 6),(some (23,true))⟩,
 ⟨some 25,.call 36 [.tmp 24],(some (23,true))⟩,
 kO 26 (.pick (kT 23) (kT 25) (.const (.bool false))),
 kO 27 (.mov (kT 26)),
 ⟨some 28,.call 21 [],(some (27,true))⟩,
 kO 29 (.pick (kT 27) (kT 28) (.const (.bool false))),
 kO 4 (.mov (kT 29))])
 .ret)
 .skip))
 (.seq (.draw [kO 30 (.loadN 3 (kT 6)),
 kO 31 (.mov (kT 7)),
 kO 32 (.loadN 3 (kT 5)),
 kO 33 (.call 48 [.tmp 32]),
 kO 34 (.call 43 [.tmp 30,.tmp 31,.tmp 33]),
 kO 35 (.mov (kT 34)),
 ⟨some 36,.call 21 [],(some (35,true))⟩,
 kO 37 (.pick (kT 35) (kT 36) (.const (.bool false))),
 kO 4 (.mov (kT 37))]
 [⟨false,true,fL24,fL28⟩,
 ⟨false,true,fL24,fL28⟩,
 ⟨false,false,fL24,fL24⟩,
 ⟨true,false,fL24,fL28⟩,
 ⟨true,false,fL28,fL29⟩,
 ⟨false,false,fL29,fL29⟩,
 ⟨true,false,fL29,fL25⟩,
 ⟨false,false,fL25,fL25⟩,
 ⟨false,false,fL25,fL25⟩])
 .ret)))))
theorem enter9 {xs : List Value} {h : Hp} {Q : Value → Hp → Prop} (hl : xs.length ≤ 38) (w : wq E 38 none c9 (frameOf xs) h [] (leaveQ E [.tmp 4] Q)) : CallP E 9 xs h Q :=
  CallP.enterQ (fn := Try.f9) (fn_get Try.func9) (code := Try.f9.body.get rfl) rfl rfl rfl (by kernel_rfl) rfl (fun _ => rfl) hl w
theorem can9 : callable E 9 = true := callable_get Try.func9 rfl rfl
def c17 : C := (.seq (.ops [kO 1 (.box 25 (kT 0)),
 kO 2 (.alloc 26 [.int .i64 0,.slice none 0 0,.slice none 0 0])])
 (.seq (.ahead [kO 6 (.fldA 0 (kT 1)),
 kO 7 (.load1 (kT 6)),
 kO 8 (.fldA 1 (kT 1)),
 kO 9 (.load1 (kT 8)),
 kO 10 (.call 49 [.tmp 9,(.const (.int .i64 13))]),
 kO 11 (.aggr [.int .i64 0,.slice none 0 0,.slice none 0 0] [(0,1,(kT 7)),(1,1,(kT 10))]),
 kO 3 (.alloc 26 [.int .i64 0,.slice none 0 0,.slice none 0 0]),
 ⟨none,.store 3 (kT 3) (kT 11),none⟩]
 [⟨false,true,fL3,fL11⟩,
 ⟨false,true,fL3,fL11⟩,
 ⟨false,false,fL3,fL3⟩,
 ⟨false,false,fL3,fL3⟩,
 ⟨true,false,fL3,fL11⟩,
 ⟨false,false,fL11,fL11⟩,
 ⟨false,true,fL3,fL11⟩,
 ⟨true,false,fL11,fL37⟩]
 fL38)
 (.seq (.seq (.ops [kO 4 (.mov (.const (.int .i64 0)))])
 (.block 0 (.loop (.seq (.seq (.ops [kO 12 (.mov (kT 4)),
 kO 13 (.fldA 2 (kT 1)),
 kO 14 (.load1 (kT 13)),
 kO 15 (.lenS (kT 14)),
 kO 16 (.ar .i64 .lss (kT 12) (kT 15)),
 kO 17 (.mov (kT 16)),
 ⟨some 18,.mov (kT 4),(some (17,true))⟩,
 ⟨some 19,.ar .i64 .leq (kT 18) (.const (.int .i64 12)),(some (17,true))⟩,
 kO 20 (.pick (kT 17) (kT 19) (.const (.bool false)))])
 (.cond (kT 20) .skip
 (.exit 0)))
 (.seq (.block 1 (.seq (.ops [kO 23 (.fldA 2 (kT 3)),
 kO 24 (.load1 (kT 23)),
 kO 5 (.mov (kT 24))])
 (.ops [kO 25 (.mov (kT 5)),
 kO 26 (.fldA 2 (kT 1)),
 kO 27 (.load1 (kT 26)),
 kO 28 (.mov (kT 4)),
 kO 29 (.idxS 1 (kT 27) (kT 28)),
 kO 30 (.load1 (kT 29)),
 kO 31 (.call 49 [.tmp 30,(.const (.int .i64 26))]),
 kO 32 (.slit 22 1 [.slice none 0 0] [(0,1,(kT 31))]),
 kO 33 (.append 22 1 24 (kT 25) (kT 32)),
 kO 34 (.fldA 2 (kT 3)),
 ⟨none,.store 1 (kT 34) (kT 33),none⟩])))
 (.ops [kO 21 (.mov (kT 4)),
 kO 22 (.ar .i64 .add (kT 21) (.const (.int .i64 1))),
 kO 4 (.mov (kT 22))]))))))
 (.seq (.ops [kO 35 (.loadN 3 (kT 3)),
 ⟨none,.store 3 (kT 2) (kT 35),none⟩])
 .ret))))
theorem enter17 {xs : List Value} {h : Hp} {Q : Value → Hp → Prop} (hl : xs.length ≤ 36) (w : wq E 36 none c17 (frameOf xs) h [] (leaveQ E [.cell 2 26] Q)) : CallP E 17 xs h Q :=
  CallP.enterQ (fn := Try.f17) (fn_get Try.func17) (code := Try.f17.body.get rfl) rfl rfl rfl (by kernel_rfl) rfl (fun _ => rfl) hl w
theorem can17 : callable E 17 = true := callable_get Try.func17 rfl rfl
def c18 : C := (.seq (.ops [kO 1 (.box 26 (kT 0)),
 kO 2 (.alloc 25 [.int .i64 0,.slice none 0 0,.slice none 0 0])])
 (.seq (.ahead [kO 6 (.fldA 0 (kT 1)),
 kO 7 (.load1 (kT 6)),
 kO 8 (.fldA 1 (kT 1)),
 kO 9 (.load1 (kT 8)),
 kO 10 (.call 49 [.tmp 9,(.const (.int .i64 13))]),
 kO 11 (.aggr [.int .i64 0,.slice none 0 0,.slice none 0 0] [(0,1,(kT 7)),(1,1,(kT 10))]),
 kO 3 (.alloc 25 [.int .i64 0,.slice none 0 0,.slice none 0 0]),
 ⟨none,.store 3 (kT 3) (kT 11),none⟩]
 [⟨false,true,fL3,fL11⟩,
 ⟨false,true,fL3,fL11⟩,
 ⟨false,false,fL3,fL3⟩,
 ⟨false,false,fL3,fL3⟩,
 ⟨true,false,fL3,fL11⟩,
 ⟨false,false,fL11,fL11⟩,
 ⟨false,true,fL3,fL11⟩,
 ⟨true,false,fL11,fL37⟩]
 fL38)
 (.seq (.seq (.ops [kO 4 (.mov (.const (.int .i64 0)))])
 (.block 0 (.loop (.seq (.seq (.ops [kO 12 (.mov (kT 4)),
 kO 13 (.fldA 2 (kT 1)),
 kO 14 (.load1 (kT 13)),
 kO 15 (.lenS (kT 14)),
 kO 16 (.ar .i64 .lss (kT 12) (kT 15)),
 kO 17 (.mov (kT 16)),
 ⟨some 18,.mov (kT 4),(some (17,true))⟩,
 ⟨some 19,.ar .i64 .leq (kT 18) (.const (.int .i64 12)),(some (17,true))⟩,
 kO 20 (.pick (kT 17) (kT 19) (.const (.bool false)))])
 (.cond (kT 20) .skip
 (.exit 0)))
 (.seq (.block 1 (.seq (.ops [kO 23 (.fldA 2 (kT 3)),
 kO 24 (.load1 (kT 23)),
 kO 5 (.mov (kT 24))])
 (.ops [kO 25 (.mov (kT 5)),
 kO 26 (.fldA 2 (kT 1)),
 kO 27 (.load1 (kT 26)),
 kO 28 (.mov (kT 4)),
 kO 29 (.idxS 1 (kT 27) (kT 28)),
 kO 30 (.load1 (kT 29)),
 kO 31 (.call 49 [.tmp 30,(.const (.int .i64 26))]),
 kO 32 (.slit 22 1 [.slice none 0 0] [(0,1,(kT 31))]),
 kO 33 (.append 22 1 24 (kT 25) (kT 32)),
 kO 34 (.fldA 2 (kT 3)),
 ⟨none,.store 1 (kT 34) (kT 33),none⟩])))
 (.ops [kO 21 (.mov (kT 4)),
 kO 22 (.ar .i64 .add (kT 21) (.const (.int .i64 1))),
 kO 4 (.mov (kT 22))]))))))
 (.seq (.ops [kO 35 (.loadN 3 (kT 3)),
 ⟨none,.store 3 (kT 2) (kT 35),none⟩])
 .ret))))
theorem enter18 {xs : List Value} {h : Hp} {Q : Value → Hp → Prop} (hl : xs.length ≤ 36) (w : wq E 36 none c18 (frameOf xs) h [] (leaveQ E [.cell 2 25] Q)) : CallP E 18 xs h Q :=
  CallP.enterQ (fn := Try.f18) (fn_get Try.func18) (code := Try.f18.body.get rfl) rfl rfl rfl (by kernel_rfl) rfl (fun _ => rfl) hl w
theorem can18 : callable E 18 = true := callable_get Try.func18 rfl rfl
def c20 : C := (.seq (.ops [kO 1 (.box 25 (kT 0)),
 kO 2 (.mov (.const (.int .i64 0)))])
 (.seq (.ops [kO 7 (.fldA 1 (kT 1)),
 kO 8 (.load1 (kT 7)),
 kO 9 (.lenS (kT 8)),
 kO 3 (.alloc 3 [.int .i64 0]),
 ⟨none,.store 1 (kT 3) (kT 9),none⟩])
 (.seq (.seq (.ops [kO 10 (.fldA 0 (kT 1)),
 kO 11 (.load1 (kT 10)),
 kO 12 (.ar .i64 .lss (kT 11) (.const (.int .i64 2))),
 kO 13 (.mov (kT 12)),
 ⟨some 14,.fldA 0 (kT 1),(some (13,false))⟩,
 ⟨some 15,.load1 (kT 14),(some (13,false))⟩,
 ⟨some 16,.ar .i64 .gtr (kT 15) (.const (.int .i64 5)),(some (13,false))⟩,
 kO 17 (.pick (kT 13) (.const (.bool true)) (kT 16)),
 kO 18 (.mov (kT 17)),
 ⟨some 19,.load1 (kT 3),(some (18,false))⟩,
 ⟨some 20,.ar .i64 .lss (kT 19) (.const (.int .i64 1)),(some (18,false))⟩,
 kO 21 (.pick (kT 18) (.const (.bool true)) (kT 20)),
 kO 22 (.mov (kT 21)),
 ⟨some 23,.load1 (kT 3),(some (22,false))⟩,
 ⟨some 24,.ar .i64 .gtr (kT 23) (.const (.int .i64 12)),(some (22,false))⟩,
 kO 25 (.pick (kT 22) (.const (.bool true)) (kT 24)),
 kO 26 (.mov (kT 25)),
 ⟨some 27,.fldA 1 (kT 1),(some (26,false))⟩,
 ⟨some 28,.load1 (kT 27),(some (26,false))⟩,
 ⟨some 29,.call 57 [.tmp 28],(some (26,false))⟩,
 ⟨some 30,.not (kT 29),(some (26,false))⟩,
 kO 31 (.pick (kT 26) (.const (.bool true)) (kT 30)),
 kO 32 (.mov (kT 31)),
 ⟨some 33,.fldA 2 (kT 1),(some (32,false))⟩,
 ⟨some 34,.load1 (kT 33),(some (32,false))⟩,
 ⟨some 35,.lenS (kT 34),(some (32,false))⟩,
 ⟨some 36,.load1 (kT 3),(some (32,false))⟩,
 ⟨some 37,.ar .i64 .neq (kT 35) (kT 36),(some (32,false))⟩,
 kO 38 (.pick (kT 32) (.const (.bool true)) (kT 37))])
 (.cond (kT 38) (.seq (.ops [kO 2 (.mov (.const (.int .i64 50)))])
 .ret)
 .skip))
 (.seq (.ops [kO 39 (.func (.func 58) [] [.tmp 3]),
 kO 4 (.mov (kT 39))])
 (.seq (.seq (.ops [kO 40 (.fldA 2 (kT 1)),
 kO 41 (.load1 (kT 40)),
 kO 42 (.lenS (kT 41)),
 kO 43 (.mov (.const (.int .i64 0)))])
 (.block 0 (.loop (.seq (.ops [kO 44 (.ar .i64 .lss (kT 43) (kT 42))])
 (.seq (.cond (kT 44) .skip
 (.exit 0))
 (.seq (.block 1 (.seq (.ops [kO 45 (.mov (kT 43)),
 kO 46 (.idxS 1 (kT 41) (kT 43)),
 kO 47 (.load1 (kT 46)),
 kO 5 (.mov (kT 45)),
 kO 6 (.mov (kT 47))])
 (.seq (.ops [kO 48 (.mov (kT 6)),
 kO 49 (.lenS (kT 48)),
 kO 50 (.fldA 0 (kT 1)),
 kO 51 (.load1 (kT 50)),
 kO 52 (.ar .i64 .neq (kT 49) (kT 51)),
 kO 53 (.mov (kT 52)),
 ⟨some 54,.mov (kT 6),(some (53,false))⟩,
 ⟨some 55,.mov (kT 4),(some (53,false))⟩,
 ⟨some 56,.call 59 [.tmp 54,.tmp 55],(some (53,false))⟩,
 kO 57 (.pick (kT 53) (.const (.bool true)) (kT 56)),
 kO 58 (.mov (kT 57)),
 ⟨some 59,.fldA 1 (kT 1),(some (58,false))⟩,
 ⟨some 60,.load1 (kT 59),(some (58,false))⟩,
 ⟨some 61,.mov (kT 6),(some (58,false))⟩,
 ⟨some 62,.idxS 1 (kT 61) (.const (.int .i64 0)),(some (58,false))⟩,
 ⟨some 63,.load1 (kT 62),(some (58,false))⟩,
 ⟨some 64,.idxS 1 (kT 60) (kT 63),(some (58,false))⟩,
 ⟨some 65,.load1 (kT 64),(some (58,false))⟩,
 ⟨some 66,.fldA 1 (kT 1),(some (58,false))⟩,
 ⟨some 67,.load1 (kT 66),(some (58,false))⟩,
 ⟨some 68,.mov (kT 5),(some (58,false))⟩,
 ⟨some 69,.idxS 1 (kT 67) (kT 68),(some (58,false))⟩,
 ⟨some 70,.load1 (kT 69),(some (58,false))⟩,
 ⟨some 71,.ar .i64 .neq (kT 65) (kT 70),(some (58,false))⟩,
 kO 72 (.pick (kT 58) (.const (.bool true)) (kT 71))])
 (.cond (kT 72) (.seq (.ops [kO 2 (.mov (.const (.int .i64 50)))])
 .ret)
 .skip))))
 (.ops [kO 73 (.ar .i64 .add (kT 43) (.const (.int .i64 1))),
 kO 43 (.mov (kT 73))])))))))
 (.seq (.ops [kO 2 (.mov (.const (.int .i64 0)))])
 .ret))))))
theorem enter20 {xs : List Value} {h : Hp} {Q : Value → Hp → Prop} (hl : xs.length ≤ 74) (w : wq E 74 none c20 (frameOf xs) h [] (leaveQ E [.tmp 2] Q)) : CallP E 20 xs h Q :=
  CallP.enterQ (fn := Try.f20) (fn_get Try.func20) (code := Try.f20.body.get rfl) rfl rfl rfl (by kernel_rfl) rfl (fun _ => rfl) hl w
theorem can20 : callable E 20 = true := callable_get Try.func20 rfl rfl
def c21 : C := (.seq (.ops [kO 0 (.mov (.const (.bool false)))])
 (.seq (.ops [kO 15 (.call 22 []),
 kO 1 (.alloc 25 [.int .i64 0,.slice none 0 0,.slice none 0 0]),
 ⟨none,.store 3 (kT 1) (kT 15),none⟩])
 (.seq (.ops [kO 17 (.loadN 3 (kT 1)),
 kO 18 (.call 24 [.tmp 17,(.const (.int .i64 8))]),
 kO 16 (.mov (kT 18)),
 kO 19 (.ext (kT 16) 0),
 kO 20 (.ext (kT 16) 1),
 kO 2 (.mov (kT 19)),
 kO 3 (.mov (kT 20))])
 (.seq (.ops [kO 22 (.slit 3 2 [.int .i64 0,.int .i64 0] [(0,1,(.const (.int .i64 0))),(1,1,(.const (.int .i64 1)))]),
 kO 23 (.call 50 [(.const (.int .i64 2)),(.const (.slice none 0 0)),.tmp 22]),
 kO 21 (.mov (kT 23)),
 kO 24 (.ext (kT 21) 0),
 kO 25 (.ext (kT 21) 1),
 kO 4 (.alloc 25 [.int .i64 0,.slice none 0 0,.slice none 0 0]),
 ⟨none,.store 3 (kT 4) (kT 24),none⟩,
 kO 5 (.mov (kT 25))])
 (.seq (.ops [kO 27 (.loadN 3 (kT 1)),
 kO 28 (.call 28 [.tmp 27,(.const (.int .i64 2)),(.const (.int .i64 0))]),
 kO 26 (.mov (kT 28)),
 kO 29 (.ext (kT 26) 0),
 kO 30 (.ext (kT 26) 1),
 kO 6 (.alloc 25 [.int .i64 0,.slice none 0 0,.slice none 0 0]),
 ⟨none,.store 3 (kT 6) (kT 29),none⟩,
 kO 7 (.mov (kT 30))])
 (.seq (.ops [kO 32 (.loadN 3 (kT 1)),
 kO 33 (.call 35 [.tmp 32,(.const (.int .i64 1))]),
 kO 31 (.mov (kT 33)),
 kO 34 (.ext (kT 31) 0),
 kO 35 (.ext (kT 31) 1),
 kO 36 (.ext (kT 31) 2),
 kO 8 (.mov (kT 34)),
 kO 9 (.mov (kT 35)),
 kO 10 (.mov (kT 36))])
 (.seq (.ops [kO 38 (.loadN 3 (kT 4)),
 kO 39 (.call 33 [.tmp 38]),
 kO 37 (.mov (kT 39)),
 kO 40 (.ext (kT 37) 0),
 kO 41 (.ext (kT 37) 1),
 kO 42 (.ext (kT 37) 2),
 kO 43 (.ext (kT 37) 3),
 kO 11 (.mov (kT 40)),
 kO 12 (.mov (kT 41)),
 kO 13 (.mov (kT 42)),
 kO 14 (.mov (kT 43))])
 (.seq (.ops [kO 44 (.loadN 3 (kT 1)),
 kO 45 (.call 17 [.tmp 44]),
 kO 46 (.call 60 []),
 kO 47 (.call 41 [.tmp 45,.tmp 46]),
 kO 48 (.mov (kT 47)),
 ⟨some 49,.mov (kT 3),(some (48,true))⟩,
 ⟨some 50,.ar .i64 .eql (kT 49) (.const (.int .i64 0)),(some (48,true))⟩,
 kO 51 (.pick (kT 48) (kT 50) (.const (.bool false))),
 kO 52 (.mov (kT 51)),
 ⟨some 53,.mov (kT 2),(some (52,true))⟩,
 ⟨some 54,.slit 3 8 [.int .i64 0,.int .i64 0,.int .i64 0,.int .i64 0,.int .i64 0,.int .i64 0,.int .i64 0,.int .i64 0] [(0,1,(.const (.int .i64 0))),(1,1,(.const (.int .i64 1))),(2,1,(.const (.int .i64 1))),(3,1,(.const (.int .i64 0))),(4,1,(.const (.int .i64 1))),(5,1,(.const (.int .i64 0))),(6,1,(.const (.int .i64 0))),(7,1,(.const (.int .i64 1)))],(some (52,true))⟩,
 ⟨some 55,.call 61 [.tmp 53,.tmp 54],(some (52,true))⟩,
 kO 56 (.pick (kT 52) (kT 55) (.const (.bool false))),
 kO 57 (.mov (kT 56)),
 ⟨some 58,.mov (kT 5),(some (57,true))⟩,
 ⟨some 59,.ar .i64 .eql (kT 58) (.const (.int .i64 0)),(some (57,true))⟩,
 kO 60 (.pick (kT 57) (kT 59) (.const (.bool false))),
 kO 61 (.mov (kT 60)),
 ⟨some 62,.loadN 3 (kT 4),(some (61,true))⟩,
 ⟨some 63,.call 17 [.tmp 62],(some (61,true))⟩,
 ⟨some 64,.slit 3 3 [.int .i64 0,.int .i64 0,.int .i64 0] [(0,1,(.const (.int .i64 0))),(1,1,(.const (.int .i64 0))),(2,1,(.const (.int .i64 1)))],(some (61,true))⟩,
 ⟨some 65,.slit 3 2 [.int .i64 0,.int .i64 0] [(0,1,(.const (.int .i64 1))),(1,1,(.const (.int .i64 2)))],(some (61,true))⟩,
 ⟨some 66,.slit 3 2 [.int .i64 0,.int .i64 0] [(0,1,(.const (.int .i64 1))),(1,1,(.const (.int .i64 1)))],(some (61,true))⟩,
 ⟨some 67,.slit 3 2 [.int .i64 0,.int .i64 0] [(0,1,(.const (.int .i64 2))),(1,1,(.const (.int .i64 2)))],(some (61,true))⟩,
 ⟨some 68,.slit 22 3 [.slice none 0 0,.slice none 0 0,.slice none 0 0] [(0,1,(kT 65)),(1,1,(kT 66)),(2,1,(kT 67))],(some (61,true))⟩,
 ⟨some 69,.aggr [.int .i64 0,.slice none 0 0,.slice none 0 0] [(0,1,(.const (.int .i64 2))),(1,1,(kT 64)),(2,1,(kT 68))],(some (61,true))⟩,
 ⟨some 70,.call 41 [.tmp 63,.tmp 69],(some (61,true))⟩,
 kO 71 (.pick (kT 61) (kT 70) (.const (.bool false))),
 kO 72 (.mov (kT 71)),
 ⟨some 73,.mov (kT 7),(some (72,true))⟩,
 ⟨some 74,.ar .i64 .eql (kT 73) (.const (.int .i64 0)),(some (72,true))⟩,
 kO 75 (.pick (kT 72) (kT 74) (.const (.bool false))),
 kO 76 (.mov (kT 75)),
 ⟨some 77,.loadN 3 (kT 6),(some (76,true))⟩,
 ⟨some 78,.call 17 [.tmp 77],(some (76,true))⟩,
 ⟨some 79,.call 60 [],(some (76,true))⟩,
 ⟨some 80,.call 41 [.tmp 78,.tmp 79],(some (76,true))⟩,
 kO 81 (.pick (kT 76) (kT 80) (.const (.bool false))),
 kO 82 (.mov (kT 81)),
 ⟨some 83,.mov (kT 10),(some (82,true))⟩,
 ⟨some 84,.ar .i64 .eql (kT 83) (.const (.int .i64 0)),(some (82,true))⟩,
 kO 85 (.pick (kT 82) (kT 84) (.const (.bool false))),
 kO 86 (.mov (kT 85)),
 ⟨some 87,.mov (kT 9),(some (86,true))⟩,
 kO 88 (.pick (kT 86) (kT 87) (.const (.bool false))),
 kO 89 (.mov (kT 88)),
 ⟨some 90,.mov (kT 8),(some (89,true))⟩,
 ⟨some 91,.ar .i64 .eql (kT 90) (.const (.int .i64 1)),(some (89,true))⟩,
 kO 92 (.pick (kT 89) (kT 91) (.const (.bool false))),
 kO 93 (.mov (kT 92)),
 ⟨some 94,.mov (kT 14),(some (93,true))⟩,
 ⟨some 95,.ar .i64 .eql (kT 94) (.const (.int .i64 0)),(some (93,true))⟩,
 kO 96 (.pick (kT 93) (kT 95) (.const (.bool false))),
 kO 97 (.mov (kT 96)),
 ⟨some 98,.mov (kT 13),(some (97,true))⟩,
 kO 99 (.pick (kT 97) (kT 98) (.const (.bool false))),
 kO 100 (.mov (kT 99)),
 ⟨some 101,.mov (kT 11),(some (100,true))⟩,
 ⟨some 102,.ar .i64 .eql (kT 101) (.const (.int .i64 0)),(some (100,true))⟩,
 kO 103 (.pick (kT 100) (kT 102) (.const (.bool false))),
 kO 104 (.mov (kT 103)),
 ⟨some 105,.mov (kT 12),(some (104,true))⟩,
 ⟨some 106,.ar .i64 .eql (kT 105) (.const (.int .i64 2)),(some (104,true))⟩,
 kO 107 (.pick (kT 104) (kT 106) (.const (.bool false))),
 kO 108 (.mov (kT 107)),
 ⟨some 109,.aggr [.int .i64 0,.slice none 0 0,.slice none 0 0] [],(some (108,true))⟩,
 ⟨some 110,.call 20 [.tmp 109],(some (108,true))⟩,
 ⟨some 111,.ar .i64 .eql (kT 110) (.const (.int .i64 50)),(some (108,true))⟩,
 kO 112 (.pick (kT 108) (kT 111) (.const (.bool false))),
 kO 0 (.mov (kT 112))])
 .ret))))))))
theorem enter21 {xs : List Value} {h : Hp} {Q : Value → Hp → Prop} (hl : xs.length ≤ 113) (w : wq E 113 none c21 (frameOf xs) h [] (leaveQ E [.tmp 0] Q)) : CallP E 21 xs h Q :=
  CallP.enterQ (fn := Try.f21) (fn_get Try.func21) (code := Try.f21.body.get rfl) rfl rfl rfl (by kernel_rfl) rfl (fun _ => rfl) hl w
theorem can21 : callable E 21 = true := callable_get Try.func21 rfl rfl
def c22 : C := (.seq (.ops [kO 0 (.alloc 25 [.int .i64 0,.slice none 0 0,.slice none 0 0])])
 (.seq (.ops [kO 1 (.slit 3 2 [.int .i64 0,.int .i64 0] [(0,1,(.const (.int .i64 0))),(1,1,(.const (.int .i64 1)))]),
 kO 2 (.slit 3 2 [.int .i64 0,.int .i64 0] [(0,1,(.const (.int .i64 0))),(1,1,(.const (.int .i64 1)))]),
 kO 3 (.slit 3 2 [.int .i64 0,.int .i64 0] [(0,1,(.const (.int .i64 1))),(1,1,(.const (.int .i64 0)))]),
 kO 4 (.slit 22 2 [.slice none 0 0,.slice none 0 0] [(0,1,(kT 2)),(1,1,(kT 3))]),
 kO 5 (.aggr [.int .i64 0,.slice none 0 0,.slice none 0 0] [(0,1,(.const (.int .i64 2))),(1,1,(kT 1)),(2,1,(kT 4))]),
 ⟨none,.store 3 (kT 0) (kT 5),none⟩])
 .ret))
theorem enter22 {xs : List Value} {h : Hp} {Q : Value → Hp → Prop} (hl : xs.length ≤ 6) (w : wq E 6 none c22 (frameOf xs) h [] (leaveQ E [.cell 0 25] Q)) : CallP E 22 xs h Q :=
  CallP.enterQ (fn := Try.f22) (fn_get Try.func22) (code := Try.f22.body.get rfl) rfl rfl rfl (by kernel_rfl) rfl (fun _ => rfl) hl w
theorem can22 : callable E 22 = true := callable_get Try.func22 rfl rfl
def c24 : C := (.seq (.ops [kO 2 (.box 25 (kT 0)),
 kO 4 (.mov (.const (.slice none 0 0))),
 kO 5 (.mov (.const (.int .i64 0)))])
 (.seq (.seq (.ops [kO 9 (.loadN 3 (kT 2)),
 kO 10 (.call 20 [.tmp 9]),
 kO 6 (.mov (kT 10))])
 (.seq (.ops [kO 11 (.mov (kT 6)),
 kO 12 (.ar .i64 .neq (kT 11) (.const (.int .i64 0)))])
 (.cond (kT 12) (.seq (.ops [kO 13 (.mov (kT 6)),
 kO 4 (.mov (.const (.slice none 0 0))),
 kO 5 (.mov (kT 13))])
 .ret)
 .skip)))
 (.seq (.seq (.ops [kO 14 (.mov (kT 1)),
 kO 15 (.ar .i64 .lss (kT 14) (.const (.int .i64 0))),
 kO 16 (.mov (kT 15)),
 ⟨some 17,.mov (kT 1),(some (16,false))⟩,
 ⟨some 18,.ar .i64 .gtr (kT 17) (.const (.int .i64 1000)),(some (16,false))⟩,
 kO 19 (.pick (kT 16) (.const (.bool true)) (kT 18))])
 (.cond (kT 19) (.seq (.ops [kO 4 (.mov (.const (.slice none 0 0))),
 kO 5 (.mov (.const (.int .i64 1)))])
 .ret)
 .skip))
 (.seq (.ops [kO 20 (.mov (kT 1)),
 kO 21 (.make 3 [.int .i64 0] 8 (kT 20) (kT 20)),
 kO 7 (.mov (kT 21))])
 (.seq (.seq (.ops [kO 22 (.mov (kT 7)),
 kO 23 (.lenS (kT 22)),
 kO 24 (.mov (.const (.int .i64 0)))])
 (.block 0 (.loop (.seq (.ops [kO 25 (.ar .i64 .lss (kT 24) (kT 23))])
 (.seq (.cond (kT 25) .skip
 (.exit 0))
 (.seq (.block 1 (.seq (.ops [kO 26 (.mov (kT 24)),
 kO 8 (.mov (kT 26))])
 (.ops [kO 27 (.mov (kT 7)),
 kO 28 (.mov (kT 8)),
 kO 29 (.loadN 3 (kT 2)),
 kO 30 (.mov (kT 8)),
 kO 31 (.call 62 [.tmp 29,(.const (.int .i64 0)),.tmp 30]),
 kO 32 (.idxS 1 (kT 27) (kT 28)),
 ⟨none,.store 1 (kT 32) (kT 31),none⟩])))
 (.ops [kO 33 (.ar .i64 .add (kT 24) (.const (.int .i64 1))),
 kO 24 (.mov (kT 33))])))))))
 (.seq (.ops [kO 34 (.mov (kT 7)),
 kO 4 (.mov (kT 34)),
 kO 5 (.mov (.const (.int .i64 0)))])
 .ret))))))
theorem enter24 {xs : List Value} {h : Hp} {Q : Value → Hp → Prop} (hl : xs.length ≤ 35) (w : wq E 35 none c24 (frameOf xs) h [] (leaveQ E [.tmp 4,.tmp 5] Q)) : CallP E 24 xs h Q :=
  CallP.enterQ (fn := Try.f24) (fn_get Try.func24) (code := Try.f24.body.get rfl) rfl rfl rfl (by kernel_rfl) rfl (fun _ => rfl) hl w
theorem can24 : callable E 24 = true := callable_get Try.func24 rfl rfl
def c28 : C := (.seq (.ops [kO 3 (.box 25 (kT 0)),
 kO 6 (.alloc 25 [.int .i64 0,.slice none 0 0,.slice none 0 0]),
 kO 7 (.mov (.const (.int .i64 0)))])
 (.seq (.seq (.ops [kO 9 (.loadN 3 (kT 3)),
 kO 10 (.call 20 [.tmp 9]),
 kO 8 (.mov (kT 10))])
 (.seq (.ops [kO 11 (.mov (kT 8)),
 kO 12 (.ar .i64 .neq (kT 11) (.const (.int .i64 0)))])
 (.cond (kT 12) (.seq (.ops [kO 13 (.aggr [.int .i64 0,.slice none 0 0,.slice none 0 0] []),
 kO 14 (.mov (kT 8)),
 ⟨none,.store 3 (kT 6) (kT 13),none⟩,
 kO 7 (.mov (kT 14))])
 .ret)
 .skip)))
 (.seq (.seq (.ops [kO 15 (.mov (kT 1)),
 kO 16 (.ar .i64 .lss (kT 15) (.const (.int .i64 1))),
 kO 17 (.mov (kT 16)),
 ⟨some 18,.mov (kT 1),(some (17,false))⟩,
 ⟨some 19,.ar .i64 .gtr (kT 18) (.const (.int .i64 30)),(some (17,false))⟩,
 kO 20 (.pick (kT 17) (.const (.bool true)) (kT 19)),
 kO 21 (.mov (kT 20)),
 ⟨some 22,.mov (kT 2),(some (21,false))⟩,
 ⟨some 23,.ar .i64 .lss (kT 22) (.const (.int .i64 0)),(some (21,false))⟩,
 kO 24 (.pick (kT 21) (.const (.bool true)) (kT 23)),
 kO 25 (.mov (kT 24)),
 ⟨some 26,.mov (kT 2),(some (25,false))⟩,
 ⟨some 27,.ar .i64 .gtr (kT 26) (.const (.int .i64 100)),(some (25,false))⟩,
 kO 28 (.pick (kT 25) (.const (.bool true)) (kT 27))])
 (.cond (kT 28) (.seq (.ops [kO 29 (.aggr [.int .i64 0,.slice none 0 0,.slice none 0 0] []),
 ⟨none,.store 3 (kT 6) (kT 29),none⟩,
 kO 7 (.mov (.const (.int .i64 1)))])
 .ret)
 .skip))
 (.seq (.ops [kO 30 (.loadN 3 (kT 3)),
 kO 31 (.mov (kT 1)),
 kO 32 (.mov (kT 2)),
 kO 33 (.call 67 [.tmp 30,.tmp 31,.tmp 32]),
 kO 34 (.call 66 [.tmp 33]),
 kO 35 (.ext (kT 34) 0),
 kO 36 (.ext (kT 34) 1),
 ⟨none,.store 3 (kT 6) (kT 35),none⟩,
 kO 7 (.mov (kT 36))])
 .ret))))
theorem enter28 {xs : List Value} {h : Hp} {Q : Value → Hp → Prop} (hl : xs.length ≤ 37) (w : wq E 37 none c28 (frameOf xs) h [] (leaveQ E [.cell 6 25,.tmp 7] Q)) : CallP E 28 xs h Q :=
  CallP.enterQ (fn := Try.f28) (fn_get Try.func28) (code := Try.f28.body.get rfl) rfl rfl rfl (by kernel_rfl) rfl (fun _ => rfl) hl w
theorem can28 : callable E 28 = true := callable_get Try.func28 rfl rfl
def c31 : C := (.seq (.ops [kO 1 (.box 25 (kT 0)),
 kO 2 (.alloc 25 [.int .i64 0,.slice none 0 0,.slice none 0 0]),
 kO 3 (.mov (.const (.int .i64 0)))])
 (.seq (.seq (.ops [kO 7 (.loadN 3 (kT 1)),
 kO 8 (.call 20 [.tmp 7]),
 kO 4 (.mov (kT 8))])
 (.seq (.ops [kO 9 (.mov (kT 4)),
 kO 10 (.ar .i64 .neq (kT 9) (.const (.int .i64 0)))])
 (.cond (kT 10) (.seq (.ops [kO 11 (.aggr [.int .i64 0,.slice none 0 0,.slice none 0 0] []),
 kO 12 (.mov (kT 4)),
 ⟨none,.store 3 (kT 2) (kT 11),none⟩,
 kO 3 (.mov (kT 12))])
 .ret)
 .skip)))
 (.seq (.seq (.ops [kO 13 (.fldA 0 (kT 1)),
 kO 14 (.load1 (kT 13)),
 kO 15 (.ar .i64 .neq (kT 14) (.const (.int .i64 2)))])
 (.cond (kT 15) (.seq (.ops [kO 16 (.aggr [.int .i64 0,.slice none 0 0,.slice none 0 0] []),
 ⟨none,.store 3 (kT 2) (kT 16),none⟩,
 kO 3 (.mov (.const (.int .i64 1)))])
 .ret)
 .skip))
 (.seq (.ops [kO 17 (.func (.func 75) [] [.tmp 1]),
 kO 5 (.mov (kT 17))])
 (.seq (.ops [kO 18 (.func (.func 76) [] [.tmp 1]),
 kO 6 (.mov (kT 18))])
 (.seq (.ops [kO 19 (.fldA 0 (kT 1)),
 kO 20 (.load1 (kT 19)),
 kO 21 (.fldA 0 (kT 1)),
 kO 22 (.load1 (kT 21)),
 kO 23 (.ar .i64 .mul (kT 20) (kT 22)),
 kO 24 (.mov (kT 5)),
 kO 25 (.mov (kT 6)),
 kO 26 (.call 70 [.tmp 23,(.const (.int .i64 0)),.tmp 24,.tmp 25]),
 kO 27 (.call 66 [.tmp 26]),
 kO 28 (.ext (kT 27) 0),
 kO 29 (.ext (kT 27) 1),
 ⟨none,.store 3 (kT 2) (kT 28),none⟩,
 kO 3 (.mov (kT 29))])
 .ret))))))
theorem enter31 {xs : List Value} {h : Hp} {Q : Value → Hp → Prop} (hl : xs.length ≤ 30) (w : wq E 30 none c31 (frameOf xs) h [] (leaveQ E [.cell 2 25,.tmp 3] Q)) : CallP E 31 xs h Q :=
  CallP.enterQ (fn := Try.f31) (fn_get Try.func31) (code := Try.f31.body.get rfl) rfl rfl rfl (by kernel_rfl) rfl (fun _ => rfl) hl w
theorem can31 : callable E 31 = true := callable_get Try.func31 rfl rfl
def c33 : C := (.seq (.ops [kO 1 (.box 25 (kT 0)),
 kO 2 (.mov (.const (.int .i64 0))),
 kO 3 (.mov (.const (.int .i64 0))),
 kO 4 (.mov (.const (.bool false))),
 kO 5 (.mov (.const (.int .i64 0)))])
 (.seq (.seq (.ops [kO 6 (.loadN 3 (kT 1)),
 kO 7 (.call 20 [.tmp 6]),
 kO 5 (.mov (kT 7))])
 (.seq (.ops [kO 8 (.mov (kT 5)),
 kO 9 (.ar .i64 .neq (kT 8) (.const (.int .i64 0)))])
 (.cond (kT 9) (.seq (.ops [kO 10 (.mov (kT 5)),
 kO 2 (.mov (.const (.int .i64 0))),
 kO 3 (.mov (.const (.int .i64 0))),
 kO 4 (.mov (.const (.bool false))),
 kO 5 (.mov (kT 10))])
 .ret)
 .skip)))
 (.seq (.seq (.ops [kO 3 (.mov (.const (.int .i64 1)))])
 (.block 0 (.loop (.seq (.seq (.ops [kO 11 (.mov (kT 3)),
 kO 12 (.ar .i64 .leq (kT 11) (.const (.int .i64 30)))])
 (.cond (kT 12) .skip
 (.exit 0)))
 (.seq (.block 1 (.seq (.ops [kO 15 (.loadN 3 (kT 1)),
 kO 16 (.mov (kT 3)),
 kO 17 (.call 77 [.tmp 15,(.const (.int .i64 60)),.tmp 16])])
 (.cond (kT 17) (.seq (.ops [kO 18 (.loadN 3 (kT 1)),
 kO 19 (.mov (kT 3)),
 kO 20 (.call 78 [.tmp 18,.tmp 19]),
 kO 21 (.mov (kT 3)),
 kO 2 (.mov (kT 20)),
 kO 3 (.mov (kT 21)),
 kO 4 (.mov (.const (.bool true))),
 kO 5 (.mov (.const (.int .i64 0)))])
 .ret)
 .skip)))
 (.ops [kO 13 (.mov (kT 3)),
 kO 14 (.ar .i64 .add (kT 13) (.const (.int .i64 1))),
 kO 3 (.mov (kT 14))]))))))
 (.seq (.ops [kO 2 (.mov (.const (.int .i64 0))),
 kO 3 (.mov (.const (.int .i64 0))),
 kO 4 (.mov (.const (.bool false))),
 kO 5 (.mov (.const (.int .i64 0)))])
 .ret))))
theorem enter33 {xs : List Value} {h : Hp} {Q : Value → Hp → Prop} (hl : xs.length ≤ 22) (w : wq E 22 none c33 (frameOf xs) h [] (leaveQ E [.tmp 2,.tmp 3,.tmp 4,.tmp 5] Q)) : CallP E 33 xs h Q :=
  CallP.enterQ (fn := Try.f33) (fn_get Try.func33) (code := Try.f33.body.get rfl) rfl rfl rfl (by kernel_rfl) rfl (fun _ => rfl) hl w
theorem can33 : callable E 33 = true := callable_get Try.func33 rfl rfl
def c35 : C := (.seq (.ops [kO 2 (.box 25 (kT 0)),
 kO 4 (.mov (.const (.int .i64 0))),
 kO 5 (.mov (.const (.bool false))),
 kO 6 (.mov (.const (.int .i64 0)))])
 (.seq (.seq (.ops [kO 10 (.loadN 3 (kT 2)),
 kO 11 (.call 20 [.tmp 10]),
 kO 7 (.mov (kT 11))])
 (.seq (.ops [kO 12 (.mov (kT 7)),
 kO 13 (.ar .i64 .neq (kT 12) (.const (.int .i64 0)))])
 (.cond (kT 13) (.seq (.ops [kO 14 (.mov (kT 7)),
 kO 4 (.mov (.const (.int .i64 0))),
 kO 5 (.mov (.const (.bool false))),
 kO 6 (.mov (kT 14))])
 .ret)
 .skip)))
 (.seq (.seq (.ops [kO 15 (.mov (kT 1)),
 kO 16 (.call 79 [.tmp 15]),
 kO 17 (.not (kT 16))])
 (.cond (kT 17) (.seq (.ops [kO 4 (.mov (.const (.int .i64 0))),
 kO 5 (.mov (.const (.bool false))),
 kO 6 (.mov (.const (.int .i64 1)))])
 .ret)
 .skip))
 (.seq (.ops [kO 19 (.loadN 3 (kT 2)),
 kO 20 (.mov (kT 1)),
 kO 21 (.call 80 [.tmp 19,.tmp 20]),
 kO 18 (.mov (kT 21)),
 kO 22 (.ext (kT 18) 0),
 kO 23 (.ext (kT 18) 1),
 kO 8 (.mov (kT 22)),
 kO 9 (.mov (kT 23))])
 (.seq (.ops [kO 24 (.mov (kT 8)),
 kO 25 (.mov (kT 9)),
 kO 4 (.mov (kT 24)),
 kO 5 (.mov (kT 25)),
 kO 6 (.mov (.const (.int .i64 0)))])
 .ret)))))
theorem enter35 {xs : List Value} {h : Hp} {Q : Value → Hp → Prop} (hl : xs.length ≤ 26) (w : wq E 26 none c35 (frameOf xs) h [] (leaveQ E [.tmp 4,.tmp 5,.tmp 6] Q)) : CallP E 35 xs h Q :=
  CallP.enterQ (fn := Try.f35) (fn_get Try.func35) (code := Try.f35.body.get rfl) rfl rfl rfl (by kernel_rfl) rfl (fun _ => rfl) hl w
theorem can35 : callable E 35 = true := callable_get Try.func35 rfl rfl
def c36 : C := (.seq (.ops [kO 1 (.box 25 (kT 0)),
 kO 2 (.mov (.const (.bool false)))])
 (.seq (.ops [kO 3 (.fldA 0 (kT 1)),
 kO 4 (.load1 (kT 3)),
 kO 5 (.ar .i64 .eql (kT 4) (.const (.int .i64 0))),
 kO 6 (.mov (kT 5)),
 ⟨some 7,.fldA 1 (kT 1),(some (6,true))⟩,
 ⟨some 8,.load1 (kT 7),(some (6,true))⟩,
 ⟨some 9,.lenS (kT 8),(some (6,true))⟩,
 ⟨some 10,.ar .i64 .eql (kT 9) (.const (.int .i64 0)),(some (6,true))⟩,
 kO 11 (.pick (kT 6) (kT 10) (.const (.bool false))),
 kO 12 (.mov (kT 11)),
 ⟨some 13,.fldA 2 (kT 1),(some (12,true))⟩,
 ⟨some 14,.load1 (kT 13),(some (12,true))⟩,
 ⟨some 15,.lenS (kT 14),(some (12,true))⟩,
 ⟨some 16,.ar .i64 .eql (kT 15) (.const (.int .i64 0)),(some (12,true))⟩,
 kO 17 (.pick (kT 12) (kT 16) (.const (.bool false))),
 kO 2 (.mov (kT 17))])
 .ret))
theorem enter36 {xs : List Value} {h : Hp} {Q : Value → Hp → Prop} (hl : xs.length ≤ 18) (w : wq E 18 none c36 (frameOf xs) h [] (leaveQ E [.tmp 2] Q)) : CallP E 36 xs h Q :=
  CallP.enterQ (fn := Try.f36) (fn_get Try.func36) (code := Try.f36.body.get rfl) rfl rfl rfl (by kernel_rfl) rfl (fun _ => rfl) hl w
theorem can36 : callable E 36 = true := callable_get Try.func36 rfl rfl
def c37 : C := (.seq (.ops [kO 3 (.box 25 (kT 0)),
 kO 6 (.alloc 26 [.int .i64 0,.slice none 0 0,.slice none 0 0])])
 (.seq (.ops [kO 17 (.fldA 1 (kT 3)),
 kO 18 (.load1 (kT 17)),
 kO 19 (.lenS (kT 18)),
 kO 20 (.mov (kT 2)),
 kO 21 (.raw (.call ⟨.builtin .min,⟨[.tmp 19,.tmp 20]⟩,⟨[3,3]⟩⟩) 3),
 kO 22 (.raw (.call ⟨.builtin .max,⟨[(.const (.int .i64 1)),.tmp 21]⟩,⟨[3,3]⟩⟩) 3),
 kO 7 (.mov (kT 22))])
 (.seq (.ops [kO 23 (.mov (kT 1)),
 kO 24 (.aggr [.int .i64 0,.slice none 0 0,.slice none 0 0] [(0,1,(kT 23))]),
 kO 8 (.alloc 26 [.int .i64 0,.slice none 0 0,.slice none 0 0]),
 ⟨none,.store 3 (kT 8) (kT 24),none⟩])
 (.seq (.seq (.ops [kO 9 (.mov (.const (.int .i64 0)))])
 (.block 0 (.loop (.seq (.seq (.ops [kO 25 (.mov (kT 9)),
 kO 26 (.mov (kT 7)),
 kO 27 (.ar .i64 .lss (kT 25) (kT 26))])
 (.cond (kT 27) .skip
 (.exit 0)))
 (.seq (.block 1 (.seq (.ops [kO 10 (.mov (.const (.int .i64 0)))])
 (.seq (.seq (.ops [kO 30 (.mov (kT 9)),
 kO 31 (.fldA 1 (kT 3)),
 kO 32 (.load1 (kT 31)),
 kO 33 (.lenS (kT 32)),
 kO 34 (.ar .i64 .lss (kT 30) (kT 33))])
 (.cond (kT 34) (.ops [kO 35 (.fldA 1 (kT 3)),
 kO 36 (.load1 (kT 35)),
 kO 37 (.mov (kT 9)),
 kO 38 (.idxS 1 (kT 36) (kT 37)),
 kO 39 (.load1 (kT 38)),
 kO 40 (.cint .u64 (kT 39)),
 kO 41 (.ar .u64 .rem (kT 40) (.const (.int .u64 10))),
 kO 42 (.cint .i64 (kT 41)),
 kO 10 (.mov (kT 42))])
 .skip))
 (.seq (.ops [kO 43 (.fldA 1 (kT 8)),
 kO 44 (.load1 (kT 43)),
 kO 11 (.mov (kT 44))])
 (.ops [kO 45 (.mov (kT 11)),
 kO 46 (.mov (kT 10)),
 kO 47 (.slit 3 1 [.int .i64 0] [(0,1,(kT 46))]),
 kO 48 (.append 3 1 8 (kT 45) (kT 47)),
 kO 49 (.fldA 1 (kT 8)),
 ⟨none,.store 1 (kT 49) (kT 48),none⟩])))))
 (.ops [kO 28 (.mov (kT 9)),
 kO 29 (.ar .i64 .add (kT 28) (.const (.int .i64 1))),
 kO 9 (.mov (kT 29))]))))))
 (.seq (.seq (.ops [kO 12 (.mov (.const (.int .i64 0)))])
 (.block 2 (.loop (.seq (.seq (.ops [kO 50 (.mov (kT 12)),
 kO 51 (.mov (kT 7)),
 kO 52 (.ar .i64 .lss (kT 50) (kT 51))])
 (.cond (kT 52) .skip
 (.exit 2)))
 (.seq (.block 3 (.seq (.ops [kO 13 (.mov (.const (.slice none 0 0)))])
 (.seq (.seq (.ops [kO 14 (.mov (.const (.int .i64 0)))])
 (.block 4 (.loop (.seq (.seq (.ops [kO 55 (.mov (kT 14)),
 kO 56 (.mov (kT 1)),
 kO 57 (.ar .i64 .lss (kT 55) (kT 56))])
 (.cond (kT 57) .skip
 (.exit 4)))
 (.seq (.block 5 (.seq (.ops [kO 60 (.mov (kT 12)),
 kO 15 (.mov (kT 60))])
 (.seq (.seq (.ops [kO 61 (.mov (kT 12)),
 kO 62 (.fldA 2 (kT 3)),
 kO 63 (.load1 (kT 62)),
 kO 64 (.lenS (kT 63)),
 kO 65 (.ar .i64 .lss (kT 61) (kT 64)),
 kO 66 (.mov (kT 65)),
 ⟨some 67,.mov (kT 14),(some (66,true))⟩,
 ⟨some 68,.fldA 2 (kT 3),(some (66,true))⟩,
 ⟨some 69,.load1 (kT 68),(some (66,true))⟩,
 ⟨some 70,.mov (kT 12),(some (66,true))⟩,
 ⟨some 71,.idxS 1 (kT 69) (kT 70),(some (66,true))⟩,
 ⟨some 72,.load1 (kT 71),(some (66,true))⟩,
 ⟨some 73,.lenS (kT 72),(some (66,true))⟩,
 ⟨some 74,.ar .i64 .lss (kT 67) (kT 73),(some (66,true))⟩,
 kO 75 (.pick (kT 66) (kT 74) (.const (.bool false)))])
 (.cond (kT 75) (.ops [kO 76 (.fldA 2 (kT 3)),
 kO 77 (.load1 (kT 76)),
 kO 78 (.mov (kT 12)),
 kO 79 (.idxS 1 (kT 77) (kT 78)),
 kO 80 (.load1 (kT 79)),
 kO 81 (.mov (kT 14)),
 kO 82 (.idxS 1 (kT 80) (kT 81)),
 kO 83 (.load1 (kT 82)),
 kO 84 (.cint .u64 (kT 83)),
 kO 85 (.mov (kT 7)),
 kO 86 (.cint .u64 (kT 85)),
 kO 87 (.ar .u64 .rem (kT 84) (kT 86)),
 kO 88 (.cint .i64 (kT 87)),
 kO 15 (.mov (kT 88))])
 .skip))
 (.seq (.seq (.ops [kO 89 (.mov (kT 14)),
 kO 90 (.ar .i64 .eql (kT 89) (.const (.int .i64 0))),
 kO 91 (.mov (kT 90)),
 ⟨some 92,.fldA 1 (kT 8),(some (91,true))⟩,
 ⟨some 93,.load1 (kT 92),(some (91,true))⟩,
 ⟨some 94,.mov (kT 15),(some (91,true))⟩,
 ⟨some 95,.idxS 1 (kT 93) (kT 94),(some (91,true))⟩,
 ⟨some 96,.load1 (kT 95),(some (91,true))⟩,
 ⟨some 97,.fldA 1 (kT 8),(some (91,true))⟩,
 ⟨some 98,.load1 (kT 97),(some (91,true))⟩,
 ⟨some 99,.mov (kT 12),(some (91,true))⟩,
 ⟨some 100,.idxS 1 (kT 98) (kT 99),(some (91,true))⟩,
 ⟨some 101,.load1 (kT 100),(some (91,true))⟩,
 ⟨some 102,.ar .i64 .neq (kT 96) (kT 101),(some (91,true))⟩,
 kO 103 (.pick (kT 91) (kT 102) (.const (.bool false)))])
 (.cond (kT 103) (.ops [kO 104 (.mov (kT 12)),
 kO 15 (.mov (kT 104))])
 .skip))
 (.ops [kO 105 (.mov (kT 13)),
 kO 106 (.mov (kT 15)),
 kO 107 (.slit 3 1 [.int .i64 0] [(0,1,(kT 106))]),
 kO 108 (.append 3 1 8 (kT 105) (kT 107)),
 kO 13 (.mov (kT 108))])))))
 (.ops [kO 58 (.mov (kT 14)),
 kO 59 (.ar .i64 .add (kT 58) (.const (.int .i64 1))),
 kO 14 (.mov (kT 59))]))))))
 (.seq (.ops [kO 109 (.fldA 2 (kT 8)),
 kO 110 (.load1 (kT 109)),
 kO 16 (.mov (kT 110))])
 (.ops [kO 111 (.mov (kT 16)),
 kO 112 (.mov (kT 13)),
 kO 113 (.slit 22 1 [.slice none 0 0] [(0,1,(kT 112))]),
 kO 114 (.append 22 1 24 (kT 111) (kT 113)),
 kO 115 (.fldA 2 (kT 8)),
 ⟨none,.store 1 (kT 115) (kT 114),none⟩])))))
 (.ops [kO 53 (.mov (kT 12)),
 kO 54 (.ar .i64 .add (kT 53) (.const (.int .i64 1))),
 kO 12 (.mov (kT 54))]))))))
 (.seq (.ops [kO 116 (.loadN 3 (kT 8)),
 ⟨none,.store 3 (kT 6) (kT 116),none⟩])
 .ret))))))
theorem enter37 {xs : List Value} {h : Hp} {Q : Value → Hp → Prop} (hl : xs.length ≤ 117) (w : wq E 117 none c37 (frameOf xs) h [] (leaveQ E [.cell 6 26] Q)) : CallP E 37 xs h Q :=
  CallP.enterQ (fn := Try.f37) (fn_get Try.func37) (code := Try.f37.body.get rfl) rfl rfl rfl (by kernel_rfl) rfl (fun _ => rfl) hl w
theorem can37 : callable E 37 = true := callable_get Try.func37 rfl rfl
def c38 : C := (.seq (.ops [kO 2 (.mov (.const (.int .i64 0)))])
 (.seq (.ops [kO 3 (.mov (kT 0)),
 kO 4 (.cint .u64 (kT 3)),
 kO 5 (.ar .u64 .rem (kT 4) (.const (.int .u64 4))),
 kO 6 (.cint .i64 (kT 5)),
 kO 7 (.ar .i64 .add (.const (.int .i64 2)) (kT 6)),
 kO 2 (.mov (kT 7))])
 .ret))
theorem enter38 {xs : List Value} {h : Hp} {Q : Value → Hp → Prop} (hl : xs.length ≤ 8) (w : wq E 8 none c38 (frameOf xs) h [] (leaveQ E [.tmp 2] Q)) : CallP E 38 xs h Q :=
  CallP.enterQ (fn := Try.f38) (fn_get Try.func38) (code := Try.f38.body.get rfl) rfl rfl rfl (by kernel_rfl) rfl (fun _ => rfl) hl w
theorem can38 : callable E 38 = true := callable_get Try.func38 rfl rfl
def c40 : C := (.seq (.ops [kO 1 (.box 26 (kT 0)),
 kO 2 (.alloc 26 [.int .i64 0,.slice none 0 0,.slice none 0 0])])
 (.seq (.ops [kO 17 (.loadN 3 (kT 1)),
 kO 18 (.fldA 1 (kT 1)),
 kO 19 (.load1 (kT 18)),
 kO 20 (.call 81 [.tmp 17,.tmp 19]),
 kO 3 (.mov (kT 20))])
 (.seq (.block 0 (.loop (.block 1 (.seq (.ops [kO 21 (.loadN 3 (kT 1)),
 kO 22 (.mov (kT 3)),
 kO 23 (.call 81 [.tmp 21,.tmp 22]),
 kO 4 (.mov (kT 23))])
 (.seq (.seq (.ops [kO 24 (.mov (kT 4)),
 kO 25 (.call 82 [.tmp 24]),
 kO 26 (.mov (kT 3)),
 kO 27 (.call 82 [.tmp 26]),
 kO 28 (.ar .i64 .eql (kT 25) (kT 27))])
 (.cond (kT 28) (.exit 0)
 .skip))
 (.ops [kO 29 (.mov (kT 4)),
 kO 3 (.mov (kT 29))]))))))
 (.seq (.ops [kO 30 (.newMap),
 kO 31 (.mov (kT 3)),
 kO 32 (.idxS 1 (kT 31) (.const (.int .i64 0))),
 kO 33 (.load1 (kT 32)),
 ⟨none,.raw (.insert 114 (kT 30) (kT 33) (.const (.int .i64 0))) 0,none⟩,
 kO 34 (.mov (kT 30)),
 kO 5 (.mov (kT 34))])
 (.seq (.ops [kO 35 (.slit 3 1 [.int .i64 0] [(0,1,(.const (.int .i64 0)))]),
 kO 6 (.mov (kT 35))])
 (.seq (.ops [kO 36 (.fldA 0 (kT 1)),
 kO 37 (.load1 (kT 36)),
 kO 38 (.aggr [.int .i64 0,.slice none 0 0,.slice none 0 0] [(0,1,(kT 37))]),
 kO 7 (.alloc 26 [.int .i64 0,.slice none 0 0,.slice none 0 0]),
 ⟨none,.store 3 (kT 7) (kT 38),none⟩])
 (.seq (.seq (.ops [kO 8 (.mov (.const (.int .i64 0)))])
 (.block 2 (.loop (.seq (.seq (.ops [kO 39 (.mov (kT 8)),
 kO 40 (.mov (kT 6)),
 kO 41 (.lenS (kT 40)),
 kO 42 (.ar .i64 .lss (kT 39) (kT 41))])
 (.cond (kT 42) .skip
 (.exit 2)))
 (.seq (.block 3 (.seq (.ops [kO 45 (.mov (kT 6)),
 kO 46 (.mov (kT 8)),
 kO 47 (.idxS 1 (kT 45) (kT 46)),
 kO 48 (.load1 (kT 47)),
 kO 9 (.mov (kT 48))])
 (.seq (.ops [kO 10 (.mov (.const (.slice none 0 0)))])
 (.seq (.seq (.ops [kO 11 (.mov (.const (.int .i64 0)))])
 (.block 4 (.loop (.seq (.seq (.ops [kO 49 (.mov (kT 11)),
 kO 50 (.fldA 0 (kT 1)),
 kO 51 (.load1 (kT 50)),
 kO 52 (.ar .i64 .lss (kT 49) (kT 51))])
 (.cond (kT 52) .skip
 (.exit 4)))
 (.seq (.block 5 (.seq (.ops [kO 55 (.fldA 2 (kT 1)),
 kO 56 (.load1 (kT 55)),
 kO 57 (.mov (kT 9)),
 kO 58 (.idxS 1 (kT 56) (kT 57)),
 kO 59 (.load1 (kT 58)),
 kO 60 (.mov (kT 11)),
 kO 61 (.idxS 1 (kT 59) (kT 60)),
 kO 62 (.load1 (kT 61)),
 kO 12 (.mov (kT 62))])
 (.seq (.seq (.ops [kO 64 (.mov (kT 5)),
 kO 65 (.mov (kT 3)),
 kO 66 (.mov (kT 12)),
 kO 67 (.idxS 1 (kT 65) (kT 66)),
 kO 68 (.load1 (kT 67)),
 kO 69 (.raw (.lookup 114 (kT 64) (kT 68) true) 115),
 kO 63 (.mov (kT 69)),
 kO 70 (.ext (kT 63) 0),
 kO 71 (.ext (kT 63) 1),
 kO 13 (.mov (kT 70)),
 kO 14 (.mov (kT 71))])
 (.seq (.ops [kO 72 (.mov (kT 14)),
 kO 73 (.not (kT 72))])
 (.cond (kT 73) (.seq (.ops [kO 74 (.mov (kT 5)),
 kO 75 (.mov (kT 3)),
 kO 76 (.mov (kT 12)),
 kO 77 (.idxS 1 (kT 75) (kT 76)),
 kO 78 (.load1 (kT 77)),
 kO 79 (.mov (kT 6)),
 kO 80 (.lenS (kT 79)),
 ⟨none,.raw (.mapUpdate 114 (kT 74) (kT 78) (kT 80)) 0,none⟩])
 (.ops [kO 81 (.mov (kT 6)),
 kO 82 (.mov (kT 12)),
 kO 83 (.slit 3 1 [.int .i64 0] [(0,1,(kT 82))]),
 kO 84 (.append 3 1 8 (kT 81) (kT 83)),
 kO 6 (.mov (kT 84))]))
 .skip)))
 (.ops [kO 85 (.mov (kT 10)),
 kO 86 (.mov (kT 5)),
 kO 87 (.mov (kT 3)),
 kO 88 (.mov (kT 12)),
 kO 89 (.idxS 1 (kT 87) (kT 88)),
 kO 90 (.load1 (kT 89)),
 kO 91 (.raw (.lookup 114 (kT 86) (kT 90) false) 3),
 kO 92 (.slit 3 1 [.int .i64 0] [(0,1,(kT 91))]),
 kO 93 (.append 3 1 8 (kT 85) (kT 92)),
 kO 10 (.mov (kT 93))]))))
 (.ops [kO 53 (.mov (kT 11)),
 kO 54 (.ar .i64 .add (kT 53) (.const (.int .i64 1))),
 kO 11 (.mov (kT 54))]))))))
 (.seq (.ops [kO 94 (.fldA 1 (kT 7)),
 kO 95 (.load1 (kT 94)),
 kO 96 (.fldA 2 (kT 7)),
 kO 97 (.load1 (kT 96)),
 kO 15 (.mov (kT 95)),
 kO 16 (.mov (kT 97))])
 (.seq (.ops [kO 98 (.mov (kT 15)),
 kO 99 (.fldA 1 (kT 1)),
 kO 100 (.load1 (kT 99)),
 kO 101 (.mov (kT 9)),
 kO 102 (.idxS 1 (kT 100) (kT 101)),
 kO 103 (.load1 (kT 102)),
 kO 104 (.slit 3 1 [.int .i64 0] [(0,1,(kT 103))]),
 kO 105 (.append 3 1 8 (kT 98) (kT 104)),
 kO 106 (.fldA 1 (kT 7)),
 ⟨none,.store 1 (kT 106) (kT 105),none⟩])
 (.ops [kO 107 (.mov (kT 16)),
 kO 108 (.mov (kT 10)),
 kO 109 (.slit 22 1 [.slice none 0 0] [(0,1,(kT 108))]),
 kO 110 (.append 22 1 24 (kT 107) (kT 109)),
 kO 111 (.fldA 2 (kT 7)),
 ⟨none,.store 1 (kT 111) (kT 110),none⟩])))))))
 (.ops [kO 43 (.mov (kT 8)),
 kO 44 (.ar .i64 .add (kT 43) (.const (.int .i64 1))),
 kO 8 (.mov (kT 44))]))))))
 (.seq (.ops [kO 112 (.loadN 3 (kT 7)),
 ⟨none,.store 3 (kT 2) (kT 112),none⟩])
 .ret))))))))
theorem enter40 {xs : List Value} {h : Hp} {Q : Value → Hp → Prop} (hl : xs.length ≤ 113) (w : wq E 113 none c40 (frameOf xs) h [] (leaveQ E [.cell 2 26] Q)) : CallP E 40 xs h Q :=
  CallP.enterQ (fn := Try.f40) (fn_get Try.func40) (code := Try.f40.body.get rfl) rfl rfl rfl (by kernel_rfl) rfl (fun _ => rfl) hl w
theorem can40 : callable E 40 = true := callable_get Try.func40 rfl rfl
def c41 : C := (.seq (.ops [kO 2 (.box 26 (kT 0)),
 kO 3 (.box 26 (kT 1)),
 kO 4 (.mov (.const (.bool false)))])
 (.seq (.seq (.ops [kO 7 (.fldA 0 (kT 2)),
 kO 8 (.load1 (kT 7)),
 kO 9 (.fldA 0 (kT 3)),
 kO 10 (.load1 (kT 9)),
 kO 11 (.ar .i64 .neq (kT 8) (kT 10)),
 kO 12 (.mov (kT 11)),
 ⟨some 13,.fldA 1 (kT 2),(some (12,false))⟩,
 ⟨some 14,.load1 (kT 13),(some (12,false))⟩,
 ⟨some 15,.lenS (kT 14),(some (12,false))⟩,
 ⟨some 16,.fldA 1 (kT 3),(some (12,false))⟩,
 ⟨some 17,.load1 (kT 16),(some (12,false))⟩,
 ⟨some 18,.lenS (kT 17),(some (12,false))⟩,
 ⟨some 19,.ar .i64 .neq (kT 15) (kT 18),(some (12,false))⟩,
 kO 20 (.pick (kT 12) (.const (.bool true)) (kT 19)),
 kO 21 (.mov (kT 20)),
 ⟨some 22,.fldA 2 (kT 2),(some (21,false))⟩,
 ⟨some 23,.load1 (kT 22),(some (21,false))⟩,
 ⟨some 24,.lenS (kT 23),(some (21,false))⟩,
 ⟨some 25,.fldA 2 (kT 3),(some (21,false))⟩,
 ⟨some 26,.load1 (kT 25),(some (21,false))⟩,
 ⟨some 27,.lenS (kT 26),(some (21,false))⟩,
 ⟨some 28,.ar .i64 .neq (kT 24) (kT 27),(some (21,false))⟩,
 kO 29 (.pick (kT 21) (.const (.bool true)) (kT 28))])
 (.cond (kT 29) (.seq (.ops [kO 4 (.mov (.const (.bool false)))])
 .ret)
 .skip))
 (.seq (.seq (.ops [kO 5 (.mov (.const (.int .i64 0)))])
 (.block 0 (.loop (.seq (.seq (.ops [kO 30 (.mov (kT 5)),
 kO 31 (.fldA 1 (kT 2)),
 kO 32 (.load1 (kT 31)),
 kO 33 (.lenS (kT 32)),
 kO 34 (.ar .i64 .lss (kT 30) (kT 33))])
 (.cond (kT 34) .skip
 (.exit 0)))
 (.seq (.block 1 (.seq (.seq (.ops [kO 37 (.fldA 1 (kT 2)),
 kO 38 (.load1 (kT 37)),
 kO 39 (.mov (kT 5)),
 kO 40 (.idxS 1 (kT 38) (kT 39)),
 kO 41 (.load1 (kT 40)),
 kO 42 (.fldA 1 (kT 3)),
 kO 43 (.load1 (kT 42)),
 kO 44 (.mov (kT 5)),
 kO 45 (.idxS 1 (kT 43) (kT 44)),
 kO 46 (.load1 (kT 45)),
 kO 47 (.ar .i64 .neq (kT 41) (kT 46)),
 kO 48 (.mov (kT 47)),
 ⟨some 49,.fldA 2 (kT 2),(some (48,false))⟩,
 ⟨some 50,.load1 (kT 49),(some (48,false))⟩,
 ⟨some 51,.mov (kT 5),(some (48,false))⟩,
 ⟨some 52,.idxS 1 (kT 50) (kT 51),(some (48,false))⟩,
 ⟨some 53,.load1 (kT 52),(some (48,false))⟩,
 ⟨some 54,.lenS (kT 53),(some (48,false))⟩,
 ⟨some 55,.fldA 2 (kT 3),(some (48,false))⟩,
 ⟨some 56,.load1 (kT 55),(some (48,false))⟩,
 ⟨some 57,.mov (kT 5),(some (48,false))⟩,
 ⟨some 58,.idxS 1 (kT 56) (kT 57),(some (48,false))⟩,
 ⟨some 59,.load1 (kT 58),(some (48,false))⟩,
 ⟨some 60,.lenS (kT 59),(some (48,false))⟩,
 ⟨some 61,.ar .i64 .neq (kT 54) (kT 60),(some (48,false))⟩,
 kO 62 (.pick (kT 48) (.const (.bool true)) (kT 61))])
 (.cond (kT 62) (.seq (.ops [kO 4 (.mov (.const (.bool false)))])
 .ret)
 .skip))
 (.seq (.ops [kO 6 (.mov (.const (.int .i64 0)))])
 (.block 2 (.loop (.seq (.seq (.ops [kO 63 (.mov (kT 6)),
 kO 64 (.fldA 2 (kT 2)),
 kO 65 (.load1 (kT 64)),
 kO 66 (.mov (kT 5)),
 kO 67 (.idxS 1 (kT 65) (kT 66)),
 kO 68 (.load1 (kT 67)),
 kO 69 (.lenS (kT 68)),
 kO 70 (.ar .i64 .lss (kT 63) (kT 69))])
 (.cond (kT 70) .skip
 (.exit 2)))
 (.seq (.block 3 (.seq (.ops [kO 73 (.fldA 2 (kT 2)),
 kO 74 (.load1 (kT 73)),
 kO 75 (.mov (kT 5)),
 kO 76 (.idxS 1 (kT 74) (kT 75)),
 kO 77 (.load1 (kT 76)),
 kO 78 (.mov (kT 6)),
 kO 79 (.idxS 1 (kT 77) (kT 78)),
 kO 80 (.load1 (kT 79)),
 kO 81 (.fldA 2 (kT 3)),
 kO 82 (.load1 (kT 81)),
 kO 83 (.mov (kT 5)),
 kO 84 (.idxS 1 (kT 82) (kT 83)),
 kO 85 (.load1 (kT 84)),
 kO 86 (.mov (kT 6)),
 kO 87 (.idxS 1 (kT 85) (kT 86)),
 kO 88 (.load1 (kT 87)),
 kO 89 (.ar .i64 .neq (kT 80) (kT 88))])
 (.cond (kT 89) (.seq (.ops [kO 4 (.mov (.const (.bool false)))])
 .ret)
 .skip)))
 (.ops [kO 71 (.mov (kT 6)),
 kO 72 (.ar .i64 .add (kT 71) (.const (.int .i64 1))),
 kO 6 (.mov (kT 72))]))))))))
 (.ops [kO 35 (.mov (kT 5)),
 kO 36 (.ar .i64 .add (kT 35) (.const (.int .i64 1))),
 kO 5 (.mov (kT 36))]))))))
 (.seq (.ops [kO 4 (.mov (.const (.bool true)))])
 .ret))))
theorem enter41 {xs : List Value} {h : Hp} {Q : Value → Hp → Prop} (hl : xs.length ≤ 90) (w : wq E 90 none c41 (frameOf xs) h [] (leaveQ E [.tmp 4] Q)) : CallP E 41 xs h Q :=
  CallP.enterQ (fn := Try.f41) (fn_get Try.func41) (code := Try.f41.body.get rfl) rfl rfl rfl (by kernel_rfl) rfl (fun _ => rfl) hl w
theorem can41 : callable E 41 = true := callable_get Try.func41 rfl rfl
def c43 : C := (.seq (.ops [kO 3 (.box 25 (kT 0)),
 kO 5 (.box 26 (kT 2)),
 kO 6 (.mov (.const (.bool false)))])
 (.seq (.ops [kO 8 (.loadN 3 (kT 5)),
 kO 9 (.call 40 [.tmp 8]),
 kO 7 (.alloc 26 [.int .i64 0,.slice none 0 0,.slice none 0 0]),
 ⟨none,.store 3 (kT 7) (kT 9),none⟩])
 (.seq (.seq (.ops [kO 10 (.fldA 1 (kT 7)),
 kO 11 (.load1 (kT 10)),
 kO 12 (.lenS (kT 11)),
 kO 13 (.ar .i64 .gtr (kT 12) (.const (.int .i64 12)))])
 (.cond (kT 13) (.seq (.ops [kO 14 (.mov (kT 1)),
 kO 15 (.ar .i64 .eql (kT 14) (.const (.int .i64 8))),
 kO 16 (.mov (kT 15)),
 ⟨some 17,.loadN 3 (kT 3),(some (16,true))⟩,
 ⟨some 18,.call 36 [.tmp 17],(some (16,true))⟩,
 kO 19 (.pick (kT 16) (kT 18) (.const (.bool false))),
 kO 6 (.mov (kT 19))])
 .ret)
 .skip))
 (.seq (.draw [kO 20 (.mov (kT 1)),
 kO 21 (.ar .i64 .eql (kT 20) (.const (.int .i64 0))),
 kO 22 (.mov (kT 21)),
 ⟨some 23,.loadN 3 (kT 3),(some (22,true))⟩,
 ⟨some 24,.call 17 [.tmp 23],(some (22,true))⟩,
 ⟨some 25,.loadN 3 (kT 7),(some (22,true))⟩,
 ⟨some 26,.call 41 [.tmp 24,.tmp 25],(some (22,true))⟩,
 kO 27 (.pick (kT 22) (kT 26) (.const (.bool false))),
 kO 28 (.mov (kT 27)),
 ⟨some 29,.fldA 1 (kT 3),(some (28,true))⟩,
 ⟨some 30,.load1 (kT 29),(some (28,true))⟩,
 ⟨some 31,.lenS (kT 30),(some (28,true))⟩,
 ⟨some 32,.fldA 1 (kT 7),(some (28,true))⟩,
 ⟨some 33,.load1 (kT 32),(some (28,true))⟩,
 ⟨some 34,.lenS (kT 33),(some (28,true))⟩,
 ⟨some 35,.ar .i64 .eql (kT 31) (kT 34),(some (28,true))⟩,
 kO 36 (.pick (kT 28) (kT 35) (.const (.bool false))),
 kO 37 (.mov (kT 36)),
 ⟨some 38,.fldA 2 (kT 3),(some (37,true))⟩,
 ⟨some 39,.load1 (kT 38),(some (37,true))⟩,
 ⟨some 40,.lenS (kT 39),(some (37,true))⟩,
 ⟨some 41,.fldA 2 (kT 7),(some (37,true))⟩,
 ⟨some 42,.load1 (kT 41),(some (37,true))⟩,
 ⟨some 43,.lenS (kT 42),(some (37,true))⟩,
 ⟨some 44,.ar .i64 .eql (kT 40) (kT 43),(some (37,true))⟩,
 kO 45 (.pick (kT 37) (kT 44) (.const (.bool false))),
 kO 6 (.mov (kT 45))]
 [⟨false,false,fL15,fL15⟩,
 ⟨false,false,fL15,fL15⟩,
 ⟨false,false,fL15,fL15⟩,
 ⟨false,false,fL15,fL15⟩,
 ⟨true,false,fL15,fL33⟩,
 ⟨false,true,fL15,fL33⟩,
 ⟨true,false,fL33,fL0⟩,
 ⟨false,false,fL0,fL0⟩,
 ⟨false,false,fL0,fL0⟩,
 ⟨false,false,fL0,fL0⟩,
 ⟨false,false,fL0,fL0⟩,
 ⟨false,false,fL0,fL0⟩,
 ⟨false,false,fL0,fL0⟩,
 ⟨false,false,fL0,fL0⟩,
 ⟨false,false,fL0,fL0⟩,
 ⟨false,false,fL0,fL0⟩,
 ⟨false,false,fL0,fL0⟩,
 ⟨false,false,fL0,fL0⟩,
 ⟨false,false,fL0,fL0⟩,
 ⟨false,false,fL0,fL0⟩,
 ⟨false,false,fL0,fL0⟩,
 ⟨false,false,fL0,fL0⟩,
 ⟨false,false,fL0,fL0⟩,
 ⟨false,false,fL0,fL0⟩,
 ⟨false,false,fL0,fL0⟩,
 ⟨false,false,fL0,fL0⟩,
 ⟨false,false,fL0,fL0⟩])
 .ret))))
theorem enter43 {xs : List Value} {h : Hp} {Q : Value → Hp → Prop} (hl : xs.length ≤ 46) (w : wq E 46 none c43 (frameOf xs) h [] (leaveQ E [.tmp 6] Q)) : CallP E 43 xs h Q :=
  CallP.enterQ (fn := Try.f43) (fn_get Try.func43) (code := Try.f43.body.get rfl) rfl rfl rfl (by kernel_rfl) rfl (fun _ => rfl) hl w
theorem can43 : callable E 43 = true := callable_get Try.func43 rfl rfl
def c48 : C := (.seq (.ops [kO 1 (.box 26 (kT 0)),
 kO 2 (.alloc 26 [.int .i64 0,.slice none 0 0,.slice none 0 0])])
 (.seq (.ops [kO 9 (.fldA 0 (kT 1)),
 kO 10 (.load1 (kT 9)),
 kO 3 (.mov (kT 10))])
 (.seq (.ops [kO 11 (.mov (kT 3)),
 kO 12 (.mov (kT 3)),
 kO 13 (.ar .i64 .mul (kT 11) (kT 12)),
 kO 14 (.fldA 1 (kT 1)),
 kO 15 (.load1 (kT 14)),
 kO 16 (.aggr [.int .i64 0,.slice none 0 0,.slice none 0 0] [(0,1,(kT 13)),(1,1,(kT 15))]),
 kO 4 (.alloc 26 [.int .i64 0,.slice none 0 0,.slice none 0 0]),
 ⟨none,.store 3 (kT 4) (kT 16),none⟩])
 (.seq (.seq (.ops [kO 5 (.mov (.const (.int .i64 0)))])
 (.block 0 (.loop (.seq (.seq (.ops [kO 17 (.mov (kT 5)),
 kO 18 (.fldA 1 (kT 1)),
 kO 19 (.load1 (kT 18)),
 kO 20 (.lenS (kT 19)),
 kO 21 (.ar .i64 .lss (kT 17) (kT 20))])
 (.cond (kT 21) .skip
 (.exit 0)))
 (.seq (.block 1 (.seq (.ops [kO 6 (.mov (.const (.slice none 0 0)))])
 (.seq (.seq (.ops [kO 7 (.mov (.const (.int .i64 0)))])
 (.block 2 (.loop (.seq (.seq (.ops [kO 24 (.mov (kT 7)),
 kO 25 (.mov (kT 3)),
 kO 26 (.mov (kT 3)),
 kO 27 (.ar .i64 .mul (kT 25) (kT 26)),
 kO 28 (.ar .i64 .lss (kT 24) (kT 27))])
 (.cond (kT 28) .skip
 (.exit 2)))
 (.seq (.block 3 (.draw [kO 31 (.mov (kT 6)),
 kO 32 (.fldA 2 (kT 1)),
 kO 33 (.load1 (kT 32)),
 kO 34 (.fldA 2 (kT 1)),
 kO 35 (.load1 (kT 34)),
 kO 36 (.mov (kT 5)),
 kO 37 (.idxS 1 (kT 35) (kT 36)),
 kO 38 (.load1 (kT 37)),
 kO 39 (.mov (kT 7)),
 kO 40 (.mov (kT 3)),
 kO 41 (.ar .i64 .rem (kT 39) (kT 40)),
 kO 42 (.idxS 1 (kT 38) (kT 41)),
 kO 43 (.load1 (kT 42)),
 kO 44 (.idxS 1 (kT 33) (kT 43)),
 kO 45 (.load1 (kT 44)),
 kO 46 (.mov (kT 7)),
 kO 47 (.mov (kT 3)),
 kO 48 (.ar .i64 .quo (kT 46) (kT 47)),
 kO 49 (.idxS 1 (kT 45) (kT 48)),
 kO 50 (.load1 (kT 49)),
 kO 51 (.slit 3 1 [.int .i64 0] [(0,1,(kT 50))]),
 kO 52 (.append 3 1 8 (kT 31) (kT 51)),
 kO 6 (.mov (kT 52))]
 [⟨false,true,fL1,fL34⟩,
 ⟨false,false,fL1,fL1⟩,
 ⟨false,false,fL1,fL1⟩,
 ⟨false,false,fL1,fL1⟩,
 ⟨false,false,fL1,fL1⟩,
 ⟨false,false,fL1,fL1⟩,
 ⟨false,false,fL1,fL1⟩,
 ⟨false,false,fL1,fL1⟩,
 ⟨false,false,fL1,fL1⟩,
 ⟨false,false,fL1,fL1⟩,
 ⟨false,false,fL1,fL1⟩,
 ⟨false,false,fL1,fL1⟩,
 ⟨false,false,fL1,fL1⟩,
 ⟨false,false,fL1,fL1⟩,
 ⟨false,false,fL1,fL1⟩,
 ⟨false,false,fL1,fL1⟩,
 ⟨false,false,fL1,fL1⟩,
 ⟨false,false,fL1,fL1⟩,
 ⟨false,false,fL1,fL1⟩,
 ⟨false,false,fL1,fL1⟩,
 ⟨true,false,fL1,fL34⟩,
 ⟨true,false,fL34,fL35⟩,
 ⟨false,false,fL35,fL35⟩]))
 (.ops [kO 29 (.mov (kT 7)),
 kO 30 (.ar .i64 .add (kT 29) (.const (.int .i64 1))),
 kO 7 (.mov (kT 30))]))))))
 (.seq (.ops [kO 53 (.fldA 2 (kT 4)),
 kO 54 (.load1 (kT 53)),
 kO 8 (.mov (kT 54))])
 (.ops [kO 55 (.mov (kT 8)),
 kO 56 (.mov (kT 6)),
 kO 57 (.slit 22 1 [.slice none 0 0] [(0,1,(kT 56))]),
 kO 58 (.append 22 1 24 (kT 55) (kT 57)),
 kO 59 (.fldA 2 (kT 4)),
 ⟨none,.store 1 (kT 59) (kT 58),none⟩])))))
 (.ops [kO 22 (.mov (kT 5)),
 kO 23 (.ar .i64 .add (kT 22) (.const (.int .i64 1))),
 kO 5 (.mov (kT 23))]))))))
 (.seq (.ops [kO 60 (.loadN 3 (kT 4)),
 ⟨none,.store 3 (kT 2) (kT 60),none⟩])
 .ret)))))
theorem enter48 {xs : List Value} {h : Hp} {Q : Value → Hp → Prop} (hl : xs.length ≤ 61) (w : wq E 61 none c48 (frameOf xs) h [] (leaveQ E [.cell 2 26] Q)) : CallP E 48 xs h Q :=
  CallP.enterQ (fn := Try.f48) (fn_get Try.func48) (code := Try.f48.body.get rfl) rfl rfl rfl (by kernel_rfl) rfl (fun _ => rfl) hl w
theorem can48 : callable E 48 = true := callable_get Try.func48 rfl rfl
def c49 : C := (.seq (.ops [kO 4 (.mov (.const (.slice none 0 0)))])
 (.seq (.ops [kO 5 (.mov (.const (.slice none 0 0)))])
 (.seq (.ops [kO 6 (.mov (kT 5)),
 kO 7 (.mov (kT 0)),
 kO 8 (.mov (kT 0)),
 kO 9 (.lenS (kT 8)),
 kO 10 (.mov (kT 1)),
 kO 11 (.raw (.call ⟨.builtin .min,⟨[.tmp 9,.tmp 10]⟩,⟨[3,3]⟩⟩) 3),
 kO 12 (.cutS 1 (kT 7) none (some (kT 11)) none),
 kO 13 (.append 3 1 8 (kT 6) (kT 12)),
 kO 4 (.mov (kT 13))])
 .ret)))
theorem enter49 {xs : List Value} {h : Hp} {Q : Value → Hp → Prop} (hl : xs.length ≤ 14) (w : wq E 14 none c49 (frameOf xs) h [] (leaveQ E [.tmp 4] Q)) : CallP E 49 xs h Q :=
  CallP.enterQ (fn := Try.f49) (fn_get Try.func49) (code := Try.f49.body.get rfl) rfl rfl rfl (by kernel_rfl) rfl (fun _ => rfl) hl w
theorem can49 : callable E 49 = true := callable_get Try.func49 rfl rfl
def c50 : C := (.seq (.ops [kO 6 (.alloc 25 [.int .i64 0,.slice none 0 0,.slice none 0 0]),
 kO 7 (.mov (.const (.int .i64 0)))])
 (.seq (.seq (.ops [kO 9 (.mov (kT 0)),
 kO 10 (.ar .i64 .lss (kT 9) (.const (.int .i64 2))),
 kO 11 (.mov (kT 10)),
 ⟨some 12,.mov (kT 0),(some (11,false))⟩,
 ⟨some 13,.ar .i64 .gtr (kT 12) (.const (.int .i64 5)),(some (11,false))⟩,
 kO 14 (.pick (kT 11) (.const (.bool true)) (kT 13)),
 kO 15 (.mov (kT 14)),
 ⟨some 16,.mov (kT 1),(some (15,false))⟩,
 ⟨some 17,.lenS (kT 16),(some (15,false))⟩,
 ⟨some 18,.ar .i64 .gtr (kT 17) (.const (.int .i64 20)),(some (15,false))⟩,
 kO 19 (.pick (kT 15) (.const (.bool true)) (kT 18)),
 kO 20 (.mov (kT 19)),
 ⟨some 21,.mov (kT 2),(some (20,false))⟩,
 ⟨some 22,.lenS (kT 21),(some (20,false))⟩,
 ⟨some 23,.ar .i64 .lss (kT 22) (.const (.int .i64 1)),(some (20,false))⟩,
 kO 24 (.pick (kT 20) (.const (.bool true)) (kT 23)),
 kO 25 (.mov (kT 24)),
 ⟨some 26,.mov (kT 2),(some (25,false))⟩,
 ⟨some 27,.lenS (kT 26),(some (25,false))⟩,
 ⟨some 28,.ar .i64 .gtr (kT 27) (.const (.int .i64 20)),(some (25,false))⟩,
 kO 29 (.pick (kT 25) (.const (.bool true)) (kT 28))])
 (.cond (kT 29) (.seq (.ops [kO 30 (.aggr [.int .i64 0,.slice none 0 0,.slice none 0 0] []),
 ⟨none,.store 3 (kT 6) (kT 30),none⟩,
 kO 7 (.mov (.const (.int .i64 1)))])
 .ret)
 .skip))
 (.seq (.seq (.ops [kO 31 (.mov (kT 1)),
 kO 32 (.call 57 [.tmp 31]),
 kO 33 (.not (kT 32)),
 kO 34 (.mov (kT 33)),
 ⟨some 35,.mov (kT 2),(some (34,false))⟩,
 ⟨some 36,.call 57 [.tmp 35],(some (34,false))⟩,
 ⟨some 37,.not (kT 36),(some (34,false))⟩,
 kO 38 (.pick (kT 34) (.const (.bool true)) (kT 37))])
 (.cond (kT 38) (.seq (.ops [kO 39 (.aggr [.int .i64 0,.slice none 0 0,.slice none 0 0] []),
 ⟨none,.store 3 (kT 6) (kT 39),none⟩,
 kO 7 (.mov (.const (.int .i64 1)))])
 .ret)
 .skip))
 (.seq (.ops [kO 40 (.mov (kT 1)),
 kO 41 (.mov (kT 2)),
 kO 42 (.slit 22 2 [.slice none 0 0,.slice none 0 0] [(0,1,(kT 40)),(1,1,(kT 41))]),
 kO 43 (.call 84 [.tmp 42]),
 kO 44 (.mov (kT 1)),
 kO 45 (.lenS (kT 44)),
 kO 46 (.aggr [.slice none 0 0,.int .i64 0] [(0,1,(kT 43)),(1,1,(kT 45))]),
 kO 8 (.alloc 121 [.slice none 0 0,.int .i64 0]),
 ⟨none,.store 2 (kT 8) (kT 46),none⟩])
 (.seq (.ops [kO 47 (.loadN 2 (kT 8)),
 kO 48 (.mov (kT 0)),
 kO 49 (.call 85 [.tmp 47,.tmp 48]),
 kO 50 (.call 66 [.tmp 49]),
 kO 51 (.ext (kT 50) 0),
 kO 52 (.ext (kT 50) 1),
 ⟨none,.store 3 (kT 6) (kT 51),none⟩,
 kO 7 (.mov (kT 52))])
 .ret)))))
theorem enter50 {xs : List Value} {h : Hp} {Q : Value → Hp → Prop} (hl : xs.length ≤ 53) (w : wq E 53 none c50 (frameOf xs) h [] (leaveQ E [.cell 6 25,.tmp 7] Q)) : CallP E 50 xs h Q :=
  CallP.enterQ (fn := Try.f50) (fn_get Try.func50) (code := Try.f50.body.get rfl) rfl rfl rfl (by kernel_rfl) rfl (fun _ => rfl) hl w
theorem can50 : callable E 50 = true := callable_get Try.func50 rfl rfl
def c57 : C := (.seq (.ops [kO 2 (.mov (.const (.bool false)))])
 (.seq (.ops [kO 3 (.mov (kT 0)),
 kO 4 (.call 59 [.tmp 3,.func 89]),
 kO 5 (.not (kT 4)),
 kO 2 (.mov (kT 5))])
 .ret))
theorem enter57 {xs : List Value} {h : Hp} {Q : Value → Hp → Prop} (hl : xs.length ≤ 6) (w : wq E 6 none c57 (frameOf xs) h [] (leaveQ E [.tmp 2] Q)) : CallP E 57 xs h Q :=
  CallP.enterQ (fn := Try.f57) (fn_get Try.func57) (code := Try.f57.body.get rfl) rfl rfl rfl (by kernel_rfl) rfl (fun _ => rfl) hl w
theorem can57 : callable E 57 = true := callable_get Try.func57 rfl rfl
def c58 : C := (.seq (.ops [kO 3 (.mov (.const (.bool false)))])
 (.seq (.ops [kO 4 (.mov (kT 0)),
 kO 5 (.ar .i64 .lss (kT 4) (.const (.int .i64 0))),
 kO 6 (.mov (kT 5)),
 ⟨some 7,.mov (kT 0),(some (6,false))⟩,
 ⟨some 8,.load1 (kT 1),(some (6,false))⟩,
 ⟨some 9,.ar .i64 .geq (kT 7) (kT 8),(some (6,false))⟩,
 kO 10 (.pick (kT 6) (.const (.bool true)) (kT 9)),
 kO 3 (.mov (kT 10))])
 .ret))
theorem enter58 {xs : List Value} {h : Hp} {Q : Value → Hp → Prop} (hl : xs.length ≤ 11) (w : wq E 11 none c58 (frameOf xs) h [] (leaveQ E [.tmp 3] Q)) : CallP E 58 xs h Q :=
  CallP.enterQ (fn := Try.f58) (fn_get Try.func58) (code := Try.f58.body.get rfl) rfl rfl rfl (by kernel_rfl) rfl (fun _ => rfl) hl w
theorem can58 : callable E 58 = true := callable_get Try.func58 rfl rfl
def c59 : C := (.seq (.ops [kO 4 (.mov (.const (.bool false)))])
 (.seq (.ops [kO 5 (.mov (kT 0)),
 kO 6 (.mov (kT 1)),
 kO 7 (.call 90 [.tmp 5,.tmp 6]),
 kO 8 (.ar .i64 .geq (kT 7) (.const (.int .i64 0))),
 kO 4 (.mov (kT 8))])
 .ret))
theorem enter59 {xs : List Value} {h : Hp} {Q : Value → Hp → Prop} (hl : xs.length ≤ 9) (w : wq E 9 none c59 (frameOf xs) h [] (leaveQ E [.tmp 4] Q)) : CallP E 59 xs h Q :=
  CallP.enterQ (fn := Try.f59) (fn_get Try.func59) (code := Try.f59.body.get rfl) rfl rfl rfl (by kernel_rfl) rfl (fun _ => rfl) hl w
theorem can59 : callable E 59 = true := callable_get Try.func59 rfl rfl
def c60 : C := (.seq (.ops [kO 0 (.alloc 26 [.int .i64 0,.slice none 0 0,.slice none 0 0])])
 (.seq (.ops [kO 1 (.slit 3 2 [.int .i64 0,.int .i64 0] [(0,1,(.const (.int .i64 0))),(1,1,(.const (.int .i64 1)))]),
 kO 2 (.slit 3 2 [.int .i64 0,.int .i64 0] [(0,1,(.const (.int .i64 0))),(1,1,(.const (.int .i64 1)))]),
 kO 3 (.slit 3 2 [.int .i64 0,.int .i64 0] [(0,1,(.const (.int .i64 1))),(1,1,(.const (.int .i64 0)))]),
 kO 4 (.slit 22 2 [.slice none 0 0,.slice none 0 0] [(0,1,(kT 2)),(1,1,(kT 3))]),
 kO 5 (.aggr [.int .i64 0,.slice none 0 0,.slice none 0 0] [(0,1,(.const (.int .i64 2))),(1,1,(kT 1)),(2,1,(kT 4))]),
 ⟨none,.store 3 (kT 0) (kT 5),none⟩])
 .ret))
theorem enter60 {xs : List Value} {h : Hp} {Q : Value → Hp → Prop} (hl : xs.length ≤ 6) (w : wq E 6 none c60 (frameOf xs) h [] (leaveQ E [.cell 0 26] Q)) : CallP E 60 xs h Q :=
  CallP.enterQ (fn := Try.f60) (fn_get Try.func60) (code := Try.f60.body.get rfl) rfl rfl rfl (by kernel_rfl) rfl (fun _ => rfl) hl w
theorem can60 : callable E 60 = true := callable_get Try.func60 rfl rfl
def c61 : C := (.seq (.ops [kO 4 (.mov (.const (.bool false)))])
 (.seq (.seq (.ops [kO 6 (.mov (kT 0)),
 kO 7 (.lenS (kT 6)),
 kO 8 (.mov (kT 1)),
 kO 9 (.lenS (kT 8)),
 kO 10 (.ar .i64 .neq (kT 7) (kT 9))])
 (.cond (kT 10) (.seq (.ops [kO 4 (.mov (.const (.bool false)))])
 .ret)
 .skip))
 (.seq (.seq (.ops [kO 5 (.mov (.const (.int .i64 0)))])
 (.block 0 (.loop (.seq (.seq (.ops [kO 11 (.mov (kT 5)),
 kO 12 (.mov (kT 0)),
 kO 13 (.lenS (kT 12)),
 kO 14 (.ar .i64 .lss (kT 11) (kT 13))])
 (.cond (kT 14) .skip
 (.exit 0)))
 (.seq (.block 1 (.seq (.ops [kO 17 (.mov (kT 0)),
 kO 18 (.mov (kT 5)),
 kO 19 (.idxS 1 (kT 17) (kT 18)),
 kO 20 (.load1 (kT 19)),
 kO 21 (.mov (kT 1)),
 kO 22 (.mov (kT 5)),
 kO 23 (.idxS 1 (kT 21) (kT 22)),
 kO 24 (.load1 (kT 23)),
 kO 25 (.ar .i64 .neq (kT 20) (kT 24))])
 (.cond (kT 25) (.seq (.ops [kO 4 (.mov (.const (.bool false)))])
 .ret)
 .skip)))
 (.ops [kO 15 (.mov (kT 5)),
 kO 16 (.ar .i64 .add (kT 15) (.const (.int .i64 1))),
 kO 5 (.mov (kT 16))]))))))
 (.seq (.ops [kO 4 (.mov (.const (.bool true)))])
 .ret))))
theorem enter61 {xs : List Value} {h : Hp} {Q : Value → Hp → Prop} (hl : xs.length ≤ 26) (w : wq E 26 none c61 (frameOf xs) h [] (leaveQ E [.tmp 4] Q)) : CallP E 61 xs h Q :=
  CallP.enterQ (fn := Try.f61) (fn_get Try.func61) (code := Try.f61.body.get rfl) rfl rfl rfl (by kernel_rfl) rfl (fun _ => rfl) hl w
theorem can61 : callable E 61 = true := callable_get Try.func61 rfl rfl
def c62 : C := (.seq (.ops [kO 3 (.box 25 (kT 0)),
 kO 4 (.box 3 (kT 1)),
 kO 6 (.mov (.const (.int .i64 0)))])
 (.seq (.seq (.ops [kO 8 (.mov (kT 2)),
 kO 9 (.fldA 0 (kT 3)),
 kO 10 (.load1 (kT 9)),
 kO 11 (.call 91 [.tmp 8,.tmp 10])])
 (.block 0 (.range (kT 11) ⟨[12]⟩ (.ops [kO 7 (.mov (kT 12))])
 (.block 1 (.ops [kO 13 (.fldA 2 (kT 3)),
 kO 14 (.load1 (kT 13)),
 kO 15 (.load1 (kT 4)),
 kO 16 (.idxS 1 (kT 14) (kT 15)),
 kO 17 (.load1 (kT 16)),
 kO 18 (.mov (kT 7)),
 kO 19 (.idxS 1 (kT 17) (kT 18)),
 kO 20 (.load1 (kT 19)),
 ⟨none,.store 1 (kT 4) (kT 20),none⟩])))))
 (.seq (.ops [kO 21 (.fldA 1 (kT 3)),
 kO 22 (.load1 (kT 21)),
 kO 23 (.load1 (kT 4)),
 kO 24 (.idxS 1 (kT 22) (kT 23)),
 kO 25 (.load1 (kT 24)),
 kO 6 (.mov (kT 25))])
 .ret)))
theorem enter62 {xs : List Value} {h : Hp} {Q : Value → Hp → Prop} (hl : xs.length ≤ 26) (w : wq E 26 none c62 (frameOf xs) h [] (leaveQ E [.tmp 6] Q)) : CallP E 62 xs h Q :=
  CallP.enterQ (fn := Try.f62) (fn_get Try.func62) (code := Try.f62.body.get rfl) rfl rfl rfl (by kernel_rfl) rfl (fun _ => rfl) hl w
theorem can62 : callable E 62 = true := callable_get Try.func62 rfl rfl
def c63 : C := (.seq (.ops [kO 1 (.box 25 (kT 0)),
 kO 2 (.alloc 25 [.int .i64 0,.slice none 0 0,.slice none 0 0])])
 (.seq (.ops [kO 11 (.loadN 3 (kT 1)),
 kO 12 (.call 92 [.tmp 11]),
 kO 3 (.alloc 22 [.slice none 0 0]),
 ⟨none,.store 1 (kT 3) (kT 12),none⟩])
 (.seq (.ops [kO 13 (.newMap),
 kO 4 (.alloc 114 [.map none]),
 ⟨none,.store 1 (kT 4) (kT 13),none⟩])
 (.seq (.seq (.ops [kO 14 (.load1 (kT 3)),
 kO 15 (.lenS (kT 14)),
 kO 16 (.mov (.const (.int .i64 0)))])
 (.block 0 (.loop (.seq (.ops [kO 17 (.ar .i64 .lss (kT 16) (kT 15))])
 (.seq (.cond (kT 17) .skip
 (.exit 0))
 (.seq (.block 1 (.seq (.ops [kO 18 (.mov (kT 16)),
 kO 19 (.idxS 1 (kT 14) (kT 16)),
 kO 20 (.load1 (kT 19)),
 kO 5 (.mov (kT 18)),
 kO 6 (.mov (kT 20))])
 (.seq (.ops [kO 22 (.load1 (kT 4)),
 kO 23 (.mov (kT 6)),
 kO 24 (.raw (.lookup 114 (kT 22) (kT 23) true) 115),
 kO 21 (.mov (kT 24)),
 kO 25 (.ext (kT 21) 0),
 kO 26 (.ext (kT 21) 1),
 kO 7 (.mov (kT 25)),
 kO 8 (.mov (kT 26))])
 (.seq (.ops [kO 27 (.mov (kT 8)),
 kO 28 (.not (kT 27))])
 (.cond (kT 28) (.ops [kO 29 (.load1 (kT 4)),
 kO 30 (.mov (kT 6)),
 kO 31 (.mov (kT 5)),
 ⟨none,.raw (.mapUpdate 114 (kT 29) (kT 30) (kT 31)) 0,none⟩])
 .skip)))))
 (.ops [kO 32 (.ar .i64 .add (kT 16) (.const (.int .i64 1))),
 kO 16 (.mov (kT 32))])))))))
 (.seq (.ops [kO 33 (.func (.func 93) [] [.tmp 1,.tmp 4]),
 kO 9 (.mov (kT 33))])
 (.seq (.ops [kO 34 (.func (.func 94) [] [.tmp 3,.tmp 1,.tmp 4]),
 kO 10 (.mov (kT 34))])
 (.seq (.ops [kO 35 (.fldA 0 (kT 1)),
 kO 36 (.load1 (kT 35)),
 kO 37 (.load1 (kT 3)),
 kO 38 (.idxS 1 (kT 37) (.const (.int .i64 0))),
 kO 39 (.load1 (kT 38)),
 kO 40 (.mov (kT 9)),
 kO 41 (.mov (kT 10)),
 kO 42 (.call 70 [.tmp 36,.tmp 39,.tmp 40,.tmp 41]),
 ⟨none,.store 3 (kT 2) (kT 42),none⟩])
 .ret)))))))
theorem enter63 {xs : List Value} {h : Hp} {Q : Value → Hp → Prop} (hl : xs.length ≤ 43) (w : wq E 43 none c63 (frameOf xs) h [] (leaveQ E [.cell 2 25] Q)) : CallP E 63 xs h Q :=
  CallP.enterQ (fn := Try.f63) (fn_get Try.func63) (code := Try.f63.body.get rfl) rfl rfl rfl (by kernel_rfl) rfl (fun _ => rfl) hl w
theorem can63 : callable E 63 = true := callable_get Try.func63 rfl rfl
def c65 : C := (.seq (.ops [kO 2 (.box 25 (kT 0)),
 kO 3 (.box 25 (kT 1)),
 kO 4 (.mov (.const (.int .i64 0))),
 kO 5 (.mov (.const (.bool false)))])
 (.scope (.seq (.ops [kO 16 (.aggr [.int .i64 0,.int .i64 0] [(0,1,(.const (.int .i64 0))),(1,1,(.const (.int .i64 0)))]),
 kO 6 (.alloc 106 [.int .i64 0,.int .i64 0]),
 ⟨none,.store 2 (kT 6) (kT 16),none⟩])
 (.seq (.ops [kO 17 (.newMap),
 kO 18 (.loadN 2 (kT 6)),
 ⟨none,.raw (.insert 131 (kT 17) (kT 18) (.const (.bool true))) 0,none⟩,
 kO 19 (.mov (kT 17)),
 kO 7 (.mov (kT 19))])
 (.seq (.ops [kO 20 (.loadN 2 (kT 6)),
 kO 21 (.aggr [.int .i64 0,.int .i64 0,.int .i64 0,.int .i64 0] [(0,2,(kT 20)),(2,1,(.const (.int .i64 (-1))))]),
 kO 22 (.slit 133 1 [.int .i64 0,.int .i64 0,.int .i64 0,.int .i64 0] [(0,4,(kT 21))]),
 kO 8 (.mov (kT 22))])
 (.seq (.ops [kO 9 (.mov (.const (.int .i64 (-1))))])
 (.seq .skip
 (.seq (.seq (.ops [kO 10 (.mov (.const (.int .i64 0)))])
 (.block 0 (.loop (.seq (.seq (.ops [kO 23 (.mov (kT 10)),
 kO 24 (.mov (kT 8)),
 kO 25 (.lenS (kT 24)),
 kO 26 (.ar .i64 .lss (kT 23) (kT 25))])
 (.cond (kT 26) .skip
 (.exit 0)))
 (.seq (.block 1 (.seq (.ops [kO 29 (.mov (kT 8)),
 kO 30 (.mov (kT 10)),
 kO 31 (.idxS 4 (kT 29) (kT 30)),
 kO 32 (.fldA 0 (kT 31)),
 kO 33 (.loadN 2 (kT 32)),
 kO 11 (.alloc 106 [.int .i64 0,.int .i64 0]),
 ⟨none,.store 2 (kT 11) (kT 33),none⟩])
 (.seq (.seq (.ops [kO 34 (.fldA 1 (kT 2)),
 kO 35 (.load1 (kT 34)),
 kO 36 (.fldA 0 (kT 11)),
 kO 37 (.load1 (kT 36)),
 kO 38 (.idxS 1 (kT 35) (kT 37)),
 kO 39 (.load1 (kT 38)),
 kO 40 (.fldA 1 (kT 3)),
 kO 41 (.load1 (kT 40)),
 kO 42 (.fldA 1 (kT 11)),
 kO 43 (.load1 (kT 42)),
 kO 44 (.idxS 1 (kT 41) (kT 43)),
 kO 45 (.load1 (kT 44)),
 kO 46 (.ar .i64 .neq (kT 39) (kT 45))])
 (.cond (kT 46) (.seq (.ops [kO 47 (.mov (kT 10)),
 kO 9 (.mov (kT 47))])
 (.exit 0))
 .skip))
 (.seq (.ops [kO 48 (.fldA 0 (kT 2)),
 kO 49 (.load1 (kT 48)),
 kO 50 (.mov (.const (.int .i64 0)))])
 (.block 2 (.loop (.seq (.ops [kO 51 (.ar .i64 .lss (kT 50) (kT 49))])
 (.seq (.cond (kT 51) .skip
 (.exit 2))
 (.seq (.block 3 (.seq (.ops [kO 52 (.mov (kT 50)),
 kO 12 (.mov (kT 52))])
 (.seq (.draw [kO 53 (.fldA 2 (kT 2)),
 kO 54 (.load1 (kT 53)),
 kO 55 (.fldA 0 (kT 11)),
 kO 56 (.load1 (kT 55)),
 kO 57 (.idxS 1 (kT 54) (kT 56)),
 kO 58 (.load1 (kT 57)),
 kO 59 (.mov (kT 12)),
 kO 60 (.idxS 1 (kT 58) (kT 59)),
 kO 61 (.load1 (kT 60)),
 kO 62 (.fldA 2 (kT 3)),
 kO 63 (.load1 (kT 62)),
 kO 64 (.fldA 1 (kT 11)),
 kO 65 (.load1 (kT 64)),
 kO 66 (.idxS 1 (kT 63) (kT 65)),
 kO 67 (.load1 (kT 66)),
 kO 68 (.mov (kT 12)),
 kO 69 (.idxS 1 (kT 67) (kT 68)),
 kO 70 (.load1 (kT 69)),
 kO 71 (.aggr [.int .i64 0,.int .i64 0] [(0,1,(kT 61)),(1,1,(kT 70))]),
 kO 13 (.alloc 106 [.int .i64 0,.int .i64 0]),
 ⟨none,.store 2 (kT 13) (kT 71),none⟩]
 [⟨false,true,fL5,fL4⟩,
 ⟨false,true,fL5,fL4⟩,
 ⟨false,true,fL5,fL4⟩,
 ⟨false,true,fL5,fL4⟩,
 ⟨false,true,fL5,fL4⟩,
 ⟨false,true,fL5,fL4⟩,
 ⟨false,true,fL5,fL4⟩,
 ⟨false,true,fL5,fL4⟩,
 ⟨false,true,fL5,fL4⟩,
 ⟨false,true,fL5,fL4⟩,
 ⟨false,true,fL5,fL4⟩,
 ⟨false,true,fL5,fL4⟩,
 ⟨false,true,fL5,fL4⟩,
 ⟨false,true,fL5,fL4⟩,
 ⟨false,true,fL5,fL4⟩,
 ⟨false,true,fL5,fL4⟩,
 ⟨false,true,fL5,fL4⟩,
 ⟨false,true,fL5,fL4⟩,
 ⟨false,true,fL5,fL4⟩,
 ⟨true,false,fL5,fL4⟩,
 ⟨true,false,fL4,[false,false,false,false,false,false,false,false,false,false,false,false,false,false,false,false,false,false,false,true,true]⟩])
 (.seq (.ops [kO 72 (.mov (kT 7)),
 kO 73 (.loadN 2 (kT 13)),
 kO 74 (.raw (.lookup 131 (kT 72) (kT 73) false) 4),
 kO 75 (.not (kT 74))])
 (.cond (kT 75) (.seq (.ops [kO 76 (.mov (kT 7)),
 kO 77 (.loadN 2 (kT 13)),
 ⟨none,.raw (.mapUpdate 131 (kT 76) (kT 77) (.const (.bool true))) 0,none⟩])
 (.ops [kO 78 (.mov (kT 8)),
 kO 79 (.loadN 2 (kT 13)),
 kO 80 (.mov (kT 10)),
 kO 81 (.mov (kT 12)),
 kO 82 (.aggr [.int .i64 0,.int .i64 0,.int .i64 0,.int .i64 0] [(0,2,(kT 79)),(2,1,(kT 80)),(3,1,(kT 81))]),
 kO 83 (.slit 133 1 [.int .i64 0,.int .i64 0,.int .i64 0,.int .i64 0] [(0,4,(kT 82))]),
 kO 84 (.append 133 4 32 (kT 78) (kT 83)),
 kO 8 (.mov (kT 84))]))
 .skip)))))
 (.ops [kO 85 (.ar .i64 .add (kT 50) (.const (.int .i64 1))),
 kO 50 (.mov (kT 85))]))))))))))
 (.ops [kO 27 (.mov (kT 10)),
 kO 28 (.ar .i64 .add (kT 27) (.const (.int .i64 1))),
 kO 10 (.mov (kT 28))]))))))
 (.seq (.seq (.ops [kO 86 (.mov (kT 9)),
 kO 87 (.ar .i64 .lss (kT 86) (.const (.int .i64 0)))])
 (.cond (kT 87) (.seq (.ops [kO 4 (.mov (.const (.int .i64 0))),
 kO 5 (.mov (.const (.bool false)))])
 .ret)
 .skip))
 (.seq (.ops [kO 14 (.mov (.const (.int .i64 0)))])
 (.seq (.seq (.ops [kO 88 (.mov (kT 9)),
 kO 15 (.mov (kT 88))])
 (.block 4 (.loop (.seq (.seq (.ops [kO 89 (.mov (kT 8)),
 kO 90 (.mov (kT 15)),
 kO 91 (.idxS 4 (kT 89) (kT 90)),
 kO 92 (.fldA 2 (kT 91)),
 kO 93 (.load1 (kT 92)),
 kO 94 (.ar .i64 .geq (kT 93) (.const (.int .i64 0)))])
 (.cond (kT 94) .skip
 (.exit 4)))
 (.seq (.block 5 (.ops [kO 100 (.mov (kT 14)),
 kO 101 (.fldA 0 (kT 2)),
 kO 102 (.load1 (kT 101)),
 kO 103 (.ar .i64 .mul (kT 100) (kT 102)),
 kO 104 (.mov (kT 8)),
 kO 105 (.mov (kT 15)),
 kO 106 (.idxS 4 (kT 104) (kT 105)),
 kO 107 (.fldA 3 (kT 106)),
 kO 108 (.load1 (kT 107)),
 kO 109 (.ar .i64 .add (kT 103) (kT 108)),
 kO 14 (.mov (kT 109))]))
 (.ops [kO 95 (.mov (kT 8)),
 kO 96 (.mov (kT 15)),
 kO 97 (.idxS 4 (kT 95) (kT 96)),
 kO 98 (.fldA 2 (kT 97)),
 kO 99 (.load1 (kT 98)),
 kO 15 (.mov (kT 99))]))))))
 (.seq (.ops [kO 110 (.mov (kT 14)),
 kO 4 (.mov (kT 110)),
 kO 5 (.mov (.const (.bool true)))])
 .ret))))))))))))
theorem enter65 {xs : List Value} {h : Hp} {Q : Value → Hp → Prop} (hl : xs.length ≤ 111) (w : wq E 111 none c65 (frameOf xs) h [] (leaveQ E [.tmp 4,.tmp 5] Q)) : CallP E 65 xs h Q :=
  CallP.enterQ (fn := Try.f65) (fn_get Try.func65) (code := Try.f65.body.get rfl) rfl rfl rfl (by kernel_rfl) rfl (fun _ => rfl) hl w
theorem can65 : callable E 65 = true := callable_get Try.func65 rfl rfl
def c66 : C := (.seq (.ops [kO 1 (.box 25 (kT 0)),
 kO 2 (.alloc 25 [.int .i64 0,.slice none 0 0,.slice none 0 0]),
 kO 3 (.mov (.const (.int .i64 0)))])
 (.seq (.ops [kO 5 (.loadN 3 (kT 1)),
 kO 6 (.call 63 [.tmp 5]),
 kO 4 (.alloc 25 [.int .i64 0,.slice none 0 0,.slice none 0 0]),
 ⟨none,.store 3 (kT 4) (kT 6),none⟩])
 (.seq (.seq (.ops [kO 7 (.fldA 1 (kT 4)),
 kO 8 (.load1 (kT 7)),
 kO 9 (.lenS (kT 8)),
 kO 10 (.ar .i64 .gtr (kT 9) (.const (.int .i64 12)))])
 (.cond (kT 10) (.seq (.ops [kO 11 (.aggr [.int .i64 0,.slice none 0 0,.slice none 0 0] []),
 ⟨none,.store 3 (kT 2) (kT 11),none⟩,
 kO 3 (.mov (.const (.int .i64 8)))])
 .ret)
 .skip))
 (.seq (.ops [kO 12 (.loadN 3 (kT 4)),
 ⟨none,.store 3 (kT 2) (kT 12),none⟩,
 kO 3 (.mov (.const (.int .i64 0)))])
 .ret))))
theorem enter66 {xs : List Value} {h : Hp} {Q : Value → Hp → Prop} (hl : xs.length ≤ 13) (w : wq E 13 none c66 (frameOf xs) h [] (leaveQ E [.cell 2 25,.tmp 3] Q)) : CallP E 66 xs h Q :=
  CallP.enterQ (fn := Try.f66) (fn_get Try.func66) (code := Try.f66.body.get rfl) rfl rfl rfl (by kernel_rfl) rfl (fun _ => rfl) hl w
theorem can66 : callable E 66 = true := callable_get Try.func66 rfl rfl
def c67 : C := (.seq (.ops [kO 3 (.box 25 (kT 0)),
 kO 4 (.box 3 (kT 1)),
 kO 6 (.alloc 25 [.int .i64 0,.slice none 0 0,.slice none 0 0])])
 (.seq (.ops [kO 9 (.func (.func 95) [] [.tmp 3]),
 kO 7 (.mov (kT 9))])
 (.seq (.ops [kO 10 (.func (.func 96) [] [.tmp 4,.tmp 3]),
 kO 8 (.mov (kT 10))])
 (.seq (.ops [kO 11 (.fldA 0 (kT 3)),
 kO 12 (.load1 (kT 11)),
 kO 13 (.mov (kT 2)),
 kO 14 (.aggr [.int .i64 0,.int .i64 0] [(0,1,(.const (.int .i64 0))),(1,1,(kT 13))]),
 kO 15 (.mov (kT 7)),
 kO 16 (.mov (kT 8)),
 kO 17 (.call 97 [.tmp 12,.tmp 14,.tmp 15,.tmp 16]),
 ⟨none,.store 3 (kT 6) (kT 17),none⟩])
 .ret))))
theorem enter67 {xs : List Value} {h : Hp} {Q : Value → Hp → Prop} (hl : xs.length ≤ 18) (w : wq E 18 none c67 (frameOf xs) h [] (leaveQ E [.cell 6 25] Q)) : CallP E 67 xs h Q :=
  CallP.enterQ (fn := Try.f67) (fn_get Try.func67) (code := Try.f67.body.get rfl) rfl rfl rfl (by kernel_rfl) rfl (fun _ => rfl) hl w
theorem can67 : callable E 67 = true := callable_get Try.func67 rfl rfl
def c70 : C := (.seq (.ops [kO 8 (.alloc 25 [.int .i64 0,.slice none 0 0,.slice none 0 0])])
 (.seq (.ops [kO 18 (.mov (kT 0)),
 kO 19 (.aggr [.int .i64 0,.slice none 0 0,.slice none 0 0] [(0,1,(kT 18))]),
 kO 9 (.alloc 25 [.int .i64 0,.slice none 0 0,.slice none 0 0]),
 ⟨none,.store 3 (kT 9) (kT 19),none⟩])
 (.seq (.ops [kO 20 (.newMap),
 kO 21 (.mov (kT 1)),
 ⟨none,.raw (.insert 114 (kT 20) (kT 21) (.const (.int .i64 0))) 0,none⟩,
 kO 22 (.mov (kT 20)),
 kO 10 (.mov (kT 22))])
 (.seq (.ops [kO 23 (.mov (kT 1)),
 kO 24 (.slit 3 1 [.int .i64 0] [(0,1,(kT 23))]),
 kO 11 (.mov (kT 24))])
 (.seq (.seq (.ops [kO 12 (.mov (.const (.int .i64 0)))])
 (.block 0 (.loop (.seq (.seq (.ops [kO 25 (.mov (kT 12)),
 kO 26 (.mov (kT 11)),
 kO 27 (.lenS (kT 26)),
 kO 28 (.ar .i64 .lss (kT 25) (kT 27))])
 (.cond (kT 28) .skip
 (.exit 0)))
 (.seq (.block 1 (.seq (.draw [kO 31 (.fldA 1 (kT 9)),
 kO 32 (.load1 (kT 31)),
 kO 33 (.mov (kT 2)),
 kO 34 (.mov (kT 11)),
 kO 35 (.mov (kT 12)),
 kO 36 (.idxS 1 (kT 34) (kT 35)),
 kO 37 (.load1 (kT 36)),
 kO 38 (.callv (kT 33) [.tmp 37]),
 kO 39 (.slit 3 1 [.int .i64 0] [(0,1,(kT 38))]),
 kO 40 (.append 3 1 8 (kT 32) (kT 39)),
 kO 41 (.fldA 1 (kT 9)),
 ⟨none,.store 1 (kT 41) (kT 40),none⟩]
 [⟨false,true,fL2,fL12⟩,
 ⟨false,true,fL2,fL12⟩,
 ⟨false,false,fL2,fL2⟩,
 ⟨false,false,fL2,fL2⟩,
 ⟨false,false,fL2,fL2⟩,
 ⟨false,false,fL2,fL2⟩,
 ⟨false,false,fL2,fL2⟩,
 ⟨true,false,fL2,fL20⟩,
 ⟨true,false,fL20,fL12⟩,
 ⟨true,false,fL12,fL13⟩,
 ⟨false,false,fL13,fL13⟩,
 ⟨true,false,fL13,fL36⟩])
 (.seq (.ops [kO 42 (.mov (kT 0)),
 kO 43 (.make 3 [.int .i64 0] 8 (kT 42) (kT 42)),
 kO 13 (.mov (kT 43))])
 (.seq (.seq (.ops [kO 44 (.mov (kT 13)),
 kO 45 (.lenS (kT 44)),
 kO 46 (.mov (.const (.int .i64 0)))])
 (.block 2 (.loop (.seq (.ops [kO 47 (.ar .i64 .lss (kT 46) (kT 45))])
 (.seq (.cond (kT 47) .skip
 (.exit 2))
 (.seq (.block 3 (.seq (.ops [kO 48 (.mov (kT 46)),
 kO 14 (.mov (kT 48))])
 (.seq (.ops [kO 49 (.mov (kT 3)),
 kO 50 (.mov (kT 11)),
 kO 51 (.mov (kT 12)),
 kO 52 (.idxS 1 (kT 50) (kT 51)),
 kO 53 (.load1 (kT 52)),
 kO 54 (.mov (kT 14)),
 kO 55 (.callv (kT 49) [.tmp 53,.tmp 54]),
 kO 15 (.mov (kT 55))])
 (.seq (.seq (.ops [kO 57 (.mov (kT 10)),
 kO 58 (.mov (kT 15)),
 kO 59 (.raw (.lookup 114 (kT 57) (kT 58) true) 115),
 kO 56 (.mov (kT 59)),
 kO 60 (.ext (kT 56) 0),
 kO 61 (.ext (kT 56) 1),
 kO 16 (.mov (kT 60)),
 kO 17 (.mov (kT 61))])
 (.seq (.ops [kO 62 (.mov (kT 17)),
 kO 63 (.not (kT 62))])
 (.cond (kT 63) (.seq (.ops [kO 64 (.mov (kT 10)),
 kO 65 (.mov (kT 15)),
 kO 66 (.mov (kT 11)),
 kO 67 (.lenS (kT 66)),
 ⟨none,.raw (.mapUpdate 114 (kT 64) (kT 65) (kT 67)) 0,none⟩])
 (.ops [kO 68 (.mov (kT 11)),
 kO 69 (.mov (kT 15)),
 kO 70 (.slit 3 1 [.int .i64 0] [(0,1,(kT 69))]),
 kO 71 (.append 3 1 8 (kT 68) (kT 70)),
 kO 11 (.mov (kT 71))]))
 .skip)))
 (.ops [kO 72 (.mov (kT 13)),
 kO 73 (.mov (kT 14)),
 kO 74 (.mov (kT 10)),
 kO 75 (.mov (kT 15)),
 kO 76 (.raw (.lookup 114 (kT 74) (kT 75) false) 3),
 kO 77 (.idxS 1 (kT 72) (kT 73)),
 ⟨none,.store 1 (kT 77) (kT 76),none⟩])))))
 (.ops [kO 78 (.ar .i64 .add (kT 46) (.const (.int .i64 1))),
 kO 46 (.mov (kT 78))])))))))
 (.ops [kO 79 (.fldA 2 (kT 9)),
 kO 80 (.load1 (kT 79)),
 kO 81 (.mov (kT 13)),
 kO 82 (.slit 22 1 [.slice none 0 0] [(0,1,(kT 81))]),
 kO 83 (.append 22 1 24 (kT 80) (kT 82)),
 kO 84 (.fldA 2 (kT 9)),
 ⟨none,.store 1 (kT 84) (kT 83),none⟩])))))
 (.ops [kO 29 (.mov (kT 12)),
 kO 30 (.ar .i64 .add (kT 29) (.const (.int .i64 1))),
 kO 12 (.mov (kT 30))]))))))
 (.seq (.ops [kO 85 (.loadN 3 (kT 9)),
 ⟨none,.store 3 (kT 8) (kT 85),none⟩])
 .ret))))))
theorem enter70 {xs : List Value} {h : Hp} {Q : Value → Hp → Prop} (hl : xs.length ≤ 86) (w : wq E 86 none c70 (frameOf xs) h [] (leaveQ E [.cell 8 25] Q)) : CallP E 70 xs h Q :=
  CallP.enterQ (fn := Try.f70) (fn_get Try.func70) (code := Try.f70.body.get rfl) rfl rfl rfl (by kernel_rfl) rfl (fun _ => rfl) hl w
theorem can70 : callable E 70 = true := callable_get Try.func70 rfl rfl
def c75 : C := (.seq (.ops [kO 3 (.mov (.const (.int .i64 0)))])
 (.seq (.ops [kO 4 (.fldA 1 (kT 1)),
 kO 5 (.load1 (kT 4)),
 kO 6 (.mov (kT 0)),
 kO 7 (.idxS 1 (kT 5) (kT 6)),
 kO 8 (.load1 (kT 7)),
 kO 3 (.mov (kT 8))])
 .ret))
theorem enter75 {xs : List Value} {h : Hp} {Q : Value → Hp → Prop} (hl : xs.length ≤ 9) (w : wq E 9 none c75 (frameOf xs) h [] (leaveQ E [.tmp 3] Q)) : CallP E 75 xs h Q :=
  CallP.enterQ (fn := Try.f75) (fn_get Try.func75) (code := Try.f75.body.get rfl) rfl rfl rfl (by kernel_rfl) rfl (fun _ => rfl) hl w
theorem can75 : callable E 75 = true := callable_get Try.func75 rfl rfl
def c76 : C := (.seq (.ops [kO 5 (.mov (.const (.int .i64 0)))])
 (.seq (.ops [kO 6 (.fldA 2 (kT 2)),
 kO 7 (.load1 (kT 6)),
 kO 8 (.fldA 2 (kT 2)),
 kO 9 (.load1 (kT 8)),
 kO 10 (.mov (kT 0)),
 kO 11 (.idxS 1 (kT 9) (kT 10)),
 kO 12 (.load1 (kT 11)),
 kO 13 (.mov (kT 1)),
 kO 14 (.ar .i64 .rem (kT 13) (.const (.int .i64 2))),
 kO 15 (.idxS 1 (kT 12) (kT 14)),
 kO 16 (.load1 (kT 15)),
 kO 17 (.idxS 1 (kT 7) (kT 16)),
 kO 18 (.load1 (kT 17)),
 kO 19 (.mov (kT 1)),
 kO 20 (.ar .i64 .quo (kT 19) (.const (.int .i64 2))),
 kO 21 (.idxS 1 (kT 18) (kT 20)),
 kO 22 (.load1 (kT 21)),
 kO 5 (.mov (kT 22))])
 .ret))
theorem enter76 {xs : List Value} {h : Hp} {Q : Value → Hp → Prop} (hl : xs.length ≤ 23) (w : wq E 23 none c76 (frameOf xs) h [] (leaveQ E [.tmp 5] Q)) : CallP E 76 xs h Q :=
  CallP.enterQ (fn := Try.f76) (fn_get Try.func76) (code := Try.f76.body.get rfl) rfl rfl rfl (by kernel_rfl) rfl (fun _ => rfl) hl w
theorem can76 : callable E 76 = true := callable_get Try.func76 rfl rfl
def c77 : C := (.seq (.ops [kO 3 (.box 25 (kT 0)),
 kO 6 (.mov (.const (.bool false)))])
 (.seq (.draw [kO 10 (.loadN 3 (kT 3)),
 kO 11 (.mov (kT 1)),
 kO 12 (.call 67 [.tmp 10,(.const (.int .i64 1)),.tmp 11]),
 kO 13 (.loadN 3 (kT 3)),
 kO 14 (.mov (kT 1)),
 kO 15 (.mov (kT 2)),
 kO 16 (.ar .i64 .add (kT 14) (kT 15)),
 kO 17 (.call 67 [.tmp 13,(.const (.int .i64 1)),.tmp 16]),
 kO 18 (.call 65 [.tmp 12,.tmp 17]),
 kO 9 (.mov (kT 18)),
 kO 19 (.ext (kT 9) 0),
 kO 20 (.ext (kT 9) 1),
 kO 7 (.mov (kT 19)),
 kO 8 (.mov (kT 20))]
 [⟨false,false,fL17,fL17⟩,
 ⟨false,false,fL17,fL17⟩,
 ⟨true,false,fL17,fL21⟩,
 ⟨false,true,fL17,fL21⟩,
 ⟨false,true,fL17,fL21⟩,
 ⟨false,true,fL17,fL21⟩,
 ⟨false,true,fL17,fL21⟩,
 ⟨true,false,fL21,fL39⟩,
 ⟨true,false,fL39,fL14⟩,
 ⟨false,false,fL14,fL14⟩,
 ⟨false,false,fL14,fL14⟩,
 ⟨false,false,fL14,fL14⟩,
 ⟨false,false,fL14,fL14⟩,
 ⟨false,false,fL14,fL14⟩])
 (.seq (.ops [kO 21 (.mov (kT 8)),
 kO 22 (.not (kT 21)),
 kO 6 (.mov (kT 22))])
 .ret)))
theorem enter77 {xs : List Value} {h : Hp} {Q : Value → Hp → Prop} (hl : xs.length ≤ 23) (w : wq E 23 none c77 (frameOf xs) h [] (leaveQ E [.tmp 6] Q)) : CallP E 77 xs h Q :=
  CallP.enterQ (fn := Try.f77) (fn_get Try.func77) (code := Try.f77.body.get rfl) rfl rfl rfl (by kernel_rfl) rfl (fun _ => rfl) hl w
theorem can77 : callable E 77 = true := callable_get Try.func77 rfl rfl
def c78 : C := (.seq (.ops [kO 2 (.box 25 (kT 0)),
 kO 4 (.mov (.const (.int .i64 0)))])
 (.seq (.ops [kO 5 (.mov (.const (.int .i64 60)))])
 (.seq (.block 0 (.loop (.seq (.seq (.draw [kO 6 (.mov (kT 5)),
 kO 7 (.ar .i64 .gtr (kT 6) (.const (.int .i64 0))),
 kO 8 (.mov (kT 7)),
 ⟨some 9,.loadN 3 (kT 2),(some (8,true))⟩,
 ⟨some 10,.mov (kT 5),(some (8,true))⟩,
 ⟨some 11,.ar .i64 .sub (kT 10) (.const (.int .i64 1)),(some (8,true))⟩,
 ⟨some 12,.call 62 [.tmp 9,(.const (.int .i64 0)),.tmp 11],(some (8,true))⟩,
 ⟨some 13,.loadN 3 (kT 2),(some (8,true))⟩,
 ⟨some 14,.mov (kT 5),(some (8,true))⟩,
 ⟨some 15,.ar .i64 .sub (kT 14) (.const (.int .i64 1)),(some (8,true))⟩,
 ⟨some 16,.mov (kT 1),(some (8,true))⟩,
 ⟨some 17,.ar .i64 .add (kT 15) (kT 16),(some (8,true))⟩,
 ⟨some 18,.call 62 [.tmp 13,(.const (.int .i64 0)),.tmp 17],(some (8,true))⟩,
 ⟨some 19,.ar .i64 .eql (kT 12) (kT 18),(some (8,true))⟩,
 kO 20 (.pick (kT 8) (kT 19) (.const (.bool false)))]
 [⟨false,false,fL7,fL7⟩,
 ⟨false,false,fL7,fL7⟩,
 ⟨false,false,fL7,fL7⟩,
 ⟨false,false,fL7,fL7⟩,
 ⟨false,false,fL7,fL7⟩,
 ⟨false,false,fL7,fL7⟩,
 ⟨true,false,fL7,fL18⟩,
 ⟨false,true,fL7,fL18⟩,
 ⟨false,true,fL7,fL18⟩,
 ⟨false,true,fL7,fL18⟩,
 ⟨false,true,fL7,fL18⟩,
 ⟨false,true,fL7,fL18⟩,
 ⟨true,false,fL18,fL26⟩,
 ⟨false,false,fL26,fL26⟩,
 ⟨false,false,fL26,fL26⟩])
 (.cond (kT 20) .skip
 (.exit 0)))
 (.block 1 (.ops [kO 21 (.mov (kT 5)),
 kO 22 (.ar .i64 .sub (kT 21) (.const (.int .i64 1))),
 kO 5 (.mov (kT 22))])))))
 (.seq (.ops [kO 23 (.mov (kT 5)),
 kO 4 (.mov (kT 23))])
 .ret))))
theorem enter78 {xs : List Value} {h : Hp} {Q : Value → Hp → Prop} (hl : xs.length ≤ 24) (w : wq E 24 none c78 (frameOf xs) h [] (leaveQ E [.tmp 4] Q)) : CallP E 78 xs h Q :=
  CallP.enterQ (fn := Try.f78) (fn_get Try.func78) (code := Try.f78.body.get rfl) rfl rfl rfl (by kernel_rfl) rfl (fun _ => rfl) hl w
theorem can78 : callable E 78 = true := callable_get Try.func78 rfl rfl
def c79 : C := (.seq (.ops [kO 2 (.mov (.const (.bool false)))])
 (.seq (.ops [kO 3 (.mov (kT 0)),
 kO 4 (.ar .i64 .geq (kT 3) (.const (.int .i64 0))),
 kO 5 (.mov (kT 4)),
 ⟨some 6,.mov (kT 0),(some (5,true))⟩,
 ⟨some 7,.ar .i64 .lss (kT 6) (.const (.int .i64 10)),(some (5,true))⟩,
 kO 8 (.pick (kT 5) (kT 7) (.const (.bool false))),
 kO 2 (.mov (kT 8))])
 .ret))
theorem enter79 {xs : List Value} {h : Hp} {Q : Value → Hp → Prop} (hl : xs.length ≤ 9) (w : wq E 9 none c79 (frameOf xs) h [] (leaveQ E [.tmp 2] Q)) : CallP E 79 xs h Q :=
  CallP.enterQ (fn := Try.f79) (fn_get Try.func79) (code := Try.f79.body.get rfl) rfl rfl rfl (by kernel_rfl) rfl (fun _ => rfl) hl w
theorem can79 : callable E 79 = true := callable_get Try.func79 rfl rfl
def c80 : C := (.seq (.ops [kO 2 (.box 25 (kT 0)),
 kO 4 (.mov (.const (.int .i64 0))),
 kO 5 (.mov (.const (.bool false)))])
 (.seq (.ops [kO 11 (.fldA 1 (kT 2)),
 kO 12 (.load1 (kT 11)),
 kO 13 (.lenS (kT 12)),
 kO 14 (.make 2 [.int .i64 0] 8 (kT 13) (kT 13)),
 kO 6 (.mov (kT 14))])
 (.seq (.seq (.ops [kO 15 (.fldA 1 (kT 2)),
 kO 16 (.load1 (kT 15)),
 kO 17 (.lenS (kT 16)),
 kO 18 (.mov (.const (.int .i64 0)))])
 (.block 0 (.loop (.seq (.ops [kO 19 (.ar .i64 .lss (kT 18) (kT 17))])
 (.seq (.cond (kT 19) .skip
 (.exit 0))
 (.seq (.block 1 (.seq (.ops [kO 20 (.mov (kT 18)),
 kO 21 (.idxS 1 (kT 16) (kT 18)),
 kO 22 (.load1 (kT 21)),
 kO 7 (.mov (kT 20)),
 kO 8 (.mov (kT 22))])
 (.seq (.ops [kO 23 (.mov (kT 6)),
 kO 24 (.mov (kT 7)),
 kO 25 (.idxS 1 (kT 23) (kT 24)),
 ⟨none,.store 1 (kT 25) (.const (.int .i64 (-1))),none⟩])
 (.seq (.ops [kO 26 (.mov (kT 8)),
 kO 27 (.mov (kT 1)),
 kO 28 (.ar .i64 .eql (kT 26) (kT 27))])
 (.cond (kT 28) (.ops [kO 29 (.mov (kT 6)),
 kO 30 (.mov (kT 7)),
 kO 31 (.idxS 1 (kT 29) (kT 30)),
 ⟨none,.store 1 (kT 31) (.const (.int .i64 0)),none⟩])
 .skip)))))
 (.ops [kO 32 (.ar .i64 .add (kT 18) (.const (.int .i64 1))),
 kO 18 (.mov (kT 32))])))))))
 (.seq (.seq (.ops [kO 33 (.fldA 1 (kT 2)),
 kO 34 (.load1 (kT 33)),
 kO 35 (.lenS (kT 34)),
 kO 36 (.mov (.const (.int .i64 0)))])
 (.block 2 (.loop (.seq (.ops [kO 37 (.ar .i64 .lss (kT 36) (kT 35))])
 (.seq (.cond (kT 37) .skip
 (.exit 2))
 (.seq (.block 3 (.seq (.ops [kO 38 (.fldA 1 (kT 2)),
 kO 39 (.load1 (kT 38)),
 kO 40 (.lenS (kT 39)),
 kO 41 (.make 2 [.int .i64 0] 8 (kT 40) (kT 40)),
 kO 9 (.mov (kT 41))])
 (.seq (.seq (.ops [kO 42 (.fldA 1 (kT 2)),
 kO 43 (.load1 (kT 42)),
 kO 44 (.lenS (kT 43)),
 kO 45 (.mov (.const (.int .i64 0)))])
 (.block 4 (.loop (.seq (.ops [kO 46 (.ar .i64 .lss (kT 45) (kT 44))])
 (.seq (.cond (kT 46) .skip
 (.exit 4))
 (.seq (.block 5 (.seq (.ops [kO 47 (.mov (kT 45)),
 kO 10 (.mov (kT 47))])
 (.ops [kO 48 (.mov (kT 9)),
 kO 49 (.mov (kT 10)),
 kO 50 (.loadN 3 (kT 2)),
 kO 51 (.mov (kT 6)),
 kO 52 (.mov (kT 10)),
 kO 53 (.call 98 [.tmp 50,.tmp 51,.tmp 52]),
 kO 54 (.idxS 1 (kT 48) (kT 49)),
 ⟨none,.store 1 (kT 54) (kT 53),none⟩])))
 (.ops [kO 55 (.ar .i64 .add (kT 45) (.const (.int .i64 1))),
 kO 45 (.mov (kT 55))])))))))
 (.ops [kO 56 (.mov (kT 9)),
 kO 6 (.mov (kT 56))]))))
 (.ops [kO 57 (.ar .i64 .add (kT 36) (.const (.int .i64 1))),
 kO 36 (.mov (kT 57))])))))))
 (.seq (.ops [kO 58 (.mov (kT 6)),
 kO 59 (.idxS 1 (kT 58) (.const (.int .i64 0))),
 kO 60 (.load1 (kT 59)),
 kO 61 (.raw (.call ⟨.builtin .max,⟨[.tmp 60,(.const (.int .i64 0))]⟩,⟨[2,2]⟩⟩) 2),
 kO 62 (.mov (kT 6)),
 kO 63 (.idxS 1 (kT 62) (.const (.int .i64 0))),
 kO 64 (.load1 (kT 63)),
 kO 65 (.ar .i64 .geq (kT 64) (.const (.int .i64 0))),
 kO 4 (.mov (kT 61)),
 kO 5 (.mov (kT 65))])
 .ret)))))
theorem enter80 {xs : List Value} {h : Hp} {Q : Value → Hp → Prop} (hl : xs.length ≤ 66) (w : wq E 66 none c80 (frameOf xs) h [] (leaveQ E [.tmp 4,.tmp 5] Q)) : CallP E 80 xs h Q :=
  CallP.enterQ (fn := Try.f80) (fn_get Try.func80) (code := Try.f80.body.get rfl) rfl rfl rfl (by kernel_rfl) rfl (fun _ => rfl) hl w
theorem can80 : callable E 80 = true := callable_get Try.func80 rfl rfl
def c81 : C := (.seq (.ops [kO 2 (.box 26 (kT 0)),
 kO 4 (.mov (.const (.slice none 0 0)))])
 (.seq (.ops [kO 12 (.newMap),
 kO 5 (.mov (kT 12))])
 (.seq (.ops [kO 6 (.mov (.const (.slice none 0 0)))])
 (.seq (.seq (.ops [kO 7 (.mov (.const (.int .i64 0)))])
 (.block 0 (.loop (.seq (.seq (.ops [kO 13 (.mov (kT 7)),
 kO 14 (.fldA 1 (kT 2)),
 kO 15 (.load1 (kT 14)),
 kO 16 (.lenS (kT 15)),
 kO 17 (.ar .i64 .lss (kT 13) (kT 16))])
 (.cond (kT 17) .skip
 (.exit 0)))
 (.seq (.block 1 (.seq (.draw [kO 20 (.fldA 1 (kT 2)),
 kO 21 (.load1 (kT 20)),
 kO 22 (.mov (kT 7)),
 kO 23 (.idxS 1 (kT 21) (kT 22)),
 kO 24 (.load1 (kT 23)),
 kO 25 (.call 99 [.tmp 24]),
 kO 26 (.mov (kT 1)),
 kO 27 (.mov (kT 7)),
 kO 28 (.idxS 1 (kT 26) (kT 27)),
 kO 29 (.load1 (kT 28)),
 kO 30 (.call 99 [.tmp 29]),
 kO 31 (.str .add (kT 25) (kT 30)),
 kO 8 (.mov (kT 31))]
 [⟨false,false,fL10,fL10⟩,
 ⟨false,false,fL10,fL10⟩,
 ⟨false,false,fL10,fL10⟩,
 ⟨false,false,fL10,fL10⟩,
 ⟨false,false,fL10,fL10⟩,
 ⟨true,false,fL10,fL22⟩,
 ⟨false,true,fL10,fL22⟩,
 ⟨false,true,fL10,fL22⟩,
 ⟨false,true,fL10,fL22⟩,
 ⟨false,true,fL10,fL22⟩,
 ⟨true,false,fL22,fL27⟩,
 ⟨false,false,fL27,fL27⟩,
 ⟨false,false,fL27,fL27⟩])
 (.seq (.seq (.ops [kO 9 (.mov (.const (.int .i64 0)))])
 (.block 2 (.loop (.seq (.seq (.ops [kO 32 (.mov (kT 9)),
 kO 33 (.fldA 0 (kT 2)),
 kO 34 (.load1 (kT 33)),
 kO 35 (.ar .i64 .lss (kT 32) (kT 34))])
 (.cond (kT 35) .skip
 (.exit 2)))
 (.seq (.block 3 (.ops [kO 38 (.mov (kT 8)),
 kO 39 (.mov (kT 1)),
 kO 40 (.fldA 2 (kT 2)),
 kO 41 (.load1 (kT 40)),
 kO 42 (.mov (kT 7)),
 kO 43 (.idxS 1 (kT 41) (kT 42)),
 kO 44 (.load1 (kT 43)),
 kO 45 (.mov (kT 9)),
 kO 46 (.idxS 1 (kT 44) (kT 45)),
 kO 47 (.load1 (kT 46)),
 kO 48 (.idxS 1 (kT 39) (kT 47)),
 kO 49 (.load1 (kT 48)),
 kO 50 (.call 99 [.tmp 49]),
 kO 51 (.str .add (kT 38) (kT 50)),
 kO 8 (.mov (kT 51))]))
 (.ops [kO 36 (.mov (kT 9)),
 kO 37 (.ar .i64 .add (kT 36) (.const (.int .i64 1))),
 kO 9 (.mov (kT 37))]))))))
 (.seq (.seq (.ops [kO 53 (.mov (kT 5)),
 kO 54 (.mov (kT 8)),
 kO 55 (.raw (.lookup 144 (kT 53) (kT 54) true) 115),
 kO 52 (.mov (kT 55)),
 kO 56 (.ext (kT 52) 0),
 kO 57 (.ext (kT 52) 1),
 kO 10 (.mov (kT 56)),
 kO 11 (.mov (kT 57))])
 (.seq (.ops [kO 58 (.mov (kT 11)),
 kO 59 (.not (kT 58))])
 (.cond (kT 59) (.ops [kO 60 (.mov (kT 5)),
 kO 61 (.mov (kT 8)),
 kO 62 (.mov (kT 5)),
 kO 63 (.raw (.call ⟨.builtin .len,⟨[.tmp 62]⟩,⟨[144]⟩⟩) 3),
 ⟨none,.raw (.mapUpdate 144 (kT 60) (kT 61) (kT 63)) 0,none⟩])
 .skip)))
 (.ops [kO 64 (.mov (kT 6)),
 kO 65 (.mov (kT 5)),
 kO 66 (.mov (kT 8)),
 kO 67 (.raw (.lookup 144 (kT 65) (kT 66) false) 3),
 kO 68 (.slit 3 1 [.int .i64 0] [(0,1,(kT 67))]),
 kO 69 (.append 3 1 8 (kT 64) (kT 68)),
 kO 6 (.mov (kT 69))])))))
 (.ops [kO 18 (.mov (kT 7)),
 kO 19 (.ar .i64 .add (kT 18) (.const (.int .i64 1))),
 kO 7 (.mov (kT 19))]))))))
 (.seq (.ops [kO 70 (.mov (kT 6)),
 kO 4 (.mov (kT 70))])
 .ret)))))
theorem enter81 {xs : List Value} {h : Hp} {Q : Value → Hp → Prop} (hl : xs.length ≤ 71) (w : wq E 71 none c81 (frameOf xs) h [] (leaveQ E [.tmp 4] Q)) : CallP E 81 xs h Q :=
  CallP.enterQ (fn := Try.f81) (fn_get Try.func81) (code := Try.f81.body.get rfl) rfl rfl rfl (by kernel_rfl) rfl (fun _ => rfl) hl w
theorem can81 : callable E 81 = true := callable_get Try.func81 rfl rfl
def c82 : C := (.seq (.ops [kO 2 (.mov (.const (.int .i64 0)))])
 (.seq (.ops [kO 3 (.mov (.const (.int .i64 0)))])
 (.seq (.seq (.ops [kO 4 (.mov (.const (.int .i64 0)))])
 (.block 0 (.loop (.seq (.seq (.ops [kO 5 (.mov (kT 4)),
 kO 6 (.mov (kT 0)),
 kO 7 (.lenS (kT 6)),
 kO 8 (.ar .i64 .lss (kT 5) (kT 7))])
 (.cond (kT 8) .skip
 (.exit 0)))
 (.seq (.block 1 (.ops [kO 11 (.mov (kT 3)),
 kO 12 (.mov (kT 0)),
 kO 13 (.mov (kT 4)),
 kO 14 (.idxS 1 (kT 12) (kT 13)),
 kO 15 (.load1 (kT 14)),
 kO 16 (.raw (.call ⟨.builtin .max,⟨[.tmp 11,.tmp 15]⟩,⟨[3,3]⟩⟩) 3),
 kO 3 (.mov (kT 16))]))
 (.ops [kO 9 (.mov (kT 4)),
 kO 10 (.ar .i64 .add (kT 9) (.const (.int .i64 1))),
 kO 4 (.mov (kT 10))]))))))
 (.seq (.ops [kO 17 (.mov (kT 3)),
 kO 18 (.ar .i64 .add (kT 17) (.const (.int .i64 1))),
 kO 2 (.mov (kT 18))])
 .ret))))
theorem enter82 {xs : List Value} {h : Hp} {Q : Value → Hp → Prop} (hl : xs.length ≤ 19) (w : wq E 19 none c82 (frameOf xs) h [] (leaveQ E [.tmp 2] Q)) : CallP E 82 xs h Q :=
  CallP.enterQ (fn := Try.f82) (fn_get Try.func82) (code := Try.f82.body.get rfl) rfl rfl rfl (by kernel_rfl) rfl (fun _ => rfl) hl w
theorem can82 : callable E 82 = true := callable_get Try.func82 rfl rfl
def c84 : C := (.seq (.ops [kO 2 (.mov (.const (.slice none 0 0)))])
 (.seq (.ops [kO 3 (.mov (.const (.slice none 0 0)))])
 (.seq (.seq (.ops [kO 6 (.mov (kT 0)),
 kO 7 (.lenS (kT 6)),
 kO 8 (.mov (.const (.int .i64 0)))])
 (.block 0 (.loop (.seq (.ops [kO 9 (.ar .i64 .lss (kT 8) (kT 7))])
 (.seq (.cond (kT 9) .skip
 (.exit 0))
 (.seq (.block 1 (.seq (.ops [kO 10 (.idxS 1 (kT 6) (kT 8)),
 kO 11 (.load1 (kT 10)),
 kO 5 (.mov (kT 11))])
 (.ops [kO 12 (.mov (kT 3)),
 kO 13 (.mov (kT 5)),
 kO 14 (.append 3 1 8 (kT 12) (kT 13)),
 kO 3 (.mov (kT 14))])))
 (.ops [kO 15 (.ar .i64 .add (kT 8) (.const (.int .i64 1))),
 kO 8 (.mov (kT 15))])))))))
 (.seq (.ops [kO 16 (.mov (kT 3)),
 kO 2 (.mov (kT 16))])
 .ret))))
theorem enter84 {xs : List Value} {h : Hp} {Q : Value → Hp → Prop} (hl : xs.length ≤ 17) (w : wq E 17 none c84 (frameOf xs) h [] (leaveQ E [.tmp 2] Q)) : CallP E 84 xs h Q :=
  CallP.enterQ (fn := Try.f84) (fn_get Try.func84) (code := Try.f84.body.get rfl) rfl rfl rfl (by kernel_rfl) rfl (fun _ => rfl) hl w
theorem can84 : callable E 84 = true := callable_get Try.func84 rfl rfl
def c85 : C := (.seq (.ops [kO 2 (.box 121 (kT 0)),
 kO 3 (.box 3 (kT 1)),
 kO 4 (.alloc 25 [.int .i64 0,.slice none 0 0,.slice none 0 0])])
 (.seq (.ops [kO 7 (.func (.func 100) [] [.tmp 2]),
 kO 5 (.mov (kT 7))])
 (.seq (.ops [kO 8 (.func (.func 101) [] [.tmp 2,.tmp 3]),
 kO 6 (.mov (kT 8))])
 (.seq (.draw [kO 9 (.load1 (kT 3)),
 kO 10 (.loadN 2 (kT 2)),
 kO 11 (.call 102 [.tmp 10,(.const (.int .i64 1))]),
 kO 12 (.aggr [.int .i64 0,.int .i64 0] [(0,1,(kT 11)),(1,1,(.const (.int .i64 0)))]),
 kO 13 (.mov (kT 5)),
 kO 14 (.mov (kT 6)),
 kO 15 (.call 103 [.tmp 9,.tmp 12,.tmp 13,.tmp 14]),
 ⟨none,.store 3 (kT 4) (kT 15),none⟩]
 [⟨false,true,fL3,fL19⟩,
 ⟨false,false,fL3,fL3⟩,
 ⟨true,false,fL3,fL19⟩,
 ⟨false,false,fL19,fL19⟩,
 ⟨false,true,fL3,fL19⟩,
 ⟨false,true,fL3,fL19⟩,
 ⟨true,false,fL19,fL40⟩,
 ⟨true,false,fL40,[false,false,true,false,false,false,true,true]⟩])
 .ret))))
theorem enter85 {xs : List Value} {h : Hp} {Q : Value → Hp → Prop} (hl : xs.length ≤ 16) (w : wq E 16 none c85 (frameOf xs) h [] (leaveQ E [.cell 4 25] Q)) : CallP E 85 xs h Q :=
  CallP.enterQ (fn := Try.f85) (fn_get Try.func85) (code := Try.f85.body.get rfl) rfl rfl rfl (by kernel_rfl) rfl (fun _ => rfl) hl w
theorem can85 : callable E 85 = true := callable_get Try.func85 rfl rfl
def c89 : C := (.seq (.ops [kO 2 (.mov (.const (.bool false)))])
 (.seq (.ops [kO 3 (.mov (kT 0)),
 kO 4 (.call 79 [.tmp 3]),
 kO 5 (.not (kT 4)),
 kO 2 (.mov (kT 5))])
 .ret))
theorem enter89 {xs : List Value} {h : Hp} {Q : Value → Hp → Prop} (hl : xs.length ≤ 6) (w : wq E 6 none c89 (frameOf xs) h [] (leaveQ E [.tmp 2] Q)) : CallP E 89 xs h Q :=
  CallP.enterQ (fn := Try.f89) (fn_get Try.func89) (code := Try.f89.body.get rfl) rfl rfl rfl (by kernel_rfl) rfl (fun _ => rfl) hl w
theorem can89 : callable E 89 = true := callable_get Try.func89 rfl rfl
def c90 : C := (.seq (.ops [kO 4 (.mov (.const (.int .i64 0)))])
 (.seq (.seq (.ops [kO 6 (.mov (kT 0)),
 kO 7 (.lenS (kT 6)),
 kO 8 (.mov (.const (.int .i64 0)))])
 (.block 0 (.loop (.seq (.ops [kO 9 (.ar .i64 .lss (kT 8) (kT 7))])
 (.seq (.cond (kT 9) .skip
 (.exit 0))
 (.seq (.block 1 (.seq (.ops [kO 10 (.mov (kT 8)),
 kO 5 (.mov (kT 10))])
 (.seq (.ops [kO 11 (.mov (kT 1)),
 kO 12 (.mov (kT 0)),
 kO 13 (.mov (kT 5)),
 kO 14 (.idxS 1 (kT 12) (kT 13)),
 kO 15 (.load1 (kT 14)),
 kO 16 (.callv (kT 11) [.tmp 15])])
 (.cond (kT 16) (.seq (.ops [kO 17 (.mov (kT 5)),
 kO 4 (.mov (kT 17))])
 .ret)
 .skip))))
 (.ops [kO 18 (.ar .i64 .add (kT 8) (.const (.int .i64 1))),
 kO 8 (.mov (kT 18))])))))))
 (.seq (.ops [kO 4 (.mov (.const (.int .i64 (-1))))])
 .ret)))
theorem enter90 {xs : List Value} {h : Hp} {Q : Value → Hp → Prop} (hl : xs.length ≤ 19) (w : wq E 19 none c90 (frameOf xs) h [] (leaveQ E [.tmp 4] Q)) : CallP E 90 xs h Q :=
  CallP.enterQ (fn := Try.f90) (fn_get Try.func90) (code := Try.f90.body.get rfl) rfl rfl rfl (by kernel_rfl) rfl (fun _ => rfl) hl w
theorem can90 : callable E 90 = true := callable_get Try.func90 rfl rfl
def c91 : C := (.seq (.ops [kO 2 (.box 2 (kT 0)),
 kO 3 (.box 3 (kT 1)),
 kO 4 (.mov (.const .nilFunc))])
 (.seq (.ops [kO 5 (.func (.func 104) [] [.tmp 2,.tmp 3]),
 kO 4 (.mov (kT 5))])
 .ret))
theorem enter91 {xs : List Value} {h : Hp} {Q : Value → Hp → Prop} (hl : xs.length ≤ 6) (w : wq E 6 none c91 (frameOf xs) h [] (leaveQ E [.tmp 4] Q)) : CallP E 91 xs h Q :=
  CallP.enterQ (fn := Try.f91) (fn_get Try.func91) (code := Try.f91.body.get rfl) rfl rfl rfl (by kernel_rfl) rfl (fun _ => rfl) hl w
theorem can91 : callable E 91 = true := callable_get Try.func91 rfl rfl
def c92 : C := (.seq (.ops [kO 1 (.box 25 (kT 0)),
 kO 2 (.mov (.const (.slice none 0 0)))])
 (.seq (.ops [kO 8 (.loadN 3 (kT 1)),
 kO 9 (.fldA 1 (kT 1)),
 kO 10 (.load1 (kT 9)),
 kO 11 (.call 105 [.tmp 8,.tmp 10]),
 kO 7 (.mov (kT 11)),
 kO 12 (.ext (kT 7) 0),
 kO 13 (.ext (kT 7) 1),
 kO 3 (.mov (kT 12)),
 kO 4 (.mov (kT 13))])
 (.block 0 (.loop (.block 1 (.seq (.ops [kO 15 (.loadN 3 (kT 1)),
 kO 16 (.mov (kT 3)),
 kO 17 (.call 105 [.tmp 15,.tmp 16]),
 kO 14 (.mov (kT 17)),
 kO 18 (.ext (kT 14) 0),
 kO 19 (.ext (kT 14) 1),
 kO 5 (.mov (kT 18)),
 kO 6 (.mov (kT 19))])
 (.seq (.seq (.ops [kO 20 (.mov (kT 6)),
 kO 21 (.mov (kT 4)),
 kO 22 (.ar .i64 .eql (kT 20) (kT 21))])
 (.cond (kT 22) (.seq (.ops [kO 23 (.mov (kT 3)),
 kO 2 (.mov (kT 23))])
 .ret)
 .skip))
 (.ops [kO 24 (.mov (kT 5)),
 kO 25 (.mov (kT 6)),
 kO 3 (.mov (kT 24)),
 kO 4 (.mov (kT 25))]))))))))
theorem enter92 {xs : List Value} {h : Hp} {Q : Value → Hp → Prop} (hl : xs.length ≤ 26) (w : wq E 26 none c92 (frameOf xs) h [] (leaveQ E [.tmp 2] Q)) : CallP E 92 xs h Q :=
  CallP.enterQ (fn := Try.f92) (fn_get Try.func92) (code := Try.f92.body.get rfl) rfl rfl rfl (by kernel_rfl) rfl (fun _ => rfl) hl w
theorem can92 : callable E 92 = true := callable_get Try.func92 rfl rfl
def c93 : C := (.seq (.ops [kO 4 (.mov (.const (.int .i64 0)))])
 (.seq (.ops [kO 5 (.fldA 1 (kT 1)),
 kO 6 (.load1 (kT 5)),
 kO 7 (.load1 (kT 2)),
 kO 8 (.mov (kT 0)),
 kO 9 (.raw (.lookup 114 (kT 7) (kT 8) false) 3),
 kO 10 (.idxS 1 (kT 6) (kT 9)),
 kO 11 (.load1 (kT 10)),
 kO 4 (.mov (kT 11))])
 .ret))
theorem enter93 {xs : List Value} {h : Hp} {Q : Value → Hp → Prop} (hl : xs.length ≤ 12) (w : wq E 12 none c93 (frameOf xs) h [] (leaveQ E [.tmp 4] Q)) : CallP E 93 xs h Q :=
  CallP.enterQ (fn := Try.f93) (fn_get Try.func93) (code := Try.f93.body.get rfl) rfl rfl rfl (by kernel_rfl) rfl (fun _ => rfl) hl w
theorem can93 : callable E 93 = true := callable_get Try.func93 rfl rfl
def c94 : C := (.seq (.ops [kO 7 (.mov (.const (.int .i64 0)))])
 (.seq (.ops [kO 8 (.load1 (kT 2)),
 kO 9 (.fldA 2 (kT 3)),
 kO 10 (.load1 (kT 9)),
 kO 11 (.load1 (kT 4)),
 kO 12 (.mov (kT 0)),
 kO 13 (.raw (.lookup 114 (kT 11) (kT 12) false) 3),
 kO 14 (.idxS 1 (kT 10) (kT 13)),
 kO 15 (.load1 (kT 14)),
 kO 16 (.mov (kT 1)),
 kO 17 (.idxS 1 (kT 15) (kT 16)),
 kO 18 (.load1 (kT 17)),
 kO 19 (.idxS 1 (kT 8) (kT 18)),
 kO 20 (.load1 (kT 19)),
 kO 7 (.mov (kT 20))])
 .ret))
theorem enter94 {xs : List Value} {h : Hp} {Q : Value → Hp → Prop} (hl : xs.length ≤ 21) (w : wq E 21 none c94 (frameOf xs) h [] (leaveQ E [.tmp 7] Q)) : CallP E 94 xs h Q :=
  CallP.enterQ (fn := Try.f94) (fn_get Try.func94) (code := Try.f94.body.get rfl) rfl rfl rfl (by kernel_rfl) rfl (fun _ => rfl) hl w
theorem can94 : callable E 94 = true := callable_get Try.func94 rfl rfl
def c95 : C := (.seq (.ops [kO 2 (.box 136 (kT 0)),
 kO 3 (.mov (.const (.int .i64 0)))])
 (.seq (.ops [kO 4 (.loadN 3 (kT 1)),
 kO 5 (.fldA 0 (kT 2)),
 kO 6 (.load1 (kT 5)),
 kO 7 (.fldA 1 (kT 2)),
 kO 8 (.load1 (kT 7)),
 kO 9 (.call 62 [.tmp 4,.tmp 6,.tmp 8]),
 kO 3 (.mov (kT 9))])
 .ret))
theorem enter95 {xs : List Value} {h : Hp} {Q : Value → Hp → Prop} (hl : xs.length ≤ 10) (w : wq E 10 none c95 (frameOf xs) h [] (leaveQ E [.tmp 3] Q)) : CallP E 95 xs h Q :=
  CallP.enterQ (fn := Try.f95) (fn_get Try.func95) (code := Try.f95.body.get rfl) rfl rfl rfl (by kernel_rfl) rfl (fun _ => rfl) hl w
theorem can95 : callable E 95 = true := callable_get Try.func95 rfl rfl
def c96 : C := (.seq (.ops [kO 4 (.box 136 (kT 0)),
 kO 6 (.alloc 136 [.int .i64 0,.int .i64 0])])
 (.seq (.ops [kO 8 (.load1 (kT 2)),
 kO 9 (.mov (kT 1)),
 kO 10 (.ar .i64 .mul (kT 8) (kT 9)),
 kO 11 (.fldA 1 (kT 4)),
 kO 12 (.load1 (kT 11)),
 kO 13 (.ar .i64 .add (kT 10) (kT 12)),
 kO 7 (.mov (kT 13))])
 (.seq (.ops [kO 14 (.fldA 2 (kT 3)),
 kO 15 (.load1 (kT 14)),
 kO 16 (.fldA 0 (kT 4)),
 kO 17 (.load1 (kT 16)),
 kO 18 (.idxS 1 (kT 15) (kT 17)),
 kO 19 (.load1 (kT 18)),
 kO 20 (.mov (kT 7)),
 kO 21 (.fldA 0 (kT 3)),
 kO 22 (.load1 (kT 21)),
 kO 23 (.ar .i64 .rem (kT 20) (kT 22)),
 kO 24 (.idxS 1 (kT 19) (kT 23)),
 kO 25 (.load1 (kT 24)),
 kO 26 (.mov (kT 7)),
 kO 27 (.fldA 0 (kT 3)),
 kO 28 (.load1 (kT 27)),
 kO 29 (.ar .i64 .quo (kT 26) (kT 28)),
 kO 30 (.aggr [.int .i64 0,.int .i64 0] [(0,1,(kT 25)),(1,1,(kT 29))]),
 ⟨none,.store 2 (kT 6) (kT 30),none⟩])
 .ret)))
theorem enter96 {xs : List Value} {h : Hp} {Q : Value → Hp → Prop} (hl : xs.length ≤ 31) (w : wq E 31 none c96 (frameOf xs) h [] (leaveQ E [.cell 6 136] Q)) : CallP E 96 xs h Q :=
  CallP.enterQ (fn := Try.f96) (fn_get Try.func96) (code := Try.f96.body.get rfl) rfl rfl rfl (by kernel_rfl) rfl (fun _ => rfl) hl w
theorem can96 : callable E 96 = true := callable_get Try.func96 rfl rfl
def c97 : C := (.seq (.ops [kO 5 (.box 136 (kT 1)),
 kO 8 (.alloc 25 [.int .i64 0,.slice none 0 0,.slice none 0 0])])
 (.seq (.ops [kO 18 (.mov (kT 0)),
 kO 19 (.aggr [.int .i64 0,.slice none 0 0,.slice none 0 0] [(0,1,(kT 18))]),
 kO 9 (.alloc 25 [.int .i64 0,.slice none 0 0,.slice none 0 0]),
 ⟨none,.store 3 (kT 9) (kT 19),none⟩])
 (.seq (.ops [kO 20 (.newMap),
 kO 21 (.loadN 2 (kT 5)),
 ⟨none,.raw (.insert 153 (kT 20) (kT 21) (.const (.int .i64 0))) 0,none⟩,
 kO 22 (.mov (kT 20)),
 kO 10 (.mov (kT 22))])
 (.seq (.ops [kO 23 (.loadN 2 (kT 5)),
 kO 24 (.slit 136 1 [.int .i64 0,.int .i64 0] [(0,2,(kT 23))]),
 kO 11 (.mov (kT 24))])
 (.seq (.seq (.ops [kO 12 (.mov (.const (.int .i64 0)))])
 (.block 0 (.loop (.seq (.seq (.ops [kO 25 (.mov (kT 12)),
 kO 26 (.mov (kT 11)),
 kO 27 (.lenS (kT 26)),
 kO 28 (.ar .i64 .lss (kT 25) (kT 27))])
 (.cond (kT 28) .skip
 (.exit 0)))
 (.seq (.block 1 (.seq (.draw [kO 31 (.fldA 1 (kT 9)),
 kO 32 (.load1 (kT 31)),
 kO 33 (.mov (kT 2)),
 kO 34 (.mov (kT 11)),
 kO 35 (.mov (kT 12)),
 kO 36 (.idxS 2 (kT 34) (kT 35)),
 kO 37 (.loadN 2 (kT 36)),
 kO 38 (.callv (kT 33) [.tmp 37]),
 kO 39 (.slit 3 1 [.int .i64 0] [(0,1,(kT 38))]),
 kO 40 (.append 3 1 8 (kT 32) (kT 39)),
 kO 41 (.fldA 1 (kT 9)),
 ⟨none,.store 1 (kT 41) (kT 40),none⟩]
 [⟨false,true,fL2,fL12⟩,
 ⟨false,true,fL2,fL12⟩,
 ⟨false,false,fL2,fL2⟩,
 ⟨false,false,fL2,fL2⟩,
 ⟨false,false,fL2,fL2⟩,
 ⟨false,false,fL2,fL2⟩,
 ⟨false,false,fL2,fL2⟩,
 ⟨true,false,fL2,fL20⟩,
 ⟨true,false,fL20,fL12⟩,
 ⟨true,false,fL12,fL13⟩,
 ⟨false,false,fL13,fL13⟩,
 ⟨true,false,fL13,fL36⟩])
 (.seq (.ops [kO 42 (.mov (kT 0)),
 kO 43 (.make 3 [.int .i64 0] 8 (kT 42) (kT 42)),
 kO 13 (.mov (kT 43))])
 (.seq (.seq (.ops [kO 44 (.mov (kT 13)),
 kO 45 (.lenS (kT 44)),
 kO 46 (.mov (.const (.int .i64 0)))])
 (.block 2 (.loop (.seq (.ops [kO 47 (.ar .i64 .lss (kT 46) (kT 45))])
 (.seq (.cond (kT 47) .skip
 (.exit 2))
 (.seq (.block 3 (.seq (.ops [kO 48 (.mov (kT 46)),
 kO 14 (.mov (kT 48))])
 (.seq (.ops [kO 49 (.mov (kT 3)),
 kO 50 (.mov (kT 11)),
 kO 51 (.mov (kT 12)),
 kO 52 (.idxS 2 (kT 50) (kT 51)),
 kO 53 (.loadN 2 (kT 52)),
 kO 54 (.mov (kT 14)),
 kO 55 (.callv (kT 49) [.tmp 53,.tmp 54]),
 kO 15 (.alloc 136 [.int .i64 0,.int .i64 0]),
 ⟨none,.store 2 (kT 15) (kT 55),none⟩])
 (.seq (.seq (.ops [kO 57 (.mov (kT 10)),
 kO 58 (.loadN 2 (kT 15)),
 kO 59 (.raw (.lookup 153 (kT 57) (kT 58) true) 115),
 kO 56 (.mov (kT 59)),
 kO 60 (.ext (kT 56) 0),
 kO 61 (.ext (kT 56) 1),
 kO 16 (.mov (kT 60)),
 kO 17 (.mov (kT 61))])
 (.seq (.ops [kO 62 (.mov (kT 17)),
 kO 63 (.not (kT 62))])
 (.cond (kT 63) (.seq (.ops [kO 64 (.mov (kT 10)),
 kO 65 (.loadN 2 (kT 15)),
 kO 66 (.mov (kT 11)),
 kO 67 (.lenS (kT 66)),
 ⟨none,.raw (.mapUpdate 153 (kT 64) (kT 65) (kT 67)) 0,none⟩])
 (.ops [kO 68 (.mov (kT 11)),
 kO 69 (.loadN 2 (kT 15)),
 kO 70 (.slit 136 1 [.int .i64 0,.int .i64 0] [(0,2,(kT 69))]),
 kO 71 (.append 136 2 16 (kT 68) (kT 70)),
 kO 11 (.mov (kT 71))]))
 .skip)))
 (.ops [kO 72 (.mov (kT 13)),
 kO 73 (.mov (kT 14)),
 kO 74 (.mov (kT 10)),
 kO 75 (.loadN 2 (kT 15)),
 kO 76 (.raw (.lookup 153 (kT 74) (kT 75) false) 3),
 kO 77 (.idxS 1 (kT 72) (kT 73)),
 ⟨none,.store 1 (kT 77) (kT 76),none⟩])))))
 (.ops [kO 78 (.ar .i64 .add (kT 46) (.const (.int .i64 1))),
 kO 46 (.mov (kT 78))])))))))
 (.ops [kO 79 (.fldA 2 (kT 9)),
 kO 80 (.load1 (kT 79)),
 kO 81 (.mov (kT 13)),
 kO 82 (.slit 22 1 [.slice none 0 0] [(0,1,(kT 81))]),
 kO 83 (.append 22 1 24 (kT 80) (kT 82)),
 kO 84 (.fldA 2 (kT 9)),
 ⟨none,.store 1 (kT 84) (kT 83),none⟩])))))
 (.ops [kO 29 (.mov (kT 12)),
 kO 30 (.ar .i64 .add (kT 29) (.const (.int .i64 1))),
 kO 12 (.mov (kT 30))]))))))
 (.seq (.ops [kO 85 (.loadN 3 (kT 9)),
 ⟨none,.store 3 (kT 8) (kT 85),none⟩])
 .ret))))))
theorem enter97 {xs : List Value} {h : Hp} {Q : Value → Hp → Prop} (hl : xs.length ≤ 86) (w : wq E 86 none c97 (frameOf xs) h [] (leaveQ E [.cell 8 25] Q)) : CallP E 97 xs h Q :=
  CallP.enterQ (fn := Try.f97) (fn_get Try.func97) (code := Try.f97.body.get rfl) rfl rfl rfl (by kernel_rfl) rfl (fun _ => rfl) hl w
theorem can97 : callable E 97 = true := callable_get Try.func97 rfl rfl
def c98 : C := (.seq (.ops [kO 3 (.box 25 (kT 0)),
 kO 6 (.mov (.const (.int .i64 0)))])
 (.seq (.ops [kO 7 (.mov (.const (.int .i64 (-1))))])
 (.seq (.seq (.ops [kO 11 (.fldA 2 (kT 3)),
 kO 12 (.load1 (kT 11)),
 kO 13 (.mov (kT 2)),
 kO 14 (.idxS 1 (kT 12) (kT 13)),
 kO 15 (.load1 (kT 14)),
 kO 16 (.lenS (kT 15)),
 kO 17 (.mov (.const (.int .i64 0)))])
 (.block 0 (.loop (.seq (.ops [kO 18 (.ar .i64 .lss (kT 17) (kT 16))])
 (.seq (.cond (kT 18) .skip
 (.exit 0))
 (.seq (.block 1 (.seq (.ops [kO 19 (.mov (kT 17)),
 kO 20 (.idxS 1 (kT 15) (kT 17)),
 kO 21 (.load1 (kT 20)),
 kO 8 (.mov (kT 19)),
 kO 9 (.mov (kT 21))])
 (.seq (.seq (.ops [kO 22 (.mov (kT 1)),
 kO 23 (.mov (kT 9)),
 kO 24 (.idxS 1 (kT 22) (kT 23)),
 kO 25 (.load1 (kT 24)),
 kO 26 (.ar .i64 .lss (kT 25) (.const (.int .i64 0)))])
 (.cond (kT 26) (.exit 1)
 .skip))
 (.seq (.ops [kO 27 (.mov (kT 1)),
 kO 28 (.mov (kT 9)),
 kO 29 (.idxS 1 (kT 27) (kT 28)),
 kO 30 (.load1 (kT 29)),
 kO 31 (.fldA 0 (kT 3)),
 kO 32 (.load1 (kT 31)),
 kO 33 (.ar .i64 .mul (kT 30) (kT 32)),
 kO 34 (.mov (kT 8)),
 kO 35 (.ar .i64 .add (kT 33) (kT 34)),
 kO 10 (.mov (kT 35))])
 (.seq (.ops [kO 36 (.mov (kT 7)),
 kO 37 (.ar .i64 .lss (kT 36) (.const (.int .i64 0))),
 kO 38 (.mov (kT 37)),
 ⟨some 39,.mov (kT 10),(some (38,false))⟩,
 ⟨some 40,.mov (kT 7),(some (38,false))⟩,
 ⟨some 41,.ar .i64 .lss (kT 39) (kT 40),(some (38,false))⟩,
 kO 42 (.pick (kT 38) (.const (.bool true)) (kT 41))])
 (.cond (kT 42) (.ops [kO 43 (.mov (kT 10)),
 kO 7 (.mov (kT 43))])
 .skip))))))
 (.ops [kO 44 (.ar .i64 .add (kT 17) (.const (.int .i64 1))),
 kO 17 (.mov (kT 44))])))))))
 (.seq (.ops [kO 45 (.mov (kT 7)),
 kO 6 (.mov (kT 45))])
 .ret))))
theorem enter98 {xs : List Value} {h : Hp} {Q : Value → Hp → Prop} (hl : xs.length ≤ 46) (w : wq E 46 none c98 (frameOf xs) h [] (leaveQ E [.tmp 6] Q)) : CallP E 98 xs h Q :=
  CallP.enterQ (fn := Try.f98) (fn_get Try.func98) (code := Try.f98.body.get rfl) rfl rfl rfl (by kernel_rfl) rfl (fun _ => rfl) hl w
theorem can98 : callable E 98 = true := callable_get Try.func98 rfl rfl
def c99 : C := (.seq (.ops [kO 2 (.mov (.const (.string ⟨⟨[]⟩⟩)))])
 (.seq (.ops [kO 3 (.mov (kT 0)),
 kO 4 (.ar .i64 .rem (kT 3) (.const (.int .i64 256))),
 kO 5 (.cint .u8 (kT 4)),
 kO 6 (.mov (kT 0)),
 kO 7 (.ar .i64 .quo (kT 6) (.const (.int .i64 256))),
 kO 8 (.cint .u8 (kT 7)),
 kO 9 (.slit 5 3 [.int .u8 0,.int .u8 0,.int .u8 0] [(0,1,(kT 5)),(1,1,(kT 8)),(2,1,(.const (.int .u8 44)))]),
 kO 10 (.raw (.convert 155 9 (kT 9)) 9),
 kO 2 (.mov (kT 10))])
 .ret))
theorem enter99 {xs : List Value} {h : Hp} {Q : Value → Hp → Prop} (hl : xs.length ≤ 11) (w : wq E 11 none c99 (frameOf xs) h [] (leaveQ E [.tmp 2] Q)) : CallP E 99 xs h Q :=
  CallP.enterQ (fn := Try.f99) (fn_get Try.func99) (code := Try.f99.body.get rfl) rfl rfl rfl (by kernel_rfl) rfl (fun _ => rfl) hl w
theorem can99 : callable E 99 = true := callable_get Try.func99 rfl rfl
def c100 : C := (.seq (.ops [kO 2 (.box 147 (kT 0)),
 kO 3 (.mov (.const (.int .i64 0)))])
 (.seq (.ops [kO 4 (.fldA 0 (kT 1)),
 kO 5 (.load1 (kT 4)),
 kO 6 (.fldA 1 (kT 2)),
 kO 7 (.load1 (kT 6)),
 kO 8 (.idxS 1 (kT 5) (kT 7)),
 kO 9 (.load1 (kT 8)),
 kO 3 (.mov (kT 9))])
 .ret))
theorem enter100 {xs : List Value} {h : Hp} {Q : Value → Hp → Prop} (hl : xs.length ≤ 10) (w : wq E 10 none c100 (frameOf xs) h [] (leaveQ E [.tmp 3] Q)) : CallP E 100 xs h Q :=
  CallP.enterQ (fn := Try.f100) (fn_get Try.func100) (code := Try.f100.body.get rfl) rfl rfl rfl (by kernel_rfl) rfl (fun _ => rfl) hl w
theorem can100 : callable E 100 = true := callable_get Try.func100 rfl rfl
def c101 : C := (.seq (.ops [kO 4 (.box 147 (kT 0)),
 kO 6 (.alloc 147 [.int .i64 0,.int .i64 0])])
 (.seq (.draw [kO 7 (.loadN 2 (kT 2)),
 kO 8 (.fldA 0 (kT 4)),
 kO 9 (.load1 (kT 8)),
 kO 10 (.load1 (kT 3)),
 kO 11 (.ar .i64 .mul (kT 9) (kT 10)),
 kO 12 (.call 102 [.tmp 7,.tmp 11]),
 kO 13 (.loadN 2 (kT 2)),
 kO 14 (.fldA 1 (kT 4)),
 kO 15 (.load1 (kT 14)),
 kO 16 (.fldA 0 (kT 4)),
 kO 17 (.load1 (kT 16)),
 kO 18 (.mov (kT 1)),
 kO 19 (.ar .i64 .mul (kT 17) (kT 18)),
 kO 20 (.ar .i64 .add (kT 15) (kT 19)),
 kO 21 (.call 102 [.tmp 13,.tmp 20]),
 kO 22 (.aggr [.int .i64 0,.int .i64 0] [(0,1,(kT 12)),(1,1,(kT 21))]),
 ⟨none,.store 2 (kT 6) (kT 22),none⟩]
 [⟨false,false,fL6,fL6⟩,
 ⟨false,false,fL6,fL6⟩,
 ⟨false,false,fL6,fL6⟩,
 ⟨false,false,fL6,fL6⟩,
 ⟨false,false,fL6,fL6⟩,
 ⟨true,false,fL6,fL16⟩,
 ⟨false,true,fL6,fL16⟩,
 ⟨false,true,fL6,fL16⟩,
 ⟨false,true,fL6,fL16⟩,
 ⟨false,true,fL6,fL16⟩,
 ⟨false,true,fL6,fL16⟩,
 ⟨false,true,fL6,fL16⟩,
 ⟨false,true,fL6,fL16⟩,
 ⟨false,true,fL6,fL16⟩,
 ⟨true,false,fL16,fL30⟩,
 ⟨false,false,fL30,fL30⟩,
 ⟨true,false,fL30,[false,false,false,false,false,true,false,false,false,false,false,false,false,false,true,false,true]⟩])
 .ret))
theorem enter101 {xs : List Value} {h : Hp} {Q : Value → Hp → Prop} (hl : xs.length ≤ 23) (w : wq E 23 none c101 (frameOf xs) h [] (leaveQ E [.cell 6 147] Q)) : CallP E 101 xs h Q :=
  CallP.enterQ (fn := Try.f101) (fn_get Try.func101) (code := Try.f101.body.get rfl) rfl rfl rfl (by kernel_rfl) rfl (fun _ => rfl) hl w
theorem can101 : callable E 101 = true := callable_get Try.func101 rfl rfl
def c102 : C := (.seq (.ops [kO 2 (.box 121 (kT 0)),
 kO 4 (.mov (.const (.int .i64 0)))])
 (.seq (.seq (.ops [kO 5 (.mov (kT 1)),
 kO 6 (.fldA 1 (kT 2)),
 kO 7 (.load1 (kT 6)),
 kO 8 (.ar .i64 .lss (kT 5) (kT 7))])
 (.cond (kT 8) (.seq (.ops [kO 9 (.mov (kT 1)),
 kO 4 (.mov (kT 9))])
 .ret)
 .skip))
 (.seq (.ops [kO 10 (.fldA 1 (kT 2)),
 kO 11 (.load1 (kT 10)),
 kO 12 (.mov (kT 1)),
 kO 13 (.fldA 1 (kT 2)),
 kO 14 (.load1 (kT 13)),
 kO 15 (.ar .i64 .sub (kT 12) (kT 14)),
 kO 16 (.fldA 0 (kT 2)),
 kO 17 (.load1 (kT 16)),
 kO 18 (.lenS (kT 17)),
 kO 19 (.fldA 1 (kT 2)),
 kO 20 (.load1 (kT 19)),
 kO 21 (.ar .i64 .sub (kT 18) (kT 20)),
 kO 22 (.ar .i64 .rem (kT 15) (kT 21)),
 kO 23 (.ar .i64 .add (kT 11) (kT 22)),
 kO 4 (.mov (kT 23))])
 .ret)))
theorem enter102 {xs : List Value} {h : Hp} {Q : Value → Hp → Prop} (hl : xs.length ≤ 24) (w : wq E 24 none c102 (frameOf xs) h [] (leaveQ E [.tmp 4] Q)) : CallP E 102 xs h Q :=
  CallP.enterQ (fn := Try.f102) (fn_get Try.func102) (code := Try.f102.body.get rfl) rfl rfl rfl (by kernel_rfl) rfl (fun _ => rfl) hl w
theorem can102 : callable E 102 = true := callable_get Try.func102 rfl rfl
def c103 : C := (.seq (.ops [kO 5 (.box 147 (kT 1)),
 kO 8 (.alloc 25 [.int .i64 0,.slice none 0 0,.slice none 0 0])])
 (.seq (.ops [kO 18 (.mov (kT 0)),
 kO 19 (.aggr [.int .i64 0,.slice none 0 0,.slice none 0 0] [(0,1,(kT 18))]),
 kO 9 (.alloc 25 [.int .i64 0,.slice none 0 0,.slice none 0 0]),
 ⟨none,.store 3 (kT 9) (kT 19),none⟩])
 (.seq (.ops [kO 20 (.newMap),
 kO 21 (.loadN 2 (kT 5)),
 ⟨none,.raw (.insert 156 (kT 20) (kT 21) (.const (.int .i64 0))) 0,none⟩,
 kO 22 (.mov (kT 20)),
 kO 10 (.mov (kT 22))])
 (.seq (.ops [kO 23 (.loadN 2 (kT 5)),
 kO 24 (.slit 147 1 [.int .i64 0,.int .i64 0] [(0,2,(kT 23))]),
 kO 11 (.mov (kT 24))])
 (.seq (.seq (.ops [kO 12 (.mov (.const (.int .i64 0)))])
 (.block 0 (.loop (.seq (.seq (.ops [kO 25 (.mov (kT 12)),
 kO 26 (.mov (kT 11)),
 kO 27 (.lenS (kT 26)),
 kO 28 (.ar .i64 .lss (kT 25) (kT 27))])
 (.cond (kT 28) .skip
 (.exit 0)))
 (.seq (.block 1 (.seq (.draw [kO 31 (.fldA 1 (kT 9)),
 kO 32 (.load1 (kT 31)),
 kO 33 (.mov (kT 2)),
 kO 34 (.mov (kT 11)),
 kO 35 (.mov (kT 12)),
 kO 36 (.idxS 2 (kT 34) (kT 35)),
 kO 37 (.loadN 2 (kT 36)),
 kO 38 (.callv (kT 33) [.tmp 37]),
 kO 39 (.slit 3 1 [.int .i64 0] [(0,1,(kT 38))]),
 kO 40 (.append 3 1 8 (kT 32) (kT 39)),
 kO 41 (.fldA 1 (kT 9)),
 ⟨none,.store 1 (kT 41) (kT 40),none⟩]
 [⟨false,true,fL2,fL12⟩,
 ⟨false,true,fL2,fL12⟩,
 ⟨false,false,fL2,fL2⟩,
 ⟨false,false,fL2,fL2⟩,
 ⟨false,false,fL2,fL2⟩,
 ⟨false,false,fL2,fL2⟩,
 ⟨false,false,fL2,fL2⟩,
 ⟨true,false,fL2,fL20⟩,
 ⟨true,false,fL20,fL12⟩,
 ⟨true,false,fL12,fL13⟩,
 ⟨false,false,fL13,fL13⟩,
 ⟨true,false,fL13,fL36⟩])
 (.seq (.ops [kO 42 (.mov (kT 0)),
 kO 43 (.make 3 [.int .i64 0] 8 (kT 42) (kT 42)),
 kO 13 (.mov (kT 43))])
 (.seq (.seq (.ops [kO 44 (.mov (kT 13)),
 kO 45 (.lenS (kT 44)),
 kO 46 (.mov (.const (.int .i64 0)))])
 (.block 2 (.loop (.seq (.ops [kO 47 (.ar .i64 .lss (kT 46) (kT 45))])
 (.seq (.cond (kT 47) .skip
 (.exit 2))
 (.seq (.block 3 (.seq (.ops [kO 48 (.mov (kT 46)),
 kO 14 (.mov (kT 48))])
 (.seq (.ops [kO 49 (.mov (kT 3)),
 kO 50 (.mov (kT 11)),
 kO 51 (.mov (kT 12)),
 kO 52 (.idxS 2 (kT 50) (kT 51)),
 kO 53 (.loadN 2 (kT 52)),
 kO 54 (.mov (kT 14)),
 kO 55 (.callv (kT 49) [.tmp 53,.tmp 54]),
 kO 15 (.alloc 147 [.int .i64 0,.int .i64 0]),
 ⟨none,.store 2 (kT 15) (kT 55),none⟩])
 (.seq (.seq (.ops [kO 57 (.mov (kT 10)),
 kO 58 (.loadN 2 (kT 15)),
 kO 59 (.raw (.lookup 156 (kT 57) (kT 58) true) 115),
 kO 56 (.mov (kT 59)),
 kO 60 (.ext (kT 56) 0),
 kO 61 (.ext (kT 56) 1),
 kO 16 (.mov (kT 60)),
 kO 17 (.mov (kT 61))])
 (.seq (.ops [kO 62 (.mov (kT 17)),
 kO 63 (.not (kT 62))])
 (.cond (kT 63) (.seq (.ops [kO 64 (.mov (kT 10)),
 kO 65 (.loadN 2 (kT 15)),
 kO 66 (.mov (kT 11)),
 kO 67 (.lenS (kT 66)),
 ⟨none,.raw (.mapUpdate 156 (kT 64) (kT 65) (kT 67)) 0,none⟩])
 (.ops [kO 68 (.mov (kT 11)),
 kO 69 (.loadN 2 (kT 15)),
 kO 70 (.slit 147 1 [.int .i64 0,.int .i64 0] [(0,2,(kT 69))]),
 kO 71 (.append 147 2 16 (kT 68) (kT 70)),
 kO 11 (.mov (kT 71))]))
 .skip)))
 (.ops [kO 72 (.mov (kT 13)),
 kO 73 (.mov (kT 14)),
 kO 74 (.mov (kT 10)),
 kO 75 (.loadN 2 (kT 15)),
 kO 76 (.raw (.lookup 156 (kT 74) (kT 75) false) 3),
 kO 77 (.idxS 1 (kT 72) (kT 73)),
 ⟨none,.store 1 (kT 77) (kT 76),none⟩])))))
 (.ops [kO 78 (.ar .i64 .add (kT 46) (.const (.int .i64 1))),
 kO 46 (.mov (kT 78))])))))))
 (.ops [kO 79 (.fldA 2 (kT 9)),
 kO 80 (.load1 (kT 79)),
 kO 81 (.mov (kT 13)),
 kO 82 (.slit 22 1 [.slice none 0 0] [(0,1,(kT 81))]),
 kO 83 (.append 22 1 24 (kT 80) (kT 82)),
 kO 84 (.fldA 2 (kT 9)),
 ⟨none,.store 1 (kT 84) (kT 83),none⟩])))))
 (.ops [kO 29 (.mov (kT 12)),
 kO 30 (.ar .i64 .add (kT 29) (.const (.int .i64 1))),
 kO 12 (.mov (kT 30))]))))))
 (.seq (.ops [kO 85 (.loadN 3 (kT 9)),
 ⟨none,.store 3 (kT 8) (kT 85),none⟩])
 .ret))))))
theorem enter103 {xs : List Value} {h : Hp} {Q : Value → Hp → Prop} (hl : xs.length ≤ 86) (w : wq E 86 none c103 (frameOf xs) h [] (leaveQ E [.cell 8 25] Q)) : CallP E 103 xs h Q :=
  CallP.enterQ (fn := Try.f103) (fn_get Try.func103) (code := Try.f103.body.get rfl) rfl rfl rfl (by kernel_rfl) rfl (fun _ => rfl) hl w
theorem can103 : callable E 103 = true := callable_get Try.func103 rfl rfl
def c104 : C := (.block 0 (.loop (.seq (.seq (.ops [kO 4 (.load1 (kT 1)),
 kO 5 (.ar .i64 .gtr (kT 4) (.const (.int .i64 0)))])
 (.cond (kT 5) .skip
 (.exit 0)))
 (.seq (.block 1 (.seq (.ops [kO 9 (.mov (kT 0)),
 kO 10 (.load1 (kT 1)),
 kO 11 (.load1 (kT 2)),
 kO 12 (.ar .i64 .rem (kT 10) (kT 11)),
 kO 13 (.callv (kT 9) [.tmp 12]),
 kO 14 (.not (kT 13))])
 (.cond (kT 14) .ret
 .skip)))
 (.ops [kO 6 (.load1 (kT 1)),
 kO 7 (.load1 (kT 2)),
 kO 8 (.ar .i64 .quo (kT 6) (kT 7)),
 ⟨none,.store 1 (kT 1) (kT 8),none⟩])))))
theorem enter104 {xs : List Value} {h : Hp} {Q : Value → Hp → Prop} (hl : xs.length ≤ 15) (w : wq E 15 none c104 (frameOf xs) h [] (leaveQ E [] Q)) : CallP E 104 xs h Q :=
  CallP.enterQ (fn := Try.f104) (fn_get Try.func104) (code := Try.f104.body.get rfl) rfl rfl rfl (by kernel_rfl) rfl (fun _ => rfl) hl w
theorem can104 : callable E 104 = true := callable_get Try.func104 rfl rfl
def c105 : C := (.seq (.ops [kO 2 (.box 25 (kT 0)),
 kO 4 (.mov (.const (.slice none 0 0))),
 kO 5 (.mov (.const (.int .i64 0)))])
 (.seq (.ops [kO 12 (.mov (kT 4)),
 kO 13 (.mov (kT 1)),
 kO 14 (.append 3 1 8 (kT 12) (kT 13)),
 kO 4 (.mov (kT 14))])
 (.seq (.seq (.ops [kO 15 (.fldA 0 (kT 2)),
 kO 16 (.load1 (kT 15)),
 kO 17 (.mov (.const (.int .i64 0)))])
 (.block 0 (.loop (.seq (.ops [kO 18 (.ar .i64 .lss (kT 17) (kT 16))])
 (.seq (.cond (kT 18) .skip
 (.exit 0))
 (.seq (.block 1 (.seq (.ops [kO 19 (.mov (kT 17)),
 kO 6 (.mov (kT 19))])
 (.seq (.ops [kO 20 (.newMap),
 kO 7 (.mov (kT 20))])
 (.seq (.seq (.ops [kO 21 (.mov (kT 4)),
 kO 22 (.lenS (kT 21)),
 kO 23 (.mov (.const (.int .i64 0)))])
 (.block 2 (.loop (.seq (.ops [kO 24 (.ar .i64 .lss (kT 23) (kT 22))])
 (.seq (.cond (kT 24) .skip
 (.exit 2))
 (.seq (.block 3 (.seq (.ops [kO 25 (.mov (kT 23)),
 kO 8 (.mov (kT 25))])
 (.seq (.draw [kO 26 (.mov (kT 4)),
 kO 27 (.mov (kT 8)),
 kO 28 (.idxS 1 (kT 26) (kT 27)),
 kO 29 (.load1 (kT 28)),
 kO 30 (.mov (kT 1)),
 kO 31 (.fldA 2 (kT 2)),
 kO 32 (.load1 (kT 31)),
 kO 33 (.mov (kT 8)),
 kO 34 (.idxS 1 (kT 32) (kT 33)),
 kO 35 (.load1 (kT 34)),
 kO 36 (.mov (kT 6)),
 kO 37 (.idxS 1 (kT 35) (kT 36)),
 kO 38 (.load1 (kT 37)),
 kO 39 (.idxS 1 (kT 30) (kT 38)),
 kO 40 (.load1 (kT 39)),
 kO 41 (.aggr [.int .i64 0,.int .i64 0] [(0,1,(kT 29)),(1,1,(kT 40))]),
 kO 9 (.alloc 106 [.int .i64 0,.int .i64 0]),
 ⟨none,.store 2 (kT 9) (kT 41),none⟩]
 [⟨false,true,fL9,fL8⟩,
 ⟨false,true,fL9,fL8⟩,
 ⟨false,true,fL9,fL8⟩,
 ⟨false,true,fL9,fL8⟩,
 ⟨false,true,fL9,fL8⟩,
 ⟨false,true,fL9,fL8⟩,
 ⟨false,true,fL9,fL8⟩,
 ⟨false,true,fL9,fL8⟩,
 ⟨false,true,fL9,fL8⟩,
 ⟨false,true,fL9,fL8⟩,
 ⟨false,true,fL9,fL8⟩,
 ⟨false,true,fL9,fL8⟩,
 ⟨false,true,fL9,fL8⟩,
 ⟨false,true,fL9,fL8⟩,
 ⟨false,true,fL9,fL8⟩,
 ⟨false,true,fL9,fL8⟩,
 ⟨true,false,fL9,fL8⟩,
 ⟨true,false,fL8,[false,false,false,false,false,false,false,false,false,false,false,false,false,false,false,false,true,true]⟩])
 (.seq (.seq (.ops [kO 43 (.mov (kT 7)),
 kO 44 (.loadN 2 (kT 9)),
 kO 45 (.raw (.lookup 140 (kT 43) (kT 44) true) 115),
 kO 42 (.mov (kT 45)),
 kO 46 (.ext (kT 42) 0),
 kO 47 (.ext (kT 42) 1),
 kO 10 (.mov (kT 46)),
 kO 11 (.mov (kT 47))])
 (.seq (.ops [kO 48 (.mov (kT 11)),
 kO 49 (.not (kT 48))])
 (.cond (kT 49) (.ops [kO 50 (.mov (kT 7)),
 kO 51 (.loadN 2 (kT 9)),
 kO 52 (.mov (kT 7)),
 kO 53 (.raw (.call ⟨.builtin .len,⟨[.tmp 52]⟩,⟨[140]⟩⟩) 3),
 ⟨none,.raw (.mapUpdate 140 (kT 50) (kT 51) (kT 53)) 0,none⟩])
 .skip)))
 (.ops [kO 54 (.mov (kT 4)),
 kO 55 (.mov (kT 8)),
 kO 56 (.mov (kT 7)),
 kO 57 (.loadN 2 (kT 9)),
 kO 58 (.raw (.lookup 140 (kT 56) (kT 57) false) 3),
 kO 59 (.idxS 1 (kT 54) (kT 55)),
 ⟨none,.store 1 (kT 59) (kT 58),none⟩])))))
 (.ops [kO 60 (.ar .i64 .add (kT 23) (.const (.int .i64 1))),
 kO 23 (.mov (kT 60))])))))))
 (.ops [kO 61 (.mov (kT 7)),
 kO 62 (.raw (.call ⟨.builtin .len,⟨[.tmp 61]⟩,⟨[140]⟩⟩) 3),
 kO 5 (.mov (kT 62))])))))
 (.ops [kO 63 (.ar .i64 .add (kT 17) (.const (.int .i64 1))),
 kO 17 (.mov (kT 63))])))))))
 (.seq (.ops [kO 64 (.mov (kT 4)),
 kO 65 (.mov (kT 5)),
 kO 4 (.mov (kT 64)),
 kO 5 (.mov (kT 65))])
 .ret))))
theorem enter105 {xs : List Value} {h : Hp} {Q : Value → Hp → Prop} (hl : xs.length ≤ 66) (w : wq E 66 none c105 (frameOf xs) h [] (leaveQ E [.tmp 4,.tmp 5] Q)) : CallP E 105 xs h Q :=
  CallP.enterQ (fn := Try.f105) (fn_get Try.func105) (code := Try.f105.body.get rfl) rfl rfl rfl (by kernel_rfl) rfl (fun _ => rfl) hl w
theorem can105 : callable E 105 = true := callable_get Try.func105 rfl rfl
end
end Go.Proofs.Ytedneplaibmppaa
