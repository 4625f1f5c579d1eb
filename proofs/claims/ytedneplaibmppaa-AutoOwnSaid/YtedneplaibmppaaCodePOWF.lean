/- The code of the functions that POWF comes to. -/
import Derived.Test.YtedneplaibmppaaTypesC
set_option maxRecDepth 100000
set_option linter.unusedSectionVars false
set_option linter.unusedVariables false
namespace Go.Proofs.Ytedneplaibmppaa
open Go.Rx Go.RowKit
noncomputable section
variable [Unknowns]
def c16 : C := (.seq (.ops [⟨(some 2),.box 25 (.tmp 0),none⟩,
 ⟨(some 4),.mov (.const (.bool false)),none⟩])
 (.seq (.ahead [⟨(some 22),.loadN 3 (.tmp 2),none⟩,
 ⟨(some 23),.mov (.tmp 1),none⟩,
 ⟨(some 24),.call 38 [(.tmp 23)],none⟩,
 ⟨(some 25),.call 37 [(.tmp 22),(.tmp 24),(.const (.int .i64 6))],none⟩,
 ⟨(some 5),.alloc 26 [(.int .i64 0),(.slice none 0 0),(.slice none 0 0)],none⟩,
 ⟨none,.store 3 (.tmp 5) (.tmp 25),none⟩]
 [⟨false,true,[false,false,false,false,false,false],[false,false,true,false,false,false]⟩,
 ⟨false,false,[false,false,false,false,false,false],[false,false,false,false,false,false]⟩,
 ⟨true,false,[false,false,false,false,false,false],[false,false,true,false,false,false]⟩,
 ⟨true,false,[false,false,true,false,false,false],[false,false,true,true,false,false]⟩,
 ⟨false,true,[false,false,false,false,false,false],[false,false,true,true,false,false]⟩,
 ⟨true,false,[false,false,true,true,false,false],[false,false,true,true,false,true]⟩]
 [false,false,false,false,true,false])
 (.seq (.ops [⟨(some 26),.loadN 3 (.tmp 5),none⟩,
 ⟨(some 27),.call 18 [(.tmp 26)],none⟩,
 ⟨(some 6),.alloc 25 [(.int .i64 0),(.slice none 0 0),(.slice none 0 0)],none⟩,
 ⟨none,.store 3 (.tmp 6) (.tmp 27),none⟩])
 (.seq (.ops [⟨(some 29),.loadN 3 (.tmp 6),none⟩,
 ⟨(some 30),.call 25 [(.tmp 29)],none⟩,
 ⟨(some 28),.mov (.tmp 30),none⟩,
 ⟨(some 31),.ext (.tmp 28) 0,none⟩,
 ⟨(some 32),.ext (.tmp 28) 1,none⟩,
 ⟨(some 7),.alloc 25 [(.int .i64 0),(.slice none 0 0),(.slice none 0 0)],none⟩,
 ⟨none,.store 3 (.tmp 7) (.tmp 31),none⟩,
 ⟨(some 8),.mov (.tmp 32),none⟩])
 (.seq (.ops [⟨(some 34),.loadN 3 (.tmp 6),none⟩,
 ⟨(some 35),.call 24 [(.tmp 34),(.const (.int .i64 20))],none⟩,
 ⟨(some 33),.mov (.tmp 35),none⟩,
 ⟨(some 36),.ext (.tmp 33) 0,none⟩,
 ⟨(some 37),.ext (.tmp 33) 1,none⟩,
 ⟨(some 9),.mov (.tmp 36),none⟩,
 ⟨(some 10),.mov (.tmp 37),none⟩])
 (.seq (.ops [⟨(some 38),.fldA 1 (.tmp 7),none⟩,
 ⟨(some 39),.load1 (.tmp 38),none⟩,
 ⟨(some 40),.fldA 2 (.tmp 7),none⟩,
 ⟨(some 41),.load1 (.tmp 40),none⟩,
 ⟨(some 11),.mov (.tmp 39),none⟩,
 ⟨(some 12),.mov (.tmp 41),none⟩])
 (.seq (.seq (.ops [⟨(some 13),.mov (.const (.int .i64 0)),none⟩])
 (.block 0 (.loop (.seq (.seq (.ops [⟨(some 42),.mov (.tmp 13),none⟩,
 ⟨(some 43),.mov (.tmp 11),none⟩,
 ⟨(some 44),.lenS (.tmp 43),none⟩,
 ⟨(some 45),.ar .i64 .lss (.tmp 42) (.tmp 44),none⟩])
 (.cond (.tmp 45) .skip
 (.exit 0)))
 (.seq (.block 1 (.ops [⟨(some 48),.mov (.tmp 11),none⟩,
 ⟨(some 49),.mov (.tmp 13),none⟩,
 ⟨(some 50),.idxS 1 (.tmp 48) (.tmp 49),none⟩,
 ⟨none,.store 1 (.tmp 50) (.const (.int .i64 (-7))),none⟩]))
 (.ops [⟨(some 46),.mov (.tmp 13),none⟩,
 ⟨(some 47),.ar .i64 .add (.tmp 46) (.const (.int .i64 1)),none⟩,
 ⟨(some 13),.mov (.tmp 47),none⟩]))))))
 (.seq (.seq (.ops [⟨(some 14),.mov (.const (.int .i64 0)),none⟩])
 (.block 2 (.loop (.seq (.seq (.ops [⟨(some 51),.mov (.tmp 14),none⟩,
 ⟨(some 52),.mov (.tmp 12),none⟩,
 ⟨(some 53),.lenS (.tmp 52),none⟩,
 ⟨(some 54),.ar .i64 .lss (.tmp 51) (.tmp 53),none⟩])
 (.cond (.tmp 54) .skip
 (.exit 2)))
 (.seq (.block 3 (.seq (.ops [⟨(some 15),.mov (.const (.int .i64 0)),none⟩])
 (.block 4 (.loop (.seq (.seq (.ops [⟨(some 57),.mov (.tmp 15),none⟩,
 ⟨(some 58),.mov (.tmp 12),none⟩,
 ⟨(some 59),.mov (.tmp 14),none⟩,
 ⟨(some 60),.idxS 1 (.tmp 58) (.tmp 59),none⟩,
 ⟨(some 61),.load1 (.tmp 60),none⟩,
 ⟨(some 62),.lenS (.tmp 61),none⟩,
 ⟨(some 63),.ar .i64 .lss (.tmp 57) (.tmp 62),none⟩])
 (.cond (.tmp 63) .skip
 (.exit 4)))
 (.seq (.block 5 (.ops [⟨(some 66),.mov (.tmp 12),none⟩,
 ⟨(some 67),.mov (.tmp 14),none⟩,
 ⟨(some 68),.idxS 1 (.tmp 66) (.tmp 67),none⟩,
 ⟨(some 69),.load1 (.tmp 68),none⟩,
 ⟨(some 70),.mov (.tmp 15),none⟩,
 ⟨(some 71),.idxS 1 (.tmp 69) (.tmp 70),none⟩,
 ⟨none,.store 1 (.tmp 71) (.const (.int .i64 (-7))),none⟩]))
 (.ops [⟨(some 64),.mov (.tmp 15),none⟩,
 ⟨(some 65),.ar .i64 .add (.tmp 64) (.const (.int .i64 1)),none⟩,
 ⟨(some 15),.mov (.tmp 65),none⟩])))))))
 (.ops [⟨(some 55),.mov (.tmp 14),none⟩,
 ⟨(some 56),.ar .i64 .add (.tmp 55) (.const (.int .i64 1)),none⟩,
 ⟨(some 14),.mov (.tmp 56),none⟩]))))))
 (.seq (.seq (.ops [⟨(some 16),.mov (.const (.int .i64 0)),none⟩])
 (.block 6 (.loop (.seq (.seq (.ops [⟨(some 72),.mov (.tmp 16),none⟩,
 ⟨(some 73),.mov (.tmp 9),none⟩,
 ⟨(some 74),.lenS (.tmp 73),none⟩,
 ⟨(some 75),.ar .i64 .lss (.tmp 72) (.tmp 74),none⟩])
 (.cond (.tmp 75) .skip
 (.exit 6)))
 (.seq (.block 7 (.ops [⟨(some 78),.mov (.tmp 9),none⟩,
 ⟨(some 79),.mov (.tmp 16),none⟩,
 ⟨(some 80),.idxS 1 (.tmp 78) (.tmp 79),none⟩,
 ⟨none,.store 1 (.tmp 80) (.const (.int .i64 (-7))),none⟩]))
 (.ops [⟨(some 76),.mov (.tmp 16),none⟩,
 ⟨(some 77),.ar .i64 .add (.tmp 76) (.const (.int .i64 1)),none⟩,
 ⟨(some 16),.mov (.tmp 77),none⟩]))))))
 (.seq (.ops [⟨(some 82),.loadN 3 (.tmp 6),none⟩,
 ⟨(some 83),.call 25 [(.tmp 82)],none⟩,
 ⟨(some 81),.mov (.tmp 83),none⟩,
 ⟨(some 84),.ext (.tmp 81) 0,none⟩,
 ⟨(some 85),.ext (.tmp 81) 1,none⟩,
 ⟨(some 17),.alloc 25 [(.int .i64 0),(.slice none 0 0),(.slice none 0 0)],none⟩,
 ⟨none,.store 3 (.tmp 17) (.tmp 84),none⟩,
 ⟨(some 18),.mov (.tmp 85),none⟩])
 (.seq (.ops [⟨(some 86),.call 22 [],none⟩,
 ⟨(some 19),.alloc 25 [(.int .i64 0),(.slice none 0 0),(.slice none 0 0)],none⟩,
 ⟨none,.store 3 (.tmp 19) (.tmp 86),none⟩])
 (.seq (.ops [⟨(some 87),.fldA 1 (.tmp 19),none⟩,
 ⟨(some 88),.load1 (.tmp 87),none⟩,
 ⟨(some 20),.mov (.tmp 88),none⟩])
 (.seq (.seq (.ops [⟨(some 21),.mov (.const (.int .i64 0)),none⟩])
 (.block 8 (.loop (.seq (.seq (.ops [⟨(some 89),.mov (.tmp 21),none⟩,
 ⟨(some 90),.mov (.tmp 20),none⟩,
 ⟨(some 91),.lenS (.tmp 90),none⟩,
 ⟨(some 92),.ar .i64 .lss (.tmp 89) (.tmp 91),none⟩])
 (.cond (.tmp 92) .skip
 (.exit 8)))
 (.seq (.block 9 (.ops [⟨(some 95),.mov (.tmp 20),none⟩,
 ⟨(some 96),.mov (.tmp 21),none⟩,
 ⟨(some 97),.idxS 1 (.tmp 95) (.tmp 96),none⟩,
 ⟨none,.store 1 (.tmp 97) (.const (.int .i64 9)),none⟩]))
 (.ops [⟨(some 93),.mov (.tmp 21),none⟩,
 ⟨(some 94),.ar .i64 .add (.tmp 93) (.const (.int .i64 1)),none⟩,
 ⟨(some 21),.mov (.tmp 94),none⟩]))))))
 (.seq (.draw [⟨(some 98),.mov (.tmp 8),none⟩,
 ⟨(some 99),.ar .i64 .eql (.tmp 98) (.const (.int .i64 0)),none⟩,
 ⟨(some 100),.mov (.tmp 99),none⟩,
 ⟨(some 101),.mov (.tmp 10),(some (100,true))⟩,
 ⟨(some 102),.ar .i64 .eql (.tmp 101) (.const (.int .i64 0)),(some (100,true))⟩,
 ⟨(some 103),.pick (.tmp 100) (.tmp 102) (.const (.bool false)),none⟩,
 ⟨(some 104),.mov (.tmp 103),none⟩,
 ⟨(some 105),.mov (.tmp 18),(some (104,true))⟩,
 ⟨(some 106),.ar .i64 .eql (.tmp 105) (.const (.int .i64 0)),(some (104,true))⟩,
 ⟨(some 107),.pick (.tmp 104) (.tmp 106) (.const (.bool false)),none⟩,
 ⟨(some 108),.mov (.tmp 107),none⟩,
 ⟨(some 109),.loadN 3 (.tmp 6),(some (108,true))⟩,
 ⟨(some 110),.call 17 [(.tmp 109)],(some (108,true))⟩,
 ⟨(some 111),.loadN 3 (.tmp 5),(some (108,true))⟩,
 ⟨(some 112),.call 41 [(.tmp 110),(.tmp 111)],(some (108,true))⟩,
 ⟨(some 113),.pick (.tmp 108) (.tmp 112) (.const (.bool false)),none⟩,
 ⟨(some 114),.mov (.tmp 113),none⟩,
 ⟨(some 115),.loadN 3 (.tmp 17),(some (114,true))⟩,
 ⟨(some 116),.call 17 [(.tmp 115)],(some (114,true))⟩,
 ⟨(some 117),.loadN 3 (.tmp 5),(some (114,true))⟩,
 ⟨(some 118),.call 40 [(.tmp 117)],(some (114,true))⟩,
 ⟨(some 119),.call 41 [(.tmp 116),(.tmp 118)],(some (114,true))⟩,
 ⟨(some 120),.pick (.tmp 114) (.tmp 119) (.const (.bool false)),none⟩,
 ⟨(some 121),.mov (.tmp 120),none⟩,
 ⟨(some 122),.call 21 [],(some (121,true))⟩,
 ⟨(some 123),.pick (.tmp 121) (.tmp 122) (.const (.bool false)),none⟩,
 ⟨(some 4),.mov (.tmp 123),none⟩]
 [⟨false,false,[false,false,false,false,false,false,false,false,false,false,false,false,false,false,false,false,false,false,false,false,false,false,false,false,false,false,false],[false,false,false,false,false,false,false,false,false,false,false,false,false,false,false,false,false,false,false,false,false,false,false,false,false,false,false]⟩,
 ⟨false,false,[false,false,false,false,false,false,false,false,false,false,false,false,false,false,false,false,false,false,false,false,false,false,false,false,false,false,false],[false,false,false,false,false,false,false,false,false,false,false,false,false,false,false,false,false,false,false,false,false,false,false,false,false,false,false]⟩,
 ⟨false,false,[false,false,false,false,false,false,false,false,false,false,false,false,false,false,false,false,false,false,false,false,false,false,false,false,false,false,false],[false,false,false,false,false,false,false,false,false,false,false,false,false,false,false,false,false,false,false,false,false,false,false,false,false,false,false]⟩,
 ⟨false,false,[false,false,false,false,false,false,false,false,false,false,false,false,false,false,false,false,false,false,false,false,false,false,false,false,false,false,false],[false,false,false,false,false,false,false,false,false,false,false,false,false,false,false,false,false,false,false,false,false,false,false,false,false,false,false]⟩,
 ⟨false,false,[false,false,false,false,false,false,false,false,false,false,false,false,false,false,false,false,false,false,false,false,false,false,false,false,false,false,false],[false,false,false,false,false,false,false,false,false,false,false,false,false,false,false,false,false,false,false,false,false,false,false,false,false,false,false]⟩,
 ⟨false,false,[false,false,false,false,false,false,false,false,false,false,false,false,false,false,false,false,false,false,false,false,false,false,false,false,false,false,false],[false,false,false,false,false,false,false,false,false,false,false,false,false,false,false,false,false,false,false,false,false,false,false,false,false,false,false]⟩,
 ⟨false,false,[false,false,false,false,false,false,false,false,false,false,false,false,false,false,false,false,false,false,false,false,false,false,false,false,false,false,false],[false,false,false,false,false,false,false,false,false,false,false,false,false,false,false,false,false,false,false,false,false,false,false,false,false,false,false]⟩,
 ⟨false,false,[false,false,false,false,false,false,false,false,false,false,false,false,false,false,false,false,false,false,false,false,false,false,false,false,false,false,false],[false,false,false,false,false,false,false,false,false,false,false,false,false,false,false,false,false,false,false,false,false,false,false,false,false,false,false]⟩,
 ⟨false,false,[false,false,false,false,false,false,false,false,false,false,false,false,false,false,false,false,false,false,false,false,false,false,false,false,false,false,false],[false,false,false,false,false,false,false,false,false,false,false,false,false,false,false,false,false,false,false,false,false,false,false,false,false,false,false]⟩,
 ⟨false,false,[false,false,false,false,false,false,false,false,false,false,false,false,false,false,false,false,false,false,false,false,false,false,false,false,false,false,false],[false,false,false,false,false,false,false,false,false,false,false,false,false,false,false,false,false,false,false,false,false,false,false,false,false,false,false]⟩,
 ⟨false,false,[false,false,false,false,false,false,false,false,false,false,false,false,false,false,false,false,false,false,false,false,false,false,false,false,false,false,false],[false,false,false,false,false,false,false,false,false,false,false,false,false,false,false,false,false,false,false,false,false,false,false,false,false,false,false]⟩,
 ⟨false,false,[false,false,false,false,false,false,false,false,false,false,false,false,false,false,false,false,false,false,false,false,false,false,false,false,false,false,false],[false,false,false,false,false,false,false,false,false,false,false,false,false,false,false,false,false,false,false,false,false,false,false,false,false,false,false]⟩,
 ⟨true,false,[false,false,false,false,false,false,false,false,false,false,false,false,false,false,false,false,false,false,false,false,false,false,false,false,false,false,false],[false,false,false,false,false,false,false,false,false,false,false,false,true,false,false,false,false,false,false,false,false,false,false,false,false,false,false]⟩,
 ⟨false,true,[false,false,false,false,false,false,false,false,false,false,false,false,false,false,false,false,false,false,false,false,false,false,false,false,false,false,false],[false,false,false,false,false,false,false,false,false,false,false,false,true,false,false,false,false,false,false,false,false,false,false,false,false,false,false]⟩,
 ⟨true,false,[false,false,false,false,false,false,false,false,false,false,false,false,true,false,false,false,false,false,false,false,false,false,false,false,false,false,false],[false,false,false,false,false,false,false,false,false,false,false,false,true,false,true,false,false,false,false,false,false,false,false,false,false,false,false]⟩,
 ⟨false,false,[false,false,false,false,false,false,false,false,false,false,false,false,true,false,true,false,false,false,false,false,false,false,false,false,false,false,false],[false,false,false,false,false,false,false,false,false,false,false,false,true,false,true,false,false,false,false,false,false,false,false,false,false,false,false]⟩,
 ⟨false,false,[false,false,false,false,false,false,false,false,false,false,false,false,true,false,true,false,false,false,false,false,false,false,false,false,false,false,false],[false,false,false,false,false,false,false,false,false,false,false,false,true,false,true,false,false,false,false,false,false,false,false,false,false,false,false]⟩,
 ⟨false,false,[false,false,false,false,false,false,false,false,false,false,false,false,true,false,true,false,false,false,false,false,false,false,false,false,false,false,false],[false,false,false,false,false,false,false,false,false,false,false,false,true,false,true,false,false,false,false,false,false,false,false,false,false,false,false]⟩,
 ⟨true,false,[false,false,false,false,false,false,false,false,false,false,false,false,true,false,true,false,false,false,false,false,false,false,false,false,false,false,false],[false,false,false,false,false,false,false,false,false,false,false,false,true,false,true,false,false,false,true,false,false,false,false,false,false,false,false]⟩,
 ⟨false,true,[false,false,false,false,false,false,false,false,false,false,false,false,true,false,true,false,false,false,false,false,false,false,false,false,false,false,false],[false,false,false,false,false,false,false,false,false,false,false,false,true,false,true,false,false,false,true,false,false,false,false,false,false,false,false]⟩,
 ⟨true,false,[false,false,false,false,false,false,false,false,false,false,false,false,true,false,true,false,false,false,true,false,false,false,false,false,false,false,false],[false,false,false,false,false,false,false,false,false,false,false,false,true,false,true,false,false,false,true,false,true,false,false,false,false,false,false]⟩,
 ⟨true,false,[false,false,false,false,false,false,false,false,false,false,false,false,true,false,true,false,false,false,true,false,true,false,false,false,false,false,false],[false,false,false,false,false,false,false,false,false,false,false,false,true,false,true,false,false,false,true,false,true,true,false,false,false,false,false]⟩,
 ⟨false,false,[false,false,false,false,false,false,false,false,false,false,false,false,true,false,true,false,false,false,true,false,true,true,false,false,false,false,false],[false,false,false,false,false,false,false,false,false,false,false,false,true,false,true,false,false,false,true,false,true,true,false,false,false,false,false]⟩,
 ⟨false,false,[false,false,false,false,false,false,false,false,false,false,false,false,true,false,true,false,false,false,true,false,true,true,false,false,false,false,false],[false,false,false,false,false,false,false,false,false,false,false,false,true,false,true,false,false,false,true,false,true,true,false,false,false,false,false]⟩,
 ⟨true,false,[false,false,false,false,false,false,false,false,false,false,false,false,true,false,true,false,false,false,true,false,true,true,false,false,false,false,false],[false,false,false,false,false,false,false,false,false,false,false,false,true,false,true,false,false,false,true,false,true,true,false,false,true,false,false]⟩,
 ⟨false,false,[false,false,false,false,false,false,false,false,false,false,false,false,true,false,true,false,false,false,true,false,true,true,false,false,true,false,false],[false,false,false,false,false,false,false,false,false,false,false,false,true,false,true,false,false,false,true,false,true,true,false,false,true,false,false]⟩,
 ⟨false,false,[false,false,false,false,false,false,false,false,false,false,false,false,true,false,true,false,false,false,true,false,true,true,false,false,true,false,false],[false,false,false,false,false,false,false,false,false,false,false,false,true,false,true,false,false,false,true,false,true,true,false,false,true,false,false]⟩])
 .ret))))))))))))))
theorem enter16 {xs : List Value} {h : Hp} {Q : Value → Hp → Prop} (hl : xs.length ≤ 124) (w : wq E 124 none c16 (frameOf xs) h [] (leaveQ E [.tmp 4] Q)) : CallP E 16 xs h Q :=
  CallP.enterQ (fn := Try.f16) (fn_get Try.func16) (code := Try.f16.body.get rfl) rfl rfl rfl (by kernel_rfl) rfl (fun _ => rfl) hl w
theorem can16 : callable E 16 = true := callable_get Try.func16 rfl rfl
def c17 : C := (.seq (.ops [⟨(some 1),.box 25 (.tmp 0),none⟩,
 ⟨(some 2),.alloc 26 [(.int .i64 0),(.slice none 0 0),(.slice none 0 0)],none⟩])
 (.seq (.ahead [⟨(some 6),.fldA 0 (.tmp 1),none⟩,
 ⟨(some 7),.load1 (.tmp 6),none⟩,
 ⟨(some 8),.fldA 1 (.tmp 1),none⟩,
 ⟨(some 9),.load1 (.tmp 8),none⟩,
 ⟨(some 10),.call 49 [(.tmp 9),(.const (.int .i64 13))],none⟩,
 ⟨(some 11),.aggr [(.int .i64 0),(.slice none 0 0),(.slice none 0 0)] [(0,1,(.tmp 7)),(1,1,(.tmp 10))],none⟩,
 ⟨(some 3),.alloc 26 [(.int .i64 0),(.slice none 0 0),(.slice none 0 0)],none⟩,
 ⟨none,.store 3 (.tmp 3) (.tmp 11),none⟩]
 [⟨false,true,[false,false,false,false,false,false,false,false],[false,false,false,false,true,false,false,false]⟩,
 ⟨false,true,[false,false,false,false,false,false,false,false],[false,false,false,false,true,false,false,false]⟩,
 ⟨false,false,[false,false,false,false,false,false,false,false],[false,false,false,false,false,false,false,false]⟩,
 ⟨false,false,[false,false,false,false,false,false,false,false],[false,false,false,false,false,false,false,false]⟩,
 ⟨true,false,[false,false,false,false,false,false,false,false],[false,false,false,false,true,false,false,false]⟩,
 ⟨false,false,[false,false,false,false,true,false,false,false],[false,false,false,false,true,false,false,false]⟩,
 ⟨false,true,[false,false,false,false,false,false,false,false],[false,false,false,false,true,false,false,false]⟩,
 ⟨true,false,[false,false,false,false,true,false,false,false],[false,false,false,false,true,false,false,true]⟩]
 [false,false,false,false,false,false,true,false])
 (.seq (.seq (.ops [⟨(some 4),.mov (.const (.int .i64 0)),none⟩])
 (.block 0 (.loop (.seq (.seq (.ops [⟨(some 12),.mov (.tmp 4),none⟩,
 ⟨(some 13),.fldA 2 (.tmp 1),none⟩,
 ⟨(some 14),.load1 (.tmp 13),none⟩,
 ⟨(some 15),.lenS (.tmp 14),none⟩,
 ⟨(some 16),.ar .i64 .lss (.tmp 12) (.tmp 15),none⟩,
 ⟨(some 17),.mov (.tmp 16),none⟩,
 ⟨(some 18),.mov (.tmp 4),(some (17,true))⟩,
 ⟨(some 19),.ar .i64 .leq (.tmp 18) (.const (.int .i64 12)),(some (17,true))⟩,
 ⟨(some 20),.pick (.tmp 17) (.tmp 19) (.const (.bool false)),none⟩])
 (.cond (.tmp 20) .skip
 (.exit 0)))
 (.seq (.block 1 (.seq (.ops [⟨(some 23),.fldA 2 (.tmp 3),none⟩,
 ⟨(some 24),.load1 (.tmp 23),none⟩,
 ⟨(some 5),.mov (.tmp 24),none⟩])
 (.ops [⟨(some 25),.mov (.tmp 5),none⟩,
 ⟨(some 26),.fldA 2 (.tmp 1),none⟩,
 ⟨(some 27),.load1 (.tmp 26),none⟩,
 ⟨(some 28),.mov (.tmp 4),none⟩,
 ⟨(some 29),.idxS 1 (.tmp 27) (.tmp 28),none⟩,
 ⟨(some 30),.load1 (.tmp 29),none⟩,
 ⟨(some 31),.call 49 [(.tmp 30),(.const (.int .i64 26))],none⟩,
 ⟨(some 32),.slit 22 1 [(.slice none 0 0)] [(0,1,(.tmp 31))],none⟩,
 ⟨(some 33),.append 22 1 24 (.tmp 25) (.tmp 32),none⟩,
 ⟨(some 34),.fldA 2 (.tmp 3),none⟩,
 ⟨none,.store 1 (.tmp 34) (.tmp 33),none⟩])))
 (.ops [⟨(some 21),.mov (.tmp 4),none⟩,
 ⟨(some 22),.ar .i64 .add (.tmp 21) (.const (.int .i64 1)),none⟩,
 ⟨(some 4),.mov (.tmp 22),none⟩]))))))
 (.seq (.ops [⟨(some 35),.loadN 3 (.tmp 3),none⟩,
 ⟨none,.store 3 (.tmp 2) (.tmp 35),none⟩])
 .ret))))
theorem enter17 {xs : List Value} {h : Hp} {Q : Value → Hp → Prop} (hl : xs.length ≤ 36) (w : wq E 36 none c17 (frameOf xs) h [] (leaveQ E [.cell 2 26] Q)) : CallP E 17 xs h Q :=
  CallP.enterQ (fn := Try.f17) (fn_get Try.func17) (code := Try.f17.body.get rfl) rfl rfl rfl (by kernel_rfl) rfl (fun _ => rfl) hl w
theorem can17 : callable E 17 = true := callable_get Try.func17 rfl rfl
def c18 : C := (.seq (.ops [⟨(some 1),.box 26 (.tmp 0),none⟩,
 ⟨(some 2),.alloc 25 [(.int .i64 0),(.slice none 0 0),(.slice none 0 0)],none⟩])
 (.seq (.ahead [⟨(some 6),.fldA 0 (.tmp 1),none⟩,
 ⟨(some 7),.load1 (.tmp 6),none⟩,
 ⟨(some 8),.fldA 1 (.tmp 1),none⟩,
 ⟨(some 9),.load1 (.tmp 8),none⟩,
 ⟨(some 10),.call 49 [(.tmp 9),(.const (.int .i64 13))],none⟩,
 ⟨(some 11),.aggr [(.int .i64 0),(.slice none 0 0),(.slice none 0 0)] [(0,1,(.tmp 7)),(1,1,(.tmp 10))],none⟩,
 ⟨(some 3),.alloc 25 [(.int .i64 0),(.slice none 0 0),(.slice none 0 0)],none⟩,
 ⟨none,.store 3 (.tmp 3) (.tmp 11),none⟩]
 [⟨false,true,[false,false,false,false,false,false,false,false],[false,false,false,false,true,false,false,false]⟩,
 ⟨false,true,[false,false,false,false,false,false,false,false],[false,false,false,false,true,false,false,false]⟩,
 ⟨false,false,[false,false,false,false,false,false,false,false],[false,false,false,false,false,false,false,false]⟩,
 ⟨false,false,[false,false,false,false,false,false,false,false],[false,false,false,false,false,false,false,false]⟩,
 ⟨true,false,[false,false,false,false,false,false,false,false],[false,false,false,false,true,false,false,false]⟩,
 ⟨false,false,[false,false,false,false,true,false,false,false],[false,false,false,false,true,false,false,false]⟩,
 ⟨false,true,[false,false,false,false,false,false,false,false],[false,false,false,false,true,false,false,false]⟩,
 ⟨true,false,[false,false,false,false,true,false,false,false],[false,false,false,false,true,false,false,true]⟩]
 [false,false,false,false,false,false,true,false])
 (.seq (.seq (.ops [⟨(some 4),.mov (.const (.int .i64 0)),none⟩])
 (.block 0 (.loop (.seq (.seq (.ops [⟨(some 12),.mov (.tmp 4),none⟩,
 ⟨(some 13),.fldA 2 (.tmp 1),none⟩,
 ⟨(some 14),.load1 (.tmp 13),none⟩,
 ⟨(some 15),.lenS (.tmp 14),none⟩,
 ⟨(some 16),.ar .i64 .lss (.tmp 12) (.tmp 15),none⟩,
 ⟨(some 17),.mov (.tmp 16),none⟩,
 ⟨(some 18),.mov (.tmp 4),(some (17,true))⟩,
 ⟨(some 19),.ar .i64 .leq (.tmp 18) (.const (.int .i64 12)),(some (17,true))⟩,
 ⟨(some 20),.pick (.tmp 17) (.tmp 19) (.const (.bool false)),none⟩])
 (.cond (.tmp 20) .skip
 (.exit 0)))
 (.seq (.block 1 (.seq (.ops [⟨(some 23),.fldA 2 (.tmp 3),none⟩,
 ⟨(some 24),.load1 (.tmp 23),none⟩,
 ⟨(some 5),.mov (.tmp 24),none⟩])
 (.ops [⟨(some 25),.mov (.tmp 5),none⟩,
 ⟨(some 26),.fldA 2 (.tmp 1),none⟩,
 ⟨(some 27),.load1 (.tmp 26),none⟩,
 ⟨(some 28),.mov (.tmp 4),none⟩,
 ⟨(some 29),.idxS 1 (.tmp 27) (.tmp 28),none⟩,
 ⟨(some 30),.load1 (.tmp 29),none⟩,
 ⟨(some 31),.call 49 [(.tmp 30),(.const (.int .i64 26))],none⟩,
 ⟨(some 32),.slit 22 1 [(.slice none 0 0)] [(0,1,(.tmp 31))],none⟩,
 ⟨(some 33),.append 22 1 24 (.tmp 25) (.tmp 32),none⟩,
 ⟨(some 34),.fldA 2 (.tmp 3),none⟩,
 ⟨none,.store 1 (.tmp 34) (.tmp 33),none⟩])))
 (.ops [⟨(some 21),.mov (.tmp 4),none⟩,
 ⟨(some 22),.ar .i64 .add (.tmp 21) (.const (.int .i64 1)),none⟩,
 ⟨(some 4),.mov (.tmp 22),none⟩]))))))
 (.seq (.ops [⟨(some 35),.loadN 3 (.tmp 3),none⟩,
 ⟨none,.store 3 (.tmp 2) (.tmp 35),none⟩])
 .ret))))
theorem enter18 {xs : List Value} {h : Hp} {Q : Value → Hp → Prop} (hl : xs.length ≤ 36) (w : wq E 36 none c18 (frameOf xs) h [] (leaveQ E [.cell 2 25] Q)) : CallP E 18 xs h Q :=
  CallP.enterQ (fn := Try.f18) (fn_get Try.func18) (code := Try.f18.body.get rfl) rfl rfl rfl (by kernel_rfl) rfl (fun _ => rfl) hl w
theorem can18 : callable E 18 = true := callable_get Try.func18 rfl rfl
def c20 : C := (.seq (.ops [⟨(some 1),.box 25 (.tmp 0),none⟩,
 ⟨(some 2),.mov (.const (.int .i64 0)),none⟩])
 (.seq (.ops [⟨(some 7),.fldA 1 (.tmp 1),none⟩,
 ⟨(some 8),.load1 (.tmp 7),none⟩,
 ⟨(some 9),.lenS (.tmp 8),none⟩,
 ⟨(some 3),.alloc 3 [(.int .i64 0)],none⟩,
 ⟨none,.store 1 (.tmp 3) (.tmp 9),none⟩])
 (.seq (.seq (.ops [⟨(some 10),.fldA 0 (.tmp 1),none⟩,
 ⟨(some 11),.load1 (.tmp 10),none⟩,
 ⟨(some 12),.ar .i64 .lss (.tmp 11) (.const (.int .i64 2)),none⟩,
 ⟨(some 13),.mov (.tmp 12),none⟩,
 ⟨(some 14),.fldA 0 (.tmp 1),(some (13,false))⟩,
 ⟨(some 15),.load1 (.tmp 14),(some (13,false))⟩,
 ⟨(some 16),.ar .i64 .gtr (.tmp 15) (.const (.int .i64 5)),(some (13,false))⟩,
 ⟨(some 17),.pick (.tmp 13) (.const (.bool true)) (.tmp 16),none⟩,
 ⟨(some 18),.mov (.tmp 17),none⟩,
 ⟨(some 19),.load1 (.tmp 3),(some (18,false))⟩,
 ⟨(some 20),.ar .i64 .lss (.tmp 19) (.const (.int .i64 1)),(some (18,false))⟩,
 ⟨(some 21),.pick (.tmp 18) (.const (.bool true)) (.tmp 20),none⟩,
 ⟨(some 22),.mov (.tmp 21),none⟩,
 ⟨(some 23),.load1 (.tmp 3),(some (22,false))⟩,
 ⟨(some 24),.ar .i64 .gtr (.tmp 23) (.const (.int .i64 12)),(some (22,false))⟩,
 ⟨(some 25),.pick (.tmp 22) (.const (.bool true)) (.tmp 24),none⟩,
 ⟨(some 26),.mov (.tmp 25),none⟩,
 ⟨(some 27),.fldA 1 (.tmp 1),(some (26,false))⟩,
 ⟨(some 28),.load1 (.tmp 27),(some (26,false))⟩,
 ⟨(some 29),.call 57 [(.tmp 28)],(some (26,false))⟩,
 ⟨(some 30),.not (.tmp 29),(some (26,false))⟩,
 ⟨(some 31),.pick (.tmp 26) (.const (.bool true)) (.tmp 30),none⟩,
 ⟨(some 32),.mov (.tmp 31),none⟩,
 ⟨(some 33),.fldA 2 (.tmp 1),(some (32,false))⟩,
 ⟨(some 34),.load1 (.tmp 33),(some (32,false))⟩,
 ⟨(some 35),.lenS (.tmp 34),(some (32,false))⟩,
 ⟨(some 36),.load1 (.tmp 3),(some (32,false))⟩,
 ⟨(some 37),.ar .i64 .neq (.tmp 35) (.tmp 36),(some (32,false))⟩,
 ⟨(some 38),.pick (.tmp 32) (.const (.bool true)) (.tmp 37),none⟩])
 (.cond (.tmp 38) (.seq (.ops [⟨(some 2),.mov (.const (.int .i64 50)),none⟩])
 .ret)
 .skip))
 (.seq (.ops [⟨(some 39),.func (.func 58) [] [(.tmp 3)],none⟩,
 ⟨(some 4),.mov (.tmp 39),none⟩])
 (.seq (.seq (.ops [⟨(some 40),.fldA 2 (.tmp 1),none⟩,
 ⟨(some 41),.load1 (.tmp 40),none⟩,
 ⟨(some 42),.lenS (.tmp 41),none⟩,
 ⟨(some 43),.mov (.const (.int .i64 0)),none⟩])
 (.block 0 (.loop (.seq (.ops [⟨(some 44),.ar .i64 .lss (.tmp 43) (.tmp 42),none⟩])
 (.seq (.cond (.tmp 44) .skip
 (.exit 0))
 (.seq (.block 1 (.seq (.ops [⟨(some 45),.mov (.tmp 43),none⟩,
 ⟨(some 46),.idxS 1 (.tmp 41) (.tmp 43),none⟩,
 ⟨(some 47),.load1 (.tmp 46),none⟩,
 ⟨(some 5),.mov (.tmp 45),none⟩,
 ⟨(some 6),.mov (.tmp 47),none⟩])
 (.seq (.ops [⟨(some 48),.mov (.tmp 6),none⟩,
 ⟨(some 49),.lenS (.tmp 48),none⟩,
 ⟨(some 50),.fldA 0 (.tmp 1),none⟩,
 ⟨(some 51),.load1 (.tmp 50),none⟩,
 ⟨(some 52),.ar .i64 .neq (.tmp 49) (.tmp 51),none⟩,
 ⟨(some 53),.mov (.tmp 52),none⟩,
 ⟨(some 54),.mov (.tmp 6),(some (53,false))⟩,
 ⟨(some 55),.mov (.tmp 4),(some (53,false))⟩,
 ⟨(some 56),.call 59 [(.tmp 54),(.tmp 55)],(some (53,false))⟩,
 ⟨(some 57),.pick (.tmp 53) (.const (.bool true)) (.tmp 56),none⟩,
 ⟨(some 58),.mov (.tmp 57),none⟩,
 ⟨(some 59),.fldA 1 (.tmp 1),(some (58,false))⟩,
 ⟨(some 60),.load1 (.tmp 59),(some (58,false))⟩,
 ⟨(some 61),.mov (.tmp 6),(some (58,false))⟩,
 ⟨(some 62),.idxS 1 (.tmp 61) (.const (.int .i64 0)),(some (58,false))⟩,
 ⟨(some 63),.load1 (.tmp 62),(some (58,false))⟩,
 ⟨(some 64),.idxS 1 (.tmp 60) (.tmp 63),(some (58,false))⟩,
 ⟨(some 65),.load1 (.tmp 64),(some (58,false))⟩,
 ⟨(some 66),.fldA 1 (.tmp 1),(some (58,false))⟩,
 ⟨(some 67),.load1 (.tmp 66),(some (58,false))⟩,
 ⟨(some 68),.mov (.tmp 5),(some (58,false))⟩,
 ⟨(some 69),.idxS 1 (.tmp 67) (.tmp 68),(some (58,false))⟩,
 ⟨(some 70),.load1 (.tmp 69),(some (58,false))⟩,
 ⟨(some 71),.ar .i64 .neq (.tmp 65) (.tmp 70),(some (58,false))⟩,
 ⟨(some 72),.pick (.tmp 58) (.const (.bool true)) (.tmp 71),none⟩])
 (.cond (.tmp 72) (.seq (.ops [⟨(some 2),.mov (.const (.int .i64 50)),none⟩])
 .ret)
 .skip))))
 (.ops [⟨(some 73),.ar .i64 .add (.tmp 43) (.const (.int .i64 1)),none⟩,
 ⟨(some 43),.mov (.tmp 73),none⟩])))))))
 (.seq (.ops [⟨(some 2),.mov (.const (.int .i64 0)),none⟩])
 .ret))))))
theorem enter20 {xs : List Value} {h : Hp} {Q : Value → Hp → Prop} (hl : xs.length ≤ 74) (w : wq E 74 none c20 (frameOf xs) h [] (leaveQ E [.tmp 2] Q)) : CallP E 20 xs h Q :=
  CallP.enterQ (fn := Try.f20) (fn_get Try.func20) (code := Try.f20.body.get rfl) rfl rfl rfl (by kernel_rfl) rfl (fun _ => rfl) hl w
theorem can20 : callable E 20 = true := callable_get Try.func20 rfl rfl
def c21 : C := (.seq (.ops [⟨(some 0),.mov (.const (.bool false)),none⟩])
 (.seq (.ops [⟨(some 15),.call 22 [],none⟩,
 ⟨(some 1),.alloc 25 [(.int .i64 0),(.slice none 0 0),(.slice none 0 0)],none⟩,
 ⟨none,.store 3 (.tmp 1) (.tmp 15),none⟩])
 (.seq (.ops [⟨(some 17),.loadN 3 (.tmp 1),none⟩,
 ⟨(some 18),.call 24 [(.tmp 17),(.const (.int .i64 8))],none⟩,
 ⟨(some 16),.mov (.tmp 18),none⟩,
 ⟨(some 19),.ext (.tmp 16) 0,none⟩,
 ⟨(some 20),.ext (.tmp 16) 1,none⟩,
 ⟨(some 2),.mov (.tmp 19),none⟩,
 ⟨(some 3),.mov (.tmp 20),none⟩])
 (.seq (.ops [⟨(some 22),.slit 3 2 [(.int .i64 0),(.int .i64 0)] [(0,1,(.const (.int .i64 0))),(1,1,(.const (.int .i64 1)))],none⟩,
 ⟨(some 23),.call 50 [(.const (.int .i64 2)),(.const (.slice none 0 0)),(.tmp 22)],none⟩,
 ⟨(some 21),.mov (.tmp 23),none⟩,
 ⟨(some 24),.ext (.tmp 21) 0,none⟩,
 ⟨(some 25),.ext (.tmp 21) 1,none⟩,
 ⟨(some 4),.alloc 25 [(.int .i64 0),(.slice none 0 0),(.slice none 0 0)],none⟩,
 ⟨none,.store 3 (.tmp 4) (.tmp 24),none⟩,
 ⟨(some 5),.mov (.tmp 25),none⟩])
 (.seq (.ops [⟨(some 27),.loadN 3 (.tmp 1),none⟩,
 ⟨(some 28),.call 28 [(.tmp 27),(.const (.int .i64 2)),(.const (.int .i64 0))],none⟩,
 ⟨(some 26),.mov (.tmp 28),none⟩,
 ⟨(some 29),.ext (.tmp 26) 0,none⟩,
 ⟨(some 30),.ext (.tmp 26) 1,none⟩,
 ⟨(some 6),.alloc 25 [(.int .i64 0),(.slice none 0 0),(.slice none 0 0)],none⟩,
 ⟨none,.store 3 (.tmp 6) (.tmp 29),none⟩,
 ⟨(some 7),.mov (.tmp 30),none⟩])
 (.seq (.ops [⟨(some 32),.loadN 3 (.tmp 1),none⟩,
 ⟨(some 33),.call 35 [(.tmp 32),(.const (.int .i64 1))],none⟩,
 ⟨(some 31),.mov (.tmp 33),none⟩,
 ⟨(some 34),.ext (.tmp 31) 0,none⟩,
 ⟨(some 35),.ext (.tmp 31) 1,none⟩,
 ⟨(some 36),.ext (.tmp 31) 2,none⟩,
 ⟨(some 8),.mov (.tmp 34),none⟩,
 ⟨(some 9),.mov (.tmp 35),none⟩,
 ⟨(some 10),.mov (.tmp 36),none⟩])
 (.seq (.ops [⟨(some 38),.loadN 3 (.tmp 4),none⟩,
 ⟨(some 39),.call 33 [(.tmp 38)],none⟩,
 ⟨(some 37),.mov (.tmp 39),none⟩,
 ⟨(some 40),.ext (.tmp 37) 0,none⟩,
 ⟨(some 41),.ext (.tmp 37) 1,none⟩,
 ⟨(some 42),.ext (.tmp 37) 2,none⟩,
 ⟨(some 43),.ext (.tmp 37) 3,none⟩,
 ⟨(some 11),.mov (.tmp 40),none⟩,
 ⟨(some 12),.mov (.tmp 41),none⟩,
 ⟨(some 13),.mov (.tmp 42),none⟩,
 ⟨(some 14),.mov (.tmp 43),none⟩])
 (.seq (.ops [⟨(some 44),.loadN 3 (.tmp 1),none⟩,
 ⟨(some 45),.call 17 [(.tmp 44)],none⟩,
 ⟨(some 46),.call 60 [],none⟩,
 ⟨(some 47),.call 41 [(.tmp 45),(.tmp 46)],none⟩,
 ⟨(some 48),.mov (.tmp 47),none⟩,
 ⟨(some 49),.mov (.tmp 3),(some (48,true))⟩,
 ⟨(some 50),.ar .i64 .eql (.tmp 49) (.const (.int .i64 0)),(some (48,true))⟩,
 ⟨(some 51),.pick (.tmp 48) (.tmp 50) (.const (.bool false)),none⟩,
 ⟨(some 52),.mov (.tmp 51),none⟩,
 ⟨(some 53),.mov (.tmp 2),(some (52,true))⟩,
 ⟨(some 54),.slit 3 8 [(.int .i64 0),(.int .i64 0),(.int .i64 0),(.int .i64 0),(.int .i64 0),(.int .i64 0),(.int .i64 0),(.int .i64 0)] [(0,1,(.const (.int .i64 0))),(1,1,(.const (.int .i64 1))),(2,1,(.const (.int .i64 1))),(3,1,(.const (.int .i64 0))),(4,1,(.const (.int .i64 1))),(5,1,(.const (.int .i64 0))),(6,1,(.const (.int .i64 0))),(7,1,(.const (.int .i64 1)))],(some (52,true))⟩,
 ⟨(some 55),.call 61 [(.tmp 53),(.tmp 54)],(some (52,true))⟩,
 ⟨(some 56),.pick (.tmp 52) (.tmp 55) (.const (.bool false)),none⟩,
 ⟨(some 57),.mov (.tmp 56),none⟩,
 ⟨(some 58),.mov (.tmp 5),(some (57,true))⟩,
 ⟨(some 59),.ar .i64 .eql (.tmp 58) (.const (.int .i64 0)),(some (57,true))⟩,
 ⟨(some 60),.pick (.tmp 57) (.tmp 59) (.const (.bool false)),none⟩,
 ⟨(some 61),.mov (.tmp 60),none⟩,
 ⟨(some 62),.loadN 3 (.tmp 4),(some (61,true))⟩,
 ⟨(some 63),.call 17 [(.tmp 62)],(some (61,true))⟩,
 ⟨(some 64),.slit 3 3 [(.int .i64 0),(.int .i64 0),(.int .i64 0)] [(0,1,(.const (.int .i64 0))),(1,1,(.const (.int .i64 0))),(2,1,(.const (.int .i64 1)))],(some (61,true))⟩,
 ⟨(some 65),.slit 3 2 [(.int .i64 0),(.int .i64 0)] [(0,1,(.const (.int .i64 1))),(1,1,(.const (.int .i64 2)))],(some (61,true))⟩,
 ⟨(some 66),.slit 3 2 [(.int .i64 0),(.int .i64 0)] [(0,1,(.const (.int .i64 1))),(1,1,(.const (.int .i64 1)))],(some (61,true))⟩,
 ⟨(some 67),.slit 3 2 [(.int .i64 0),(.int .i64 0)] [(0,1,(.const (.int .i64 2))),(1,1,(.const (.int .i64 2)))],(some (61,true))⟩,
 ⟨(some 68),.slit 22 3 [(.slice none 0 0),(.slice none 0 0),(.slice none 0 0)] [(0,1,(.tmp 65)),(1,1,(.tmp 66)),(2,1,(.tmp 67))],(some (61,true))⟩,
 ⟨(some 69),.aggr [(.int .i64 0),(.slice none 0 0),(.slice none 0 0)] [(0,1,(.const (.int .i64 2))),(1,1,(.tmp 64)),(2,1,(.tmp 68))],(some (61,true))⟩,
 ⟨(some 70),.call 41 [(.tmp 63),(.tmp 69)],(some (61,true))⟩,
 ⟨(some 71),.pick (.tmp 61) (.tmp 70) (.const (.bool false)),none⟩,
 ⟨(some 72),.mov (.tmp 71),none⟩,
 ⟨(some 73),.mov (.tmp 7),(some (72,true))⟩,
 ⟨(some 74),.ar .i64 .eql (.tmp 73) (.const (.int .i64 0)),(some (72,true))⟩,
 ⟨(some 75),.pick (.tmp 72) (.tmp 74) (.const (.bool false)),none⟩,
 ⟨(some 76),.mov (.tmp 75),none⟩,
 ⟨(some 77),.loadN 3 (.tmp 6),(some (76,true))⟩,
 ⟨(some 78),.call 17 [(.tmp 77)],(some (76,true))⟩,
 ⟨(some 79),.call 60 [],(some (76,true))⟩,
 ⟨(some 80),.call 41 [(.tmp 78),(.tmp 79)],(some (76,true))⟩,
 ⟨(some 81),.pick (.tmp 76) (.tmp 80) (.const (.bool false)),none⟩,
 ⟨(some 82),.mov (.tmp 81),none⟩,
 ⟨(some 83),.mov (.tmp 10),(some (82,true))⟩,
 ⟨(some 84),.ar .i64 .eql (.tmp 83) (.const (.int .i64 0)),(some (82,true))⟩,
 ⟨(some 85),.pick (.tmp 82) (.tmp 84) (.const (.bool false)),none⟩,
 ⟨(some 86),.mov (.tmp 85),none⟩,
 ⟨(some 87),.mov (.tmp 9),(some (86,true))⟩,
 ⟨(some 88),.pick (.tmp 86) (.tmp 87) (.const (.bool false)),none⟩,
 ⟨(some 89),.mov (.tmp 88),none⟩,
 ⟨(some 90),.mov (.tmp 8),(some (89,true))⟩,
 ⟨(some 91),.ar .i64 .eql (.tmp 90) (.const (.int .i64 1)),(some (89,true))⟩,
 ⟨(some 92),.pick (.tmp 89) (.tmp 91) (.const (.bool false)),none⟩,
 ⟨(some 93),.mov (.tmp 92),none⟩,
 ⟨(some 94),.mov (.tmp 14),(some (93,true))⟩,
 ⟨(some 95),.ar .i64 .eql (.tmp 94) (.const (.int .i64 0)),(some (93,true))⟩,
 ⟨(some 96),.pick (.tmp 93) (.tmp 95) (.const (.bool false)),none⟩,
 ⟨(some 97),.mov (.tmp 96),none⟩,
 ⟨(some 98),.mov (.tmp 13),(some (97,true))⟩,
 ⟨(some 99),.pick (.tmp 97) (.tmp 98) (.const (.bool false)),none⟩,
 ⟨(some 100),.mov (.tmp 99),none⟩,
 ⟨(some 101),.mov (.tmp 11),(some (100,true))⟩,
 ⟨(some 102),.ar .i64 .eql (.tmp 101) (.const (.int .i64 0)),(some (100,true))⟩,
 ⟨(some 103),.pick (.tmp 100) (.tmp 102) (.const (.bool false)),none⟩,
 ⟨(some 104),.mov (.tmp 103),none⟩,
 ⟨(some 105),.mov (.tmp 12),(some (104,true))⟩,
 ⟨(some 106),.ar .i64 .eql (.tmp 105) (.const (.int .i64 2)),(some (104,true))⟩,
 ⟨(some 107),.pick (.tmp 104) (.tmp 106) (.const (.bool false)),none⟩,
 ⟨(some 108),.mov (.tmp 107),none⟩,
 ⟨(some 109),.aggr [(.int .i64 0),(.slice none 0 0),(.slice none 0 0)] [],(some (108,true))⟩,
 ⟨(some 110),.call 20 [(.tmp 109)],(some (108,true))⟩,
 ⟨(some 111),.ar .i64 .eql (.tmp 110) (.const (.int .i64 50)),(some (108,true))⟩,
 ⟨(some 112),.pick (.tmp 108) (.tmp 111) (.const (.bool false)),none⟩,
 ⟨(some 0),.mov (.tmp 112),none⟩])
 .ret))))))))
theorem enter21 {xs : List Value} {h : Hp} {Q : Value → Hp → Prop} (hl : xs.length ≤ 113) (w : wq E 113 none c21 (frameOf xs) h [] (leaveQ E [.tmp 0] Q)) : CallP E 21 xs h Q :=
  CallP.enterQ (fn := Try.f21) (fn_get Try.func21) (code := Try.f21.body.get rfl) rfl rfl rfl (by kernel_rfl) rfl (fun _ => rfl) hl w
theorem can21 : callable E 21 = true := callable_get Try.func21 rfl rfl
def c22 : C := (.seq (.ops [⟨(some 0),.alloc 25 [(.int .i64 0),(.slice none 0 0),(.slice none 0 0)],none⟩])
 (.seq (.ops [⟨(some 1),.slit 3 2 [(.int .i64 0),(.int .i64 0)] [(0,1,(.const (.int .i64 0))),(1,1,(.const (.int .i64 1)))],none⟩,
 ⟨(some 2),.slit 3 2 [(.int .i64 0),(.int .i64 0)] [(0,1,(.const (.int .i64 0))),(1,1,(.const (.int .i64 1)))],none⟩,
 ⟨(some 3),.slit 3 2 [(.int .i64 0),(.int .i64 0)] [(0,1,(.const (.int .i64 1))),(1,1,(.const (.int .i64 0)))],none⟩,
 ⟨(some 4),.slit 22 2 [(.slice none 0 0),(.slice none 0 0)] [(0,1,(.tmp 2)),(1,1,(.tmp 3))],none⟩,
 ⟨(some 5),.aggr [(.int .i64 0),(.slice none 0 0),(.slice none 0 0)] [(0,1,(.const (.int .i64 2))),(1,1,(.tmp 1)),(2,1,(.tmp 4))],none⟩,
 ⟨none,.store 3 (.tmp 0) (.tmp 5),none⟩])
 .ret))
theorem enter22 {xs : List Value} {h : Hp} {Q : Value → Hp → Prop} (hl : xs.length ≤ 6) (w : wq E 6 none c22 (frameOf xs) h [] (leaveQ E [.cell 0 25] Q)) : CallP E 22 xs h Q :=
  CallP.enterQ (fn := Try.f22) (fn_get Try.func22) (code := Try.f22.body.get rfl) rfl rfl rfl (by kernel_rfl) rfl (fun _ => rfl) hl w
theorem can22 : callable E 22 = true := callable_get Try.func22 rfl rfl
def c24 : C := (.seq (.ops [⟨(some 2),.box 25 (.tmp 0),none⟩,
 ⟨(some 4),.mov (.const (.slice none 0 0)),none⟩,
 ⟨(some 5),.mov (.const (.int .i64 0)),none⟩])
 (.seq (.seq (.ops [⟨(some 9),.loadN 3 (.tmp 2),none⟩,
 ⟨(some 10),.call 20 [(.tmp 9)],none⟩,
 ⟨(some 6),.mov (.tmp 10),none⟩])
 (.seq (.ops [⟨(some 11),.mov (.tmp 6),none⟩,
 ⟨(some 12),.ar .i64 .neq (.tmp 11) (.const (.int .i64 0)),none⟩])
 (.cond (.tmp 12) (.seq (.ops [⟨(some 13),.mov (.tmp 6),none⟩,
 ⟨(some 4),.mov (.const (.slice none 0 0)),none⟩,
 ⟨(some 5),.mov (.tmp 13),none⟩])
 .ret)
 .skip)))
 (.seq (.seq (.ops [⟨(some 14),.mov (.tmp 1),none⟩,
 ⟨(some 15),.ar .i64 .lss (.tmp 14) (.const (.int .i64 0)),none⟩,
 ⟨(some 16),.mov (.tmp 15),none⟩,
 ⟨(some 17),.mov (.tmp 1),(some (16,false))⟩,
 ⟨(some 18),.ar .i64 .gtr (.tmp 17) (.const (.int .i64 1000)),(some (16,false))⟩,
 ⟨(some 19),.pick (.tmp 16) (.const (.bool true)) (.tmp 18),none⟩])
 (.cond (.tmp 19) (.seq (.ops [⟨(some 4),.mov (.const (.slice none 0 0)),none⟩,
 ⟨(some 5),.mov (.const (.int .i64 1)),none⟩])
 .ret)
 .skip))
 (.seq (.ops [⟨(some 20),.mov (.tmp 1),none⟩,
 ⟨(some 21),.make 3 [(.int .i64 0)] 8 (.tmp 20) (.tmp 20),none⟩,
 ⟨(some 7),.mov (.tmp 21),none⟩])
 (.seq (.seq (.ops [⟨(some 22),.mov (.tmp 7),none⟩,
 ⟨(some 23),.lenS (.tmp 22),none⟩,
 ⟨(some 24),.mov (.const (.int .i64 0)),none⟩])
 (.block 0 (.loop (.seq (.ops [⟨(some 25),.ar .i64 .lss (.tmp 24) (.tmp 23),none⟩])
 (.seq (.cond (.tmp 25) .skip
 (.exit 0))
 (.seq (.block 1 (.seq (.ops [⟨(some 26),.mov (.tmp 24),none⟩,
 ⟨(some 8),.mov (.tmp 26),none⟩])
 (.ops [⟨(some 27),.mov (.tmp 7),none⟩,
 ⟨(some 28),.mov (.tmp 8),none⟩,
 ⟨(some 29),.loadN 3 (.tmp 2),none⟩,
 ⟨(some 30),.mov (.tmp 8),none⟩,
 ⟨(some 31),.call 62 [(.tmp 29),(.const (.int .i64 0)),(.tmp 30)],none⟩,
 ⟨(some 32),.idxS 1 (.tmp 27) (.tmp 28),none⟩,
 ⟨none,.store 1 (.tmp 32) (.tmp 31),none⟩])))
 (.ops [⟨(some 33),.ar .i64 .add (.tmp 24) (.const (.int .i64 1)),none⟩,
 ⟨(some 24),.mov (.tmp 33),none⟩])))))))
 (.seq (.ops [⟨(some 34),.mov (.tmp 7),none⟩,
 ⟨(some 4),.mov (.tmp 34),none⟩,
 ⟨(some 5),.mov (.const (.int .i64 0)),none⟩])
 .ret))))))
theorem enter24 {xs : List Value} {h : Hp} {Q : Value → Hp → Prop} (hl : xs.length ≤ 35) (w : wq E 35 none c24 (frameOf xs) h [] (leaveQ E [.tmp 4,.tmp 5] Q)) : CallP E 24 xs h Q :=
  CallP.enterQ (fn := Try.f24) (fn_get Try.func24) (code := Try.f24.body.get rfl) rfl rfl rfl (by kernel_rfl) rfl (fun _ => rfl) hl w
theorem can24 : callable E 24 = true := callable_get Try.func24 rfl rfl
def c25 : C := (.seq (.ops [⟨(some 1),.box 25 (.tmp 0),none⟩,
 ⟨(some 2),.alloc 25 [(.int .i64 0),(.slice none 0 0),(.slice none 0 0)],none⟩,
 ⟨(some 3),.mov (.const (.int .i64 0)),none⟩])
 (.seq (.seq (.ops [⟨(some 5),.loadN 3 (.tmp 1),none⟩,
 ⟨(some 6),.call 20 [(.tmp 5)],none⟩,
 ⟨(some 4),.mov (.tmp 6),none⟩])
 (.seq (.ops [⟨(some 7),.mov (.tmp 4),none⟩,
 ⟨(some 8),.ar .i64 .neq (.tmp 7) (.const (.int .i64 0)),none⟩])
 (.cond (.tmp 8) (.seq (.ops [⟨(some 9),.aggr [(.int .i64 0),(.slice none 0 0),(.slice none 0 0)] [],none⟩,
 ⟨(some 10),.mov (.tmp 4),none⟩,
 ⟨none,.store 3 (.tmp 2) (.tmp 9),none⟩,
 ⟨(some 3),.mov (.tmp 10),none⟩])
 .ret)
 .skip)))
 (.seq (.ops [⟨(some 11),.loadN 3 (.tmp 1),none⟩,
 ⟨(some 12),.call 63 [(.tmp 11)],none⟩,
 ⟨none,.store 3 (.tmp 2) (.tmp 12),none⟩,
 ⟨(some 3),.mov (.const (.int .i64 0)),none⟩])
 .ret)))
theorem enter25 {xs : List Value} {h : Hp} {Q : Value → Hp → Prop} (hl : xs.length ≤ 13) (w : wq E 13 none c25 (frameOf xs) h [] (leaveQ E [.cell 2 25,.tmp 3] Q)) : CallP E 25 xs h Q :=
  CallP.enterQ (fn := Try.f25) (fn_get Try.func25) (code := Try.f25.body.get rfl) rfl rfl rfl (by kernel_rfl) rfl (fun _ => rfl) hl w
theorem can25 : callable E 25 = true := callable_get Try.func25 rfl rfl
def c28 : C := (.seq (.ops [⟨(some 3),.box 25 (.tmp 0),none⟩,
 ⟨(some 6),.alloc 25 [(.int .i64 0),(.slice none 0 0),(.slice none 0 0)],none⟩,
 ⟨(some 7),.mov (.const (.int .i64 0)),none⟩])
 (.seq (.seq (.ops [⟨(some 9),.loadN 3 (.tmp 3),none⟩,
 ⟨(some 10),.call 20 [(.tmp 9)],none⟩,
 ⟨(some 8),.mov (.tmp 10),none⟩])
 (.seq (.ops [⟨(some 11),.mov (.tmp 8),none⟩,
 ⟨(some 12),.ar .i64 .neq (.tmp 11) (.const (.int .i64 0)),none⟩])
 (.cond (.tmp 12) (.seq (.ops [⟨(some 13),.aggr [(.int .i64 0),(.slice none 0 0),(.slice none 0 0)] [],none⟩,
 ⟨(some 14),.mov (.tmp 8),none⟩,
 ⟨none,.store 3 (.tmp 6) (.tmp 13),none⟩,
 ⟨(some 7),.mov (.tmp 14),none⟩])
 .ret)
 .skip)))
 (.seq (.seq (.ops [⟨(some 15),.mov (.tmp 1),none⟩,
 ⟨(some 16),.ar .i64 .lss (.tmp 15) (.const (.int .i64 1)),none⟩,
 ⟨(some 17),.mov (.tmp 16),none⟩,
 ⟨(some 18),.mov (.tmp 1),(some (17,false))⟩,
 ⟨(some 19),.ar .i64 .gtr (.tmp 18) (.const (.int .i64 30)),(some (17,false))⟩,
 ⟨(some 20),.pick (.tmp 17) (.const (.bool true)) (.tmp 19),none⟩,
 ⟨(some 21),.mov (.tmp 20),none⟩,
 ⟨(some 22),.mov (.tmp 2),(some (21,false))⟩,
 ⟨(some 23),.ar .i64 .lss (.tmp 22) (.const (.int .i64 0)),(some (21,false))⟩,
 ⟨(some 24),.pick (.tmp 21) (.const (.bool true)) (.tmp 23),none⟩,
 ⟨(some 25),.mov (.tmp 24),none⟩,
 ⟨(some 26),.mov (.tmp 2),(some (25,false))⟩,
 ⟨(some 27),.ar .i64 .gtr (.tmp 26) (.const (.int .i64 100)),(some (25,false))⟩,
 ⟨(some 28),.pick (.tmp 25) (.const (.bool true)) (.tmp 27),none⟩])
 (.cond (.tmp 28) (.seq (.ops [⟨(some 29),.aggr [(.int .i64 0),(.slice none 0 0),(.slice none 0 0)] [],none⟩,
 ⟨none,.store 3 (.tmp 6) (.tmp 29),none⟩,
 ⟨(some 7),.mov (.const (.int .i64 1)),none⟩])
 .ret)
 .skip))
 (.seq (.ops [⟨(some 30),.loadN 3 (.tmp 3),none⟩,
 ⟨(some 31),.mov (.tmp 1),none⟩,
 ⟨(some 32),.mov (.tmp 2),none⟩,
 ⟨(some 33),.call 67 [(.tmp 30),(.tmp 31),(.tmp 32)],none⟩,
 ⟨(some 34),.call 66 [(.tmp 33)],none⟩,
 ⟨(some 35),.ext (.tmp 34) 0,none⟩,
 ⟨(some 36),.ext (.tmp 34) 1,none⟩,
 ⟨none,.store 3 (.tmp 6) (.tmp 35),none⟩,
 ⟨(some 7),.mov (.tmp 36),none⟩])
 .ret))))
theorem enter28 {xs : List Value} {h : Hp} {Q : Value → Hp → Prop} (hl : xs.length ≤ 37) (w : wq E 37 none c28 (frameOf xs) h [] (leaveQ E [.cell 6 25,.tmp 7] Q)) : CallP E 28 xs h Q :=
  CallP.enterQ (fn := Try.f28) (fn_get Try.func28) (code := Try.f28.body.get rfl) rfl rfl rfl (by kernel_rfl) rfl (fun _ => rfl) hl w
theorem can28 : callable E 28 = true := callable_get Try.func28 rfl rfl
def c33 : C := (.seq (.ops [⟨(some 1),.box 25 (.tmp 0),none⟩,
 ⟨(some 2),.mov (.const (.int .i64 0)),none⟩,
 ⟨(some 3),.mov (.const (.int .i64 0)),none⟩,
 ⟨(some 4),.mov (.const (.bool false)),none⟩,
 ⟨(some 5),.mov (.const (.int .i64 0)),none⟩])
 (.seq (.seq (.ops [⟨(some 6),.loadN 3 (.tmp 1),none⟩,
 ⟨(some 7),.call 20 [(.tmp 6)],none⟩,
 ⟨(some 5),.mov (.tmp 7),none⟩])
 (.seq (.ops [⟨(some 8),.mov (.tmp 5),none⟩,
 ⟨(some 9),.ar .i64 .neq (.tmp 8) (.const (.int .i64 0)),none⟩])
 (.cond (.tmp 9) (.seq (.ops [⟨(some 10),.mov (.tmp 5),none⟩,
 ⟨(some 2),.mov (.const (.int .i64 0)),none⟩,
 ⟨(some 3),.mov (.const (.int .i64 0)),none⟩,
 ⟨(some 4),.mov (.const (.bool false)),none⟩,
 ⟨(some 5),.mov (.tmp 10),none⟩])
 .ret)
 .skip)))
 (.seq (.seq (.ops [⟨(some 3),.mov (.const (.int .i64 1)),none⟩])
 (.block 0 (.loop (.seq (.seq (.ops [⟨(some 11),.mov (.tmp 3),none⟩,
 ⟨(some 12),.ar .i64 .leq (.tmp 11) (.const (.int .i64 30)),none⟩])
 (.cond (.tmp 12) .skip
 (.exit 0)))
 (.seq (.block 1 (.seq (.ops [⟨(some 15),.loadN 3 (.tmp 1),none⟩,
 ⟨(some 16),.mov (.tmp 3),none⟩,
 ⟨(some 17),.call 77 [(.tmp 15),(.const (.int .i64 60)),(.tmp 16)],none⟩])
 (.cond (.tmp 17) (.seq (.ops [⟨(some 18),.loadN 3 (.tmp 1),none⟩,
 ⟨(some 19),.mov (.tmp 3),none⟩,
 ⟨(some 20),.call 78 [(.tmp 18),(.tmp 19)],none⟩,
 ⟨(some 21),.mov (.tmp 3),none⟩,
 ⟨(some 2),.mov (.tmp 20),none⟩,
 ⟨(some 3),.mov (.tmp 21),none⟩,
 ⟨(some 4),.mov (.const (.bool true)),none⟩,
 ⟨(some 5),.mov (.const (.int .i64 0)),none⟩])
 .ret)
 .skip)))
 (.ops [⟨(some 13),.mov (.tmp 3),none⟩,
 ⟨(some 14),.ar .i64 .add (.tmp 13) (.const (.int .i64 1)),none⟩,
 ⟨(some 3),.mov (.tmp 14),none⟩]))))))
 (.seq (.ops [⟨(some 2),.mov (.const (.int .i64 0)),none⟩,
 ⟨(some 3),.mov (.const (.int .i64 0)),none⟩,
 ⟨(some 4),.mov (.const (.bool false)),none⟩,
 ⟨(some 5),.mov (.const (.int .i64 0)),none⟩])
 .ret))))
theorem enter33 {xs : List Value} {h : Hp} {Q : Value → Hp → Prop} (hl : xs.length ≤ 22) (w : wq E 22 none c33 (frameOf xs) h [] (leaveQ E [.tmp 2,.tmp 3,.tmp 4,.tmp 5] Q)) : CallP E 33 xs h Q :=
  CallP.enterQ (fn := Try.f33) (fn_get Try.func33) (code := Try.f33.body.get rfl) rfl rfl rfl (by kernel_rfl) rfl (fun _ => rfl) hl w
theorem can33 : callable E 33 = true := callable_get Try.func33 rfl rfl
def c35 : C := (.seq (.ops [⟨(some 2),.box 25 (.tmp 0),none⟩,
 ⟨(some 4),.mov (.const (.int .i64 0)),none⟩,
 ⟨(some 5),.mov (.const (.bool false)),none⟩,
 ⟨(some 6),.mov (.const (.int .i64 0)),none⟩])
 (.seq (.seq (.ops [⟨(some 10),.loadN 3 (.tmp 2),none⟩,
 ⟨(some 11),.call 20 [(.tmp 10)],none⟩,
 ⟨(some 7),.mov (.tmp 11),none⟩])
 (.seq (.ops [⟨(some 12),.mov (.tmp 7),none⟩,
 ⟨(some 13),.ar .i64 .neq (.tmp 12) (.const (.int .i64 0)),none⟩])
 (.cond (.tmp 13) (.seq (.ops [⟨(some 14),.mov (.tmp 7),none⟩,
 ⟨(some 4),.mov (.const (.int .i64 0)),none⟩,
 ⟨(some 5),.mov (.const (.bool false)),none⟩,
 ⟨(some 6),.mov (.tmp 14),none⟩])
 .ret)
 .skip)))
 (.seq (.seq (.ops [⟨(some 15),.mov (.tmp 1),none⟩,
 ⟨(some 16),.call 79 [(.tmp 15)],none⟩,
 ⟨(some 17),.not (.tmp 16),none⟩])
 (.cond (.tmp 17) (.seq (.ops [⟨(some 4),.mov (.const (.int .i64 0)),none⟩,
 ⟨(some 5),.mov (.const (.bool false)),none⟩,
 ⟨(some 6),.mov (.const (.int .i64 1)),none⟩])
 .ret)
 .skip))
 (.seq (.ops [⟨(some 19),.loadN 3 (.tmp 2),none⟩,
 ⟨(some 20),.mov (.tmp 1),none⟩,
 ⟨(some 21),.call 80 [(.tmp 19),(.tmp 20)],none⟩,
 ⟨(some 18),.mov (.tmp 21),none⟩,
 ⟨(some 22),.ext (.tmp 18) 0,none⟩,
 ⟨(some 23),.ext (.tmp 18) 1,none⟩,
 ⟨(some 8),.mov (.tmp 22),none⟩,
 ⟨(some 9),.mov (.tmp 23),none⟩])
 (.seq (.ops [⟨(some 24),.mov (.tmp 8),none⟩,
 ⟨(some 25),.mov (.tmp 9),none⟩,
 ⟨(some 4),.mov (.tmp 24),none⟩,
 ⟨(some 5),.mov (.tmp 25),none⟩,
 ⟨(some 6),.mov (.const (.int .i64 0)),none⟩])
 .ret)))))
theorem enter35 {xs : List Value} {h : Hp} {Q : Value → Hp → Prop} (hl : xs.length ≤ 26) (w : wq E 26 none c35 (frameOf xs) h [] (leaveQ E [.tmp 4,.tmp 5,.tmp 6] Q)) : CallP E 35 xs h Q :=
  CallP.enterQ (fn := Try.f35) (fn_get Try.func35) (code := Try.f35.body.get rfl) rfl rfl rfl (by kernel_rfl) rfl (fun _ => rfl) hl w
theorem can35 : callable E 35 = true := callable_get Try.func35 rfl rfl
def c37 : C := (.seq (.ops [⟨(some 3),.box 25 (.tmp 0),none⟩,
 ⟨(some 6),.alloc 26 [(.int .i64 0),(.slice none 0 0),(.slice none 0 0)],none⟩])
 (.seq (.ops [⟨(some 17),.fldA 1 (.tmp 3),none⟩,
 ⟨(some 18),.load1 (.tmp 17),none⟩,
 ⟨(some 19),.lenS (.tmp 18),none⟩,
 ⟨(some 20),.mov (.tmp 2),none⟩,
 ⟨(some 21),.raw (.call ⟨.builtin .min,⟨[(.tmp 19),(.tmp 20)]⟩,⟨[3,3]⟩⟩) 3,none⟩,
 ⟨(some 22),.raw (.call ⟨.builtin .max,⟨[(.const (.int .i64 1)),(.tmp 21)]⟩,⟨[3,3]⟩⟩) 3,none⟩,
 ⟨(some 7),.mov (.tmp 22),none⟩])
 (.seq (.ops [⟨(some 23),.mov (.tmp 1),none⟩,
 ⟨(some 24),.aggr [(.int .i64 0),(.slice none 0 0),(.slice none 0 0)] [(0,1,(.tmp 23))],none⟩,
 ⟨(some 8),.alloc 26 [(.int .i64 0),(.slice none 0 0),(.slice none 0 0)],none⟩,
 ⟨none,.store 3 (.tmp 8) (.tmp 24),none⟩])
 (.seq (.seq (.ops [⟨(some 9),.mov (.const (.int .i64 0)),none⟩])
 (.block 0 (.loop (.seq (.seq (.ops [⟨(some 25),.mov (.tmp 9),none⟩,
 ⟨(some 26),.mov (.tmp 7),none⟩,
 ⟨(some 27),.ar .i64 .lss (.tmp 25) (.tmp 26),none⟩])
 (.cond (.tmp 27) .skip
 (.exit 0)))
 (.seq (.block 1 (.seq (.ops [⟨(some 10),.mov (.const (.int .i64 0)),none⟩])
 (.seq (.seq (.ops [⟨(some 30),.mov (.tmp 9),none⟩,
 ⟨(some 31),.fldA 1 (.tmp 3),none⟩,
 ⟨(some 32),.load1 (.tmp 31),none⟩,
 ⟨(some 33),.lenS (.tmp 32),none⟩,
 ⟨(some 34),.ar .i64 .lss (.tmp 30) (.tmp 33),none⟩])
 (.cond (.tmp 34) (.ops [⟨(some 35),.fldA 1 (.tmp 3),none⟩,
 ⟨(some 36),.load1 (.tmp 35),none⟩,
 ⟨(some 37),.mov (.tmp 9),none⟩,
 ⟨(some 38),.idxS 1 (.tmp 36) (.tmp 37),none⟩,
 ⟨(some 39),.load1 (.tmp 38),none⟩,
 ⟨(some 40),.cint .u64 (.tmp 39),none⟩,
 ⟨(some 41),.ar .u64 .rem (.tmp 40) (.const (.int .u64 10)),none⟩,
 ⟨(some 42),.cint .i64 (.tmp 41),none⟩,
 ⟨(some 10),.mov (.tmp 42),none⟩])
 .skip))
 (.seq (.ops [⟨(some 43),.fldA 1 (.tmp 8),none⟩,
 ⟨(some 44),.load1 (.tmp 43),none⟩,
 ⟨(some 11),.mov (.tmp 44),none⟩])
 (.ops [⟨(some 45),.mov (.tmp 11),none⟩,
 ⟨(some 46),.mov (.tmp 10),none⟩,
 ⟨(some 47),.slit 3 1 [(.int .i64 0)] [(0,1,(.tmp 46))],none⟩,
 ⟨(some 48),.append 3 1 8 (.tmp 45) (.tmp 47),none⟩,
 ⟨(some 49),.fldA 1 (.tmp 8),none⟩,
 ⟨none,.store 1 (.tmp 49) (.tmp 48),none⟩])))))
 (.ops [⟨(some 28),.mov (.tmp 9),none⟩,
 ⟨(some 29),.ar .i64 .add (.tmp 28) (.const (.int .i64 1)),none⟩,
 ⟨(some 9),.mov (.tmp 29),none⟩]))))))
 (.seq (.seq (.ops [⟨(some 12),.mov (.const (.int .i64 0)),none⟩])
 (.block 2 (.loop (.seq (.seq (.ops [⟨(some 50),.mov (.tmp 12),none⟩,
 ⟨(some 51),.mov (.tmp 7),none⟩,
 ⟨(some 52),.ar .i64 .lss (.tmp 50) (.tmp 51),none⟩])
 (.cond (.tmp 52) .skip
 (.exit 2)))
 (.seq (.block 3 (.seq (.ops [⟨(some 13),.mov (.const (.slice none 0 0)),none⟩])
 (.seq (.seq (.ops [⟨(some 14),.mov (.const (.int .i64 0)),none⟩])
 (.block 4 (.loop (.seq (.seq (.ops [⟨(some 55),.mov (.tmp 14),none⟩,
 ⟨(some 56),.mov (.tmp 1),none⟩,
 ⟨(some 57),.ar .i64 .lss (.tmp 55) (.tmp 56),none⟩])
 (.cond (.tmp 57) .skip
 (.exit 4)))
 (.seq (.block 5 (.seq (.ops [⟨(some 60),.mov (.tmp 12),none⟩,
 ⟨(some 15),.mov (.tmp 60),none⟩])
 (.seq (.seq (.ops [⟨(some 61),.mov (.tmp 12),none⟩,
 ⟨(some 62),.fldA 2 (.tmp 3),none⟩,
 ⟨(some 63),.load1 (.tmp 62),none⟩,
 ⟨(some 64),.lenS (.tmp 63),none⟩,
 ⟨(some 65),.ar .i64 .lss (.tmp 61) (.tmp 64),none⟩,
 ⟨(some 66),.mov (.tmp 65),none⟩,
 ⟨(some 67),.mov (.tmp 14),(some (66,true))⟩,
 ⟨(some 68),.fldA 2 (.tmp 3),(some (66,true))⟩,
 ⟨(some 69),.load1 (.tmp 68),(some (66,true))⟩,
 ⟨(some 70),.mov (.tmp 12),(some (66,true))⟩,
 ⟨(some 71),.idxS 1 (.tmp 69) (.tmp 70),(some (66,true))⟩,
 ⟨(some 72),.load1 (.tmp 71),(some (66,true))⟩,
 ⟨(some 73),.lenS (.tmp 72),(some (66,true))⟩,
 ⟨(some 74),.ar .i64 .lss (.tmp 67) (.tmp 73),(some (66,true))⟩,
 ⟨(some 75),.pick (.tmp 66) (.tmp 74) (.const (.bool false)),none⟩])
 (.cond (.tmp 75) (.ops [⟨(some 76),.fldA 2 (.tmp 3),none⟩,
 ⟨(some 77),.load1 (.tmp 76),none⟩,
 ⟨(some 78),.mov (.tmp 12),none⟩,
 ⟨(some 79),.idxS 1 (.tmp 77) (.tmp 78),none⟩,
 ⟨(some 80),.load1 (.tmp 79),none⟩,
 ⟨(some 81),.mov (.tmp 14),none⟩,
 ⟨(some 82),.idxS 1 (.tmp 80) (.tmp 81),none⟩,
 ⟨(some 83),.load1 (.tmp 82),none⟩,
 ⟨(some 84),.cint .u64 (.tmp 83),none⟩,
 ⟨(some 85),.mov (.tmp 7),none⟩,
 ⟨(some 86),.cint .u64 (.tmp 85),none⟩,
 ⟨(some 87),.ar .u64 .rem (.tmp 84) (.tmp 86),none⟩,
 ⟨(some 88),.cint .i64 (.tmp 87),none⟩,
 ⟨(some 15),.mov (.tmp 88),none⟩])
 .skip))
 (.seq (.seq (.ops [⟨(some 89),.mov (.tmp 14),none⟩,
 ⟨(some 90),.ar .i64 .eql (.tmp 89) (.const (.int .i64 0)),none⟩,
 ⟨(some 91),.mov (.tmp 90),none⟩,
 ⟨(some 92),.fldA 1 (.tmp 8),(some (91,true))⟩,
 ⟨(some 93),.load1 (.tmp 92),(some (91,true))⟩,
 ⟨(some 94),.mov (.tmp 15),(some (91,true))⟩,
 ⟨(some 95),.idxS 1 (.tmp 93) (.tmp 94),(some (91,true))⟩,
 ⟨(some 96),.load1 (.tmp 95),(some (91,true))⟩,
 ⟨(some 97),.fldA 1 (.tmp 8),(some (91,true))⟩,
 ⟨(some 98),.load1 (.tmp 97),(some (91,true))⟩,
 ⟨(some 99),.mov (.tmp 12),(some (91,true))⟩,
 ⟨(some 100),.idxS 1 (.tmp 98) (.tmp 99),(some (91,true))⟩,
 ⟨(some 101),.load1 (.tmp 100),(some (91,true))⟩,
 ⟨(some 102),.ar .i64 .neq (.tmp 96) (.tmp 101),(some (91,true))⟩,
 ⟨(some 103),.pick (.tmp 91) (.tmp 102) (.const (.bool false)),none⟩])
 (.cond (.tmp 103) (.ops [⟨(some 104),.mov (.tmp 12),none⟩,
 ⟨(some 15),.mov (.tmp 104),none⟩])
 .skip))
 (.ops [⟨(some 105),.mov (.tmp 13),none⟩,
 ⟨(some 106),.mov (.tmp 15),none⟩,
 ⟨(some 107),.slit 3 1 [(.int .i64 0)] [(0,1,(.tmp 106))],none⟩,
 ⟨(some 108),.append 3 1 8 (.tmp 105) (.tmp 107),none⟩,
 ⟨(some 13),.mov (.tmp 108),none⟩])))))
 (.ops [⟨(some 58),.mov (.tmp 14),none⟩,
 ⟨(some 59),.ar .i64 .add (.tmp 58) (.const (.int .i64 1)),none⟩,
 ⟨(some 14),.mov (.tmp 59),none⟩]))))))
 (.seq (.ops [⟨(some 109),.fldA 2 (.tmp 8),none⟩,
 ⟨(some 110),.load1 (.tmp 109),none⟩,
 ⟨(some 16),.mov (.tmp 110),none⟩])
 (.ops [⟨(some 111),.mov (.tmp 16),none⟩,
 ⟨(some 112),.mov (.tmp 13),none⟩,
 ⟨(some 113),.slit 22 1 [(.slice none 0 0)] [(0,1,(.tmp 112))],none⟩,
 ⟨(some 114),.append 22 1 24 (.tmp 111) (.tmp 113),none⟩,
 ⟨(some 115),.fldA 2 (.tmp 8),none⟩,
 ⟨none,.store 1 (.tmp 115) (.tmp 114),none⟩])))))
 (.ops [⟨(some 53),.mov (.tmp 12),none⟩,
 ⟨(some 54),.ar .i64 .add (.tmp 53) (.const (.int .i64 1)),none⟩,
 ⟨(some 12),.mov (.tmp 54),none⟩]))))))
 (.seq (.ops [⟨(some 116),.loadN 3 (.tmp 8),none⟩,
 ⟨none,.store 3 (.tmp 6) (.tmp 116),none⟩])
 .ret))))))
theorem enter37 {xs : List Value} {h : Hp} {Q : Value → Hp → Prop} (hl : xs.length ≤ 117) (w : wq E 117 none c37 (frameOf xs) h [] (leaveQ E [.cell 6 26] Q)) : CallP E 37 xs h Q :=
  CallP.enterQ (fn := Try.f37) (fn_get Try.func37) (code := Try.f37.body.get rfl) rfl rfl rfl (by kernel_rfl) rfl (fun _ => rfl) hl w
theorem can37 : callable E 37 = true := callable_get Try.func37 rfl rfl
def c38 : C := (.seq (.ops [⟨(some 2),.mov (.const (.int .i64 0)),none⟩])
 (.seq (.ops [⟨(some 3),.mov (.tmp 0),none⟩,
 ⟨(some 4),.cint .u64 (.tmp 3),none⟩,
 ⟨(some 5),.ar .u64 .rem (.tmp 4) (.const (.int .u64 4)),none⟩,
 ⟨(some 6),.cint .i64 (.tmp 5),none⟩,
 ⟨(some 7),.ar .i64 .add (.const (.int .i64 2)) (.tmp 6),none⟩,
 ⟨(some 2),.mov (.tmp 7),none⟩])
 .ret))
theorem enter38 {xs : List Value} {h : Hp} {Q : Value → Hp → Prop} (hl : xs.length ≤ 8) (w : wq E 8 none c38 (frameOf xs) h [] (leaveQ E [.tmp 2] Q)) : CallP E 38 xs h Q :=
  CallP.enterQ (fn := Try.f38) (fn_get Try.func38) (code := Try.f38.body.get rfl) rfl rfl rfl (by kernel_rfl) rfl (fun _ => rfl) hl w
theorem can38 : callable E 38 = true := callable_get Try.func38 rfl rfl
def c40 : C := (.seq (.ops [⟨(some 1),.box 26 (.tmp 0),none⟩,
 ⟨(some 2),.alloc 26 [(.int .i64 0),(.slice none 0 0),(.slice none 0 0)],none⟩])
 (.seq (.ops [⟨(some 17),.loadN 3 (.tmp 1),none⟩,
 ⟨(some 18),.fldA 1 (.tmp 1),none⟩,
 ⟨(some 19),.load1 (.tmp 18),none⟩,
 ⟨(some 20),.call 81 [(.tmp 17),(.tmp 19)],none⟩,
 ⟨(some 3),.mov (.tmp 20),none⟩])
 (.seq (.block 0 (.loop (.block 1 (.seq (.ops [⟨(some 21),.loadN 3 (.tmp 1),none⟩,
 ⟨(some 22),.mov (.tmp 3),none⟩,
 ⟨(some 23),.call 81 [(.tmp 21),(.tmp 22)],none⟩,
 ⟨(some 4),.mov (.tmp 23),none⟩])
 (.seq (.seq (.ops [⟨(some 24),.mov (.tmp 4),none⟩,
 ⟨(some 25),.call 82 [(.tmp 24)],none⟩,
 ⟨(some 26),.mov (.tmp 3),none⟩,
 ⟨(some 27),.call 82 [(.tmp 26)],none⟩,
 ⟨(some 28),.ar .i64 .eql (.tmp 25) (.tmp 27),none⟩])
 (.cond (.tmp 28) (.exit 0)
 .skip))
 (.ops [⟨(some 29),.mov (.tmp 4),none⟩,
 ⟨(some 3),.mov (.tmp 29),none⟩]))))))
 (.seq (.ops [⟨(some 30),.newMap,none⟩,
 ⟨(some 31),.mov (.tmp 3),none⟩,
 ⟨(some 32),.idxS 1 (.tmp 31) (.const (.int .i64 0)),none⟩,
 ⟨(some 33),.load1 (.tmp 32),none⟩,
 ⟨none,.raw (.insert 114 (.tmp 30) (.tmp 33) (.const (.int .i64 0))) 0,none⟩,
 ⟨(some 34),.mov (.tmp 30),none⟩,
 ⟨(some 5),.mov (.tmp 34),none⟩])
 (.seq (.ops [⟨(some 35),.slit 3 1 [(.int .i64 0)] [(0,1,(.const (.int .i64 0)))],none⟩,
 ⟨(some 6),.mov (.tmp 35),none⟩])
 (.seq (.ops [⟨(some 36),.fldA 0 (.tmp 1),none⟩,
 ⟨(some 37),.load1 (.tmp 36),none⟩,
 ⟨(some 38),.aggr [(.int .i64 0),(.slice none 0 0),(.slice none 0 0)] [(0,1,(.tmp 37))],none⟩,
 ⟨(some 7),.alloc 26 [(.int .i64 0),(.slice none 0 0),(.slice none 0 0)],none⟩,
 ⟨none,.store 3 (.tmp 7) (.tmp 38),none⟩])
 (.seq (.seq (.ops [⟨(some 8),.mov (.const (.int .i64 0)),none⟩])
 (.block 2 (.loop (.seq (.seq (.ops [⟨(some 39),.mov (.tmp 8),none⟩,
 ⟨(some 40),.mov (.tmp 6),none⟩,
 ⟨(some 41),.lenS (.tmp 40),none⟩,
 ⟨(some 42),.ar .i64 .lss (.tmp 39) (.tmp 41),none⟩])
 (.cond (.tmp 42) .skip
 (.exit 2)))
 (.seq (.block 3 (.seq (.ops [⟨(some 45),.mov (.tmp 6),none⟩,
 ⟨(some 46),.mov (.tmp 8),none⟩,
 ⟨(some 47),.idxS 1 (.tmp 45) (.tmp 46),none⟩,
 ⟨(some 48),.load1 (.tmp 47),none⟩,
 ⟨(some 9),.mov (.tmp 48),none⟩])
 (.seq (.ops [⟨(some 10),.mov (.const (.slice none 0 0)),none⟩])
 (.seq (.seq (.ops [⟨(some 11),.mov (.const (.int .i64 0)),none⟩])
 (.block 4 (.loop (.seq (.seq (.ops [⟨(some 49),.mov (.tmp 11),none⟩,
 ⟨(some 50),.fldA 0 (.tmp 1),none⟩,
 ⟨(some 51),.load1 (.tmp 50),none⟩,
 ⟨(some 52),.ar .i64 .lss (.tmp 49) (.tmp 51),none⟩])
 (.cond (.tmp 52) .skip
 (.exit 4)))
 (.seq (.block 5 (.seq (.ops [⟨(some 55),.fldA 2 (.tmp 1),none⟩,
 ⟨(some 56),.load1 (.tmp 55),none⟩,
 ⟨(some 57),.mov (.tmp 9),none⟩,
 ⟨(some 58),.idxS 1 (.tmp 56) (.tmp 57),none⟩,
 ⟨(some 59),.load1 (.tmp 58),none⟩,
 ⟨(some 60),.mov (.tmp 11),none⟩,
 ⟨(some 61),.idxS 1 (.tmp 59) (.tmp 60),none⟩,
 ⟨(some 62),.load1 (.tmp 61),none⟩,
 ⟨(some 12),.mov (.tmp 62),none⟩])
 (.seq (.seq (.ops [⟨(some 64),.mov (.tmp 5),none⟩,
 ⟨(some 65),.mov (.tmp 3),none⟩,
 ⟨(some 66),.mov (.tmp 12),none⟩,
 ⟨(some 67),.idxS 1 (.tmp 65) (.tmp 66),none⟩,
 ⟨(some 68),.load1 (.tmp 67),none⟩,
 ⟨(some 69),.raw (.lookup 114 (.tmp 64) (.tmp 68) true) 115,none⟩,
 ⟨(some 63),.mov (.tmp 69),none⟩,
 ⟨(some 70),.ext (.tmp 63) 0,none⟩,
 ⟨(some 71),.ext (.tmp 63) 1,none⟩,
 ⟨(some 13),.mov (.tmp 70),none⟩,
 ⟨(some 14),.mov (.tmp 71),none⟩])
 (.seq (.ops [⟨(some 72),.mov (.tmp 14),none⟩,
 ⟨(some 73),.not (.tmp 72),none⟩])
 (.cond (.tmp 73) (.seq (.ops [⟨(some 74),.mov (.tmp 5),none⟩,
 ⟨(some 75),.mov (.tmp 3),none⟩,
 ⟨(some 76),.mov (.tmp 12),none⟩,
 ⟨(some 77),.idxS 1 (.tmp 75) (.tmp 76),none⟩,
 ⟨(some 78),.load1 (.tmp 77),none⟩,
 ⟨(some 79),.mov (.tmp 6),none⟩,
 ⟨(some 80),.lenS (.tmp 79),none⟩,
 ⟨none,.raw (.mapUpdate 114 (.tmp 74) (.tmp 78) (.tmp 80)) 0,none⟩])
 (.ops [⟨(some 81),.mov (.tmp 6),none⟩,
 ⟨(some 82),.mov (.tmp 12),none⟩,
 ⟨(some 83),.slit 3 1 [(.int .i64 0)] [(0,1,(.tmp 82))],none⟩,
 ⟨(some 84),.append 3 1 8 (.tmp 81) (.tmp 83),none⟩,
 ⟨(some 6),.mov (.tmp 84),none⟩]))
 .skip)))
 (.ops [⟨(some 85),.mov (.tmp 10),none⟩,
 ⟨(some 86),.mov (.tmp 5),none⟩,
 ⟨(some 87),.mov (.tmp 3),none⟩,
 ⟨(some 88),.mov (.tmp 12),none⟩,
 ⟨(some 89),.idxS 1 (.tmp 87) (.tmp 88),none⟩,
 ⟨(some 90),.load1 (.tmp 89),none⟩,
 ⟨(some 91),.raw (.lookup 114 (.tmp 86) (.tmp 90) false) 3,none⟩,
 ⟨(some 92),.slit 3 1 [(.int .i64 0)] [(0,1,(.tmp 91))],none⟩,
 ⟨(some 93),.append 3 1 8 (.tmp 85) (.tmp 92),none⟩,
 ⟨(some 10),.mov (.tmp 93),none⟩]))))
 (.ops [⟨(some 53),.mov (.tmp 11),none⟩,
 ⟨(some 54),.ar .i64 .add (.tmp 53) (.const (.int .i64 1)),none⟩,
 ⟨(some 11),.mov (.tmp 54),none⟩]))))))
 (.seq (.ops [⟨(some 94),.fldA 1 (.tmp 7),none⟩,
 ⟨(some 95),.load1 (.tmp 94),none⟩,
 ⟨(some 96),.fldA 2 (.tmp 7),none⟩,
 ⟨(some 97),.load1 (.tmp 96),none⟩,
 ⟨(some 15),.mov (.tmp 95),none⟩,
 ⟨(some 16),.mov (.tmp 97),none⟩])
 (.seq (.ops [⟨(some 98),.mov (.tmp 15),none⟩,
 ⟨(some 99),.fldA 1 (.tmp 1),none⟩,
 ⟨(some 100),.load1 (.tmp 99),none⟩,
 ⟨(some 101),.mov (.tmp 9),none⟩,
 ⟨(some 102),.idxS 1 (.tmp 100) (.tmp 101),none⟩,
 ⟨(some 103),.load1 (.tmp 102),none⟩,
 ⟨(some 104),.slit 3 1 [(.int .i64 0)] [(0,1,(.tmp 103))],none⟩,
 ⟨(some 105),.append 3 1 8 (.tmp 98) (.tmp 104),none⟩,
 ⟨(some 106),.fldA 1 (.tmp 7),none⟩,
 ⟨none,.store 1 (.tmp 106) (.tmp 105),none⟩])
 (.ops [⟨(some 107),.mov (.tmp 16),none⟩,
 ⟨(some 108),.mov (.tmp 10),none⟩,
 ⟨(some 109),.slit 22 1 [(.slice none 0 0)] [(0,1,(.tmp 108))],none⟩,
 ⟨(some 110),.append 22 1 24 (.tmp 107) (.tmp 109),none⟩,
 ⟨(some 111),.fldA 2 (.tmp 7),none⟩,
 ⟨none,.store 1 (.tmp 111) (.tmp 110),none⟩])))))))
 (.ops [⟨(some 43),.mov (.tmp 8),none⟩,
 ⟨(some 44),.ar .i64 .add (.tmp 43) (.const (.int .i64 1)),none⟩,
 ⟨(some 8),.mov (.tmp 44),none⟩]))))))
 (.seq (.ops [⟨(some 112),.loadN 3 (.tmp 7),none⟩,
 ⟨none,.store 3 (.tmp 2) (.tmp 112),none⟩])
 .ret))))))))
theorem enter40 {xs : List Value} {h : Hp} {Q : Value → Hp → Prop} (hl : xs.length ≤ 113) (w : wq E 113 none c40 (frameOf xs) h [] (leaveQ E [.cell 2 26] Q)) : CallP E 40 xs h Q :=
  CallP.enterQ (fn := Try.f40) (fn_get Try.func40) (code := Try.f40.body.get rfl) rfl rfl rfl (by kernel_rfl) rfl (fun _ => rfl) hl w
theorem can40 : callable E 40 = true := callable_get Try.func40 rfl rfl
def c41 : C := (.seq (.ops [⟨(some 2),.box 26 (.tmp 0),none⟩,
 ⟨(some 3),.box 26 (.tmp 1),none⟩,
 ⟨(some 4),.mov (.const (.bool false)),none⟩])
 (.seq (.seq (.ops [⟨(some 7),.fldA 0 (.tmp 2),none⟩,
 ⟨(some 8),.load1 (.tmp 7),none⟩,
 ⟨(some 9),.fldA 0 (.tmp 3),none⟩,
 ⟨(some 10),.load1 (.tmp 9),none⟩,
 ⟨(some 11),.ar .i64 .neq (.tmp 8) (.tmp 10),none⟩,
 ⟨(some 12),.mov (.tmp 11),none⟩,
 ⟨(some 13),.fldA 1 (.tmp 2),(some (12,false))⟩,
 ⟨(some 14),.load1 (.tmp 13),(some (12,false))⟩,
 ⟨(some 15),.lenS (.tmp 14),(some (12,false))⟩,
 ⟨(some 16),.fldA 1 (.tmp 3),(some (12,false))⟩,
 ⟨(some 17),.load1 (.tmp 16),(some (12,false))⟩,
 ⟨(some 18),.lenS (.tmp 17),(some (12,false))⟩,
 ⟨(some 19),.ar .i64 .neq (.tmp 15) (.tmp 18),(some (12,false))⟩,
 ⟨(some 20),.pick (.tmp 12) (.const (.bool true)) (.tmp 19),none⟩,
 ⟨(some 21),.mov (.tmp 20),none⟩,
 ⟨(some 22),.fldA 2 (.tmp 2),(some (21,false))⟩,
 ⟨(some 23),.load1 (.tmp 22),(some (21,false))⟩,
 ⟨(some 24),.lenS (.tmp 23),(some (21,false))⟩,
 ⟨(some 25),.fldA 2 (.tmp 3),(some (21,false))⟩,
 ⟨(some 26),.load1 (.tmp 25),(some (21,false))⟩,
 ⟨(some 27),.lenS (.tmp 26),(some (21,false))⟩,
 ⟨(some 28),.ar .i64 .neq (.tmp 24) (.tmp 27),(some (21,false))⟩,
 ⟨(some 29),.pick (.tmp 21) (.const (.bool true)) (.tmp 28),none⟩])
 (.cond (.tmp 29) (.seq (.ops [⟨(some 4),.mov (.const (.bool false)),none⟩])
 .ret)
 .skip))
 (.seq (.seq (.ops [⟨(some 5),.mov (.const (.int .i64 0)),none⟩])
 (.block 0 (.loop (.seq (.seq (.ops [⟨(some 30),.mov (.tmp 5),none⟩,
 ⟨(some 31),.fldA 1 (.tmp 2),none⟩,
 ⟨(some 32),.load1 (.tmp 31),none⟩,
 ⟨(some 33),.lenS (.tmp 32),none⟩,
 ⟨(some 34),.ar .i64 .lss (.tmp 30) (.tmp 33),none⟩])
 (.cond (.tmp 34) .skip
 (.exit 0)))
 (.seq (.block 1 (.seq (.seq (.ops [⟨(some 37),.fldA 1 (.tmp 2),none⟩,
 ⟨(some 38),.load1 (.tmp 37),none⟩,
 ⟨(some 39),.mov (.tmp 5),none⟩,
 ⟨(some 40),.idxS 1 (.tmp 38) (.tmp 39),none⟩,
 ⟨(some 41),.load1 (.tmp 40),none⟩,
 ⟨(some 42),.fldA 1 (.tmp 3),none⟩,
 ⟨(some 43),.load1 (.tmp 42),none⟩,
 ⟨(some 44),.mov (.tmp 5),none⟩,
 ⟨(some 45),.idxS 1 (.tmp 43) (.tmp 44),none⟩,
 ⟨(some 46),.load1 (.tmp 45),none⟩,
 ⟨(some 47),.ar .i64 .neq (.tmp 41) (.tmp 46),none⟩,
 ⟨(some 48),.mov (.tmp 47),none⟩,
 ⟨(some 49),.fldA 2 (.tmp 2),(some (48,false))⟩,
 ⟨(some 50),.load1 (.tmp 49),(some (48,false))⟩,
 ⟨(some 51),.mov (.tmp 5),(some (48,false))⟩,
 ⟨(some 52),.idxS 1 (.tmp 50) (.tmp 51),(some (48,false))⟩,
 ⟨(some 53),.load1 (.tmp 52),(some (48,false))⟩,
 ⟨(some 54),.lenS (.tmp 53),(some (48,false))⟩,
 ⟨(some 55),.fldA 2 (.tmp 3),(some (48,false))⟩,
 ⟨(some 56),.load1 (.tmp 55),(some (48,false))⟩,
 ⟨(some 57),.mov (.tmp 5),(some (48,false))⟩,
 ⟨(some 58),.idxS 1 (.tmp 56) (.tmp 57),(some (48,false))⟩,
 ⟨(some 59),.load1 (.tmp 58),(some (48,false))⟩,
 ⟨(some 60),.lenS (.tmp 59),(some (48,false))⟩,
 ⟨(some 61),.ar .i64 .neq (.tmp 54) (.tmp 60),(some (48,false))⟩,
 ⟨(some 62),.pick (.tmp 48) (.const (.bool true)) (.tmp 61),none⟩])
 (.cond (.tmp 62) (.seq (.ops [⟨(some 4),.mov (.const (.bool false)),none⟩])
 .ret)
 .skip))
 (.seq (.ops [⟨(some 6),.mov (.const (.int .i64 0)),none⟩])
 (.block 2 (.loop (.seq (.seq (.ops [⟨(some 63),.mov (.tmp 6),none⟩,
 ⟨(some 64),.fldA 2 (.tmp 2),none⟩,
 ⟨(some 65),.load1 (.tmp 64),none⟩,
 ⟨(some 66),.mov (.tmp 5),none⟩,
 ⟨(some 67),.idxS 1 (.tmp 65) (.tmp 66),none⟩,
 ⟨(some 68),.load1 (.tmp 67),none⟩,
 ⟨(some 69),.lenS (.tmp 68),none⟩,
 ⟨(some 70),.ar .i64 .lss (.tmp 63) (.tmp 69),none⟩])
 (.cond (.tmp 70) .skip
 (.exit 2)))
 (.seq (.block 3 (.seq (.ops [⟨(some 73),.fldA 2 (.tmp 2),none⟩,
 ⟨(some 74),.load1 (.tmp 73),none⟩,
 ⟨(some 75),.mov (.tmp 5),none⟩,
 ⟨(some 76),.idxS 1 (.tmp 74) (.tmp 75),none⟩,
 ⟨(some 77),.load1 (.tmp 76),none⟩,
 ⟨(some 78),.mov (.tmp 6),none⟩,
 ⟨(some 79),.idxS 1 (.tmp 77) (.tmp 78),none⟩,
 ⟨(some 80),.load1 (.tmp 79),none⟩,
 ⟨(some 81),.fldA 2 (.tmp 3),none⟩,
 ⟨(some 82),.load1 (.tmp 81),none⟩,
 ⟨(some 83),.mov (.tmp 5),none⟩,
 ⟨(some 84),.idxS 1 (.tmp 82) (.tmp 83),none⟩,
 ⟨(some 85),.load1 (.tmp 84),none⟩,
 ⟨(some 86),.mov (.tmp 6),none⟩,
 ⟨(some 87),.idxS 1 (.tmp 85) (.tmp 86),none⟩,
 ⟨(some 88),.load1 (.tmp 87),none⟩,
 ⟨(some 89),.ar .i64 .neq (.tmp 80) (.tmp 88),none⟩])
 (.cond (.tmp 89) (.seq (.ops [⟨(some 4),.mov (.const (.bool false)),none⟩])
 .ret)
 .skip)))
 (.ops [⟨(some 71),.mov (.tmp 6),none⟩,
 ⟨(some 72),.ar .i64 .add (.tmp 71) (.const (.int .i64 1)),none⟩,
 ⟨(some 6),.mov (.tmp 72),none⟩]))))))))
 (.ops [⟨(some 35),.mov (.tmp 5),none⟩,
 ⟨(some 36),.ar .i64 .add (.tmp 35) (.const (.int .i64 1)),none⟩,
 ⟨(some 5),.mov (.tmp 36),none⟩]))))))
 (.seq (.ops [⟨(some 4),.mov (.const (.bool true)),none⟩])
 .ret))))
theorem enter41 {xs : List Value} {h : Hp} {Q : Value → Hp → Prop} (hl : xs.length ≤ 90) (w : wq E 90 none c41 (frameOf xs) h [] (leaveQ E [.tmp 4] Q)) : CallP E 41 xs h Q :=
  CallP.enterQ (fn := Try.f41) (fn_get Try.func41) (code := Try.f41.body.get rfl) rfl rfl rfl (by kernel_rfl) rfl (fun _ => rfl) hl w
theorem can41 : callable E 41 = true := callable_get Try.func41 rfl rfl
def c49 : C := (.seq (.ops [⟨(some 4),.mov (.const (.slice none 0 0)),none⟩])
 (.seq (.ops [⟨(some 5),.mov (.const (.slice none 0 0)),none⟩])
 (.seq (.ops [⟨(some 6),.mov (.tmp 5),none⟩,
 ⟨(some 7),.mov (.tmp 0),none⟩,
 ⟨(some 8),.mov (.tmp 0),none⟩,
 ⟨(some 9),.lenS (.tmp 8),none⟩,
 ⟨(some 10),.mov (.tmp 1),none⟩,
 ⟨(some 11),.raw (.call ⟨.builtin .min,⟨[(.tmp 9),(.tmp 10)]⟩,⟨[3,3]⟩⟩) 3,none⟩,
 ⟨(some 12),.cutS 1 (.tmp 7) none (some (.tmp 11)) none,none⟩,
 ⟨(some 13),.append 3 1 8 (.tmp 6) (.tmp 12),none⟩,
 ⟨(some 4),.mov (.tmp 13),none⟩])
 .ret)))
theorem enter49 {xs : List Value} {h : Hp} {Q : Value → Hp → Prop} (hl : xs.length ≤ 14) (w : wq E 14 none c49 (frameOf xs) h [] (leaveQ E [.tmp 4] Q)) : CallP E 49 xs h Q :=
  CallP.enterQ (fn := Try.f49) (fn_get Try.func49) (code := Try.f49.body.get rfl) rfl rfl rfl (by kernel_rfl) rfl (fun _ => rfl) hl w
theorem can49 : callable E 49 = true := callable_get Try.func49 rfl rfl
def c50 : C := (.seq (.ops [⟨(some 6),.alloc 25 [(.int .i64 0),(.slice none 0 0),(.slice none 0 0)],none⟩,
 ⟨(some 7),.mov (.const (.int .i64 0)),none⟩])
 (.seq (.seq (.ops [⟨(some 9),.mov (.tmp 0),none⟩,
 ⟨(some 10),.ar .i64 .lss (.tmp 9) (.const (.int .i64 2)),none⟩,
 ⟨(some 11),.mov (.tmp 10),none⟩,
 ⟨(some 12),.mov (.tmp 0),(some (11,false))⟩,
 ⟨(some 13),.ar .i64 .gtr (.tmp 12) (.const (.int .i64 5)),(some (11,false))⟩,
 ⟨(some 14),.pick (.tmp 11) (.const (.bool true)) (.tmp 13),none⟩,
 ⟨(some 15),.mov (.tmp 14),none⟩,
 ⟨(some 16),.mov (.tmp 1),(some (15,false))⟩,
 ⟨(some 17),.lenS (.tmp 16),(some (15,false))⟩,
 ⟨(some 18),.ar .i64 .gtr (.tmp 17) (.const (.int .i64 20)),(some (15,false))⟩,
 ⟨(some 19),.pick (.tmp 15) (.const (.bool true)) (.tmp 18),none⟩,
 ⟨(some 20),.mov (.tmp 19),none⟩,
 ⟨(some 21),.mov (.tmp 2),(some (20,false))⟩,
 ⟨(some 22),.lenS (.tmp 21),(some (20,false))⟩,
 ⟨(some 23),.ar .i64 .lss (.tmp 22) (.const (.int .i64 1)),(some (20,false))⟩,
 ⟨(some 24),.pick (.tmp 20) (.const (.bool true)) (.tmp 23),none⟩,
 ⟨(some 25),.mov (.tmp 24),none⟩,
 ⟨(some 26),.mov (.tmp 2),(some (25,false))⟩,
 ⟨(some 27),.lenS (.tmp 26),(some (25,false))⟩,
 ⟨(some 28),.ar .i64 .gtr (.tmp 27) (.const (.int .i64 20)),(some (25,false))⟩,
 ⟨(some 29),.pick (.tmp 25) (.const (.bool true)) (.tmp 28),none⟩])
 (.cond (.tmp 29) (.seq (.ops [⟨(some 30),.aggr [(.int .i64 0),(.slice none 0 0),(.slice none 0 0)] [],none⟩,
 ⟨none,.store 3 (.tmp 6) (.tmp 30),none⟩,
 ⟨(some 7),.mov (.const (.int .i64 1)),none⟩])
 .ret)
 .skip))
 (.seq (.seq (.ops [⟨(some 31),.mov (.tmp 1),none⟩,
 ⟨(some 32),.call 57 [(.tmp 31)],none⟩,
 ⟨(some 33),.not (.tmp 32),none⟩,
 ⟨(some 34),.mov (.tmp 33),none⟩,
 ⟨(some 35),.mov (.tmp 2),(some (34,false))⟩,
 ⟨(some 36),.call 57 [(.tmp 35)],(some (34,false))⟩,
 ⟨(some 37),.not (.tmp 36),(some (34,false))⟩,
 ⟨(some 38),.pick (.tmp 34) (.const (.bool true)) (.tmp 37),none⟩])
 (.cond (.tmp 38) (.seq (.ops [⟨(some 39),.aggr [(.int .i64 0),(.slice none 0 0),(.slice none 0 0)] [],none⟩,
 ⟨none,.store 3 (.tmp 6) (.tmp 39),none⟩,
 ⟨(some 7),.mov (.const (.int .i64 1)),none⟩])
 .ret)
 .skip))
 (.seq (.ops [⟨(some 40),.mov (.tmp 1),none⟩,
 ⟨(some 41),.mov (.tmp 2),none⟩,
 ⟨(some 42),.slit 22 2 [(.slice none 0 0),(.slice none 0 0)] [(0,1,(.tmp 40)),(1,1,(.tmp 41))],none⟩,
 ⟨(some 43),.call 84 [(.tmp 42)],none⟩,
 ⟨(some 44),.mov (.tmp 1),none⟩,
 ⟨(some 45),.lenS (.tmp 44),none⟩,
 ⟨(some 46),.aggr [(.slice none 0 0),(.int .i64 0)] [(0,1,(.tmp 43)),(1,1,(.tmp 45))],none⟩,
 ⟨(some 8),.alloc 121 [(.slice none 0 0),(.int .i64 0)],none⟩,
 ⟨none,.store 2 (.tmp 8) (.tmp 46),none⟩])
 (.seq (.ops [⟨(some 47),.loadN 2 (.tmp 8),none⟩,
 ⟨(some 48),.mov (.tmp 0),none⟩,
 ⟨(some 49),.call 85 [(.tmp 47),(.tmp 48)],none⟩,
 ⟨(some 50),.call 66 [(.tmp 49)],none⟩,
 ⟨(some 51),.ext (.tmp 50) 0,none⟩,
 ⟨(some 52),.ext (.tmp 50) 1,none⟩,
 ⟨none,.store 3 (.tmp 6) (.tmp 51),none⟩,
 ⟨(some 7),.mov (.tmp 52),none⟩])
 .ret)))))
theorem enter50 {xs : List Value} {h : Hp} {Q : Value → Hp → Prop} (hl : xs.length ≤ 53) (w : wq E 53 none c50 (frameOf xs) h [] (leaveQ E [.cell 6 25,.tmp 7] Q)) : CallP E 50 xs h Q :=
  CallP.enterQ (fn := Try.f50) (fn_get Try.func50) (code := Try.f50.body.get rfl) rfl rfl rfl (by kernel_rfl) rfl (fun _ => rfl) hl w
theorem can50 : callable E 50 = true := callable_get Try.func50 rfl rfl
def c57 : C := (.seq (.ops [⟨(some 2),.mov (.const (.bool false)),none⟩])
 (.seq (.ops [⟨(some 3),.mov (.tmp 0),none⟩,
 ⟨(some 4),.call 59 [(.tmp 3),(.func 89)],none⟩,
 ⟨(some 5),.not (.tmp 4),none⟩,
 ⟨(some 2),.mov (.tmp 5),none⟩])
 .ret))
theorem enter57 {xs : List Value} {h : Hp} {Q : Value → Hp → Prop} (hl : xs.length ≤ 6) (w : wq E 6 none c57 (frameOf xs) h [] (leaveQ E [.tmp 2] Q)) : CallP E 57 xs h Q :=
  CallP.enterQ (fn := Try.f57) (fn_get Try.func57) (code := Try.f57.body.get rfl) rfl rfl rfl (by kernel_rfl) rfl (fun _ => rfl) hl w
theorem can57 : callable E 57 = true := callable_get Try.func57 rfl rfl
def c58 : C := (.seq (.ops [⟨(some 3),.mov (.const (.bool false)),none⟩])
 (.seq (.ops [⟨(some 4),.mov (.tmp 0),none⟩,
 ⟨(some 5),.ar .i64 .lss (.tmp 4) (.const (.int .i64 0)),none⟩,
 ⟨(some 6),.mov (.tmp 5),none⟩,
 ⟨(some 7),.mov (.tmp 0),(some (6,false))⟩,
 ⟨(some 8),.load1 (.tmp 1),(some (6,false))⟩,
 ⟨(some 9),.ar .i64 .geq (.tmp 7) (.tmp 8),(some (6,false))⟩,
 ⟨(some 10),.pick (.tmp 6) (.const (.bool true)) (.tmp 9),none⟩,
 ⟨(some 3),.mov (.tmp 10),none⟩])
 .ret))
theorem enter58 {xs : List Value} {h : Hp} {Q : Value → Hp → Prop} (hl : xs.length ≤ 11) (w : wq E 11 none c58 (frameOf xs) h [] (leaveQ E [.tmp 3] Q)) : CallP E 58 xs h Q :=
  CallP.enterQ (fn := Try.f58) (fn_get Try.func58) (code := Try.f58.body.get rfl) rfl rfl rfl (by kernel_rfl) rfl (fun _ => rfl) hl w
theorem can58 : callable E 58 = true := callable_get Try.func58 rfl rfl
def c59 : C := (.seq (.ops [⟨(some 4),.mov (.const (.bool false)),none⟩])
 (.seq (.ops [⟨(some 5),.mov (.tmp 0),none⟩,
 ⟨(some 6),.mov (.tmp 1),none⟩,
 ⟨(some 7),.call 90 [(.tmp 5),(.tmp 6)],none⟩,
 ⟨(some 8),.ar .i64 .geq (.tmp 7) (.const (.int .i64 0)),none⟩,
 ⟨(some 4),.mov (.tmp 8),none⟩])
 .ret))
theorem enter59 {xs : List Value} {h : Hp} {Q : Value → Hp → Prop} (hl : xs.length ≤ 9) (w : wq E 9 none c59 (frameOf xs) h [] (leaveQ E [.tmp 4] Q)) : CallP E 59 xs h Q :=
  CallP.enterQ (fn := Try.f59) (fn_get Try.func59) (code := Try.f59.body.get rfl) rfl rfl rfl (by kernel_rfl) rfl (fun _ => rfl) hl w
theorem can59 : callable E 59 = true := callable_get Try.func59 rfl rfl
def c60 : C := (.seq (.ops [⟨(some 0),.alloc 26 [(.int .i64 0),(.slice none 0 0),(.slice none 0 0)],none⟩])
 (.seq (.ops [⟨(some 1),.slit 3 2 [(.int .i64 0),(.int .i64 0)] [(0,1,(.const (.int .i64 0))),(1,1,(.const (.int .i64 1)))],none⟩,
 ⟨(some 2),.slit 3 2 [(.int .i64 0),(.int .i64 0)] [(0,1,(.const (.int .i64 0))),(1,1,(.const (.int .i64 1)))],none⟩,
 ⟨(some 3),.slit 3 2 [(.int .i64 0),(.int .i64 0)] [(0,1,(.const (.int .i64 1))),(1,1,(.const (.int .i64 0)))],none⟩,
 ⟨(some 4),.slit 22 2 [(.slice none 0 0),(.slice none 0 0)] [(0,1,(.tmp 2)),(1,1,(.tmp 3))],none⟩,
 ⟨(some 5),.aggr [(.int .i64 0),(.slice none 0 0),(.slice none 0 0)] [(0,1,(.const (.int .i64 2))),(1,1,(.tmp 1)),(2,1,(.tmp 4))],none⟩,
 ⟨none,.store 3 (.tmp 0) (.tmp 5),none⟩])
 .ret))
theorem enter60 {xs : List Value} {h : Hp} {Q : Value → Hp → Prop} (hl : xs.length ≤ 6) (w : wq E 6 none c60 (frameOf xs) h [] (leaveQ E [.cell 0 26] Q)) : CallP E 60 xs h Q :=
  CallP.enterQ (fn := Try.f60) (fn_get Try.func60) (code := Try.f60.body.get rfl) rfl rfl rfl (by kernel_rfl) rfl (fun _ => rfl) hl w
theorem can60 : callable E 60 = true := callable_get Try.func60 rfl rfl
def c61 : C := (.seq (.ops [⟨(some 4),.mov (.const (.bool false)),none⟩])
 (.seq (.seq (.ops [⟨(some 6),.mov (.tmp 0),none⟩,
 ⟨(some 7),.lenS (.tmp 6),none⟩,
 ⟨(some 8),.mov (.tmp 1),none⟩,
 ⟨(some 9),.lenS (.tmp 8),none⟩,
 ⟨(some 10),.ar .i64 .neq (.tmp 7) (.tmp 9),none⟩])
 (.cond (.tmp 10) (.seq (.ops [⟨(some 4),.mov (.const (.bool false)),none⟩])
 .ret)
 .skip))
 (.seq (.seq (.ops [⟨(some 5),.mov (.const (.int .i64 0)),none⟩])
 (.block 0 (.loop (.seq (.seq (.ops [⟨(some 11),.mov (.tmp 5),none⟩,
 ⟨(some 12),.mov (.tmp 0),none⟩,
 ⟨(some 13),.lenS (.tmp 12),none⟩,
 ⟨(some 14),.ar .i64 .lss (.tmp 11) (.tmp 13),none⟩])
 (.cond (.tmp 14) .skip
 (.exit 0)))
 (.seq (.block 1 (.seq (.ops [⟨(some 17),.mov (.tmp 0),none⟩,
 ⟨(some 18),.mov (.tmp 5),none⟩,
 ⟨(some 19),.idxS 1 (.tmp 17) (.tmp 18),none⟩,
 ⟨(some 20),.load1 (.tmp 19),none⟩,
 ⟨(some 21),.mov (.tmp 1),none⟩,
 ⟨(some 22),.mov (.tmp 5),none⟩,
 ⟨(some 23),.idxS 1 (.tmp 21) (.tmp 22),none⟩,
 ⟨(some 24),.load1 (.tmp 23),none⟩,
 ⟨(some 25),.ar .i64 .neq (.tmp 20) (.tmp 24),none⟩])
 (.cond (.tmp 25) (.seq (.ops [⟨(some 4),.mov (.const (.bool false)),none⟩])
 .ret)
 .skip)))
 (.ops [⟨(some 15),.mov (.tmp 5),none⟩,
 ⟨(some 16),.ar .i64 .add (.tmp 15) (.const (.int .i64 1)),none⟩,
 ⟨(some 5),.mov (.tmp 16),none⟩]))))))
 (.seq (.ops [⟨(some 4),.mov (.const (.bool true)),none⟩])
 .ret))))
theorem enter61 {xs : List Value} {h : Hp} {Q : Value → Hp → Prop} (hl : xs.length ≤ 26) (w : wq E 26 none c61 (frameOf xs) h [] (leaveQ E [.tmp 4] Q)) : CallP E 61 xs h Q :=
  CallP.enterQ (fn := Try.f61) (fn_get Try.func61) (code := Try.f61.body.get rfl) rfl rfl rfl (by kernel_rfl) rfl (fun _ => rfl) hl w
theorem can61 : callable E 61 = true := callable_get Try.func61 rfl rfl
def c62 : C := (.seq (.ops [⟨(some 3),.box 25 (.tmp 0),none⟩,
 ⟨(some 4),.box 3 (.tmp 1),none⟩,
 ⟨(some 6),.mov (.const (.int .i64 0)),none⟩])
 (.seq (.seq (.ops [⟨(some 8),.mov (.tmp 2),none⟩,
 ⟨(some 9),.fldA 0 (.tmp 3),none⟩,
 ⟨(some 10),.load1 (.tmp 9),none⟩,
 ⟨(some 11),.call 91 [(.tmp 8),(.tmp 10)],none⟩])
 (.block 0 (.range (.tmp 11) ⟨[12]⟩ (.ops [⟨(some 7),.mov (.tmp 12),none⟩])
 (.block 1 (.ops [⟨(some 13),.fldA 2 (.tmp 3),none⟩,
 ⟨(some 14),.load1 (.tmp 13),none⟩,
 ⟨(some 15),.load1 (.tmp 4),none⟩,
 ⟨(some 16),.idxS 1 (.tmp 14) (.tmp 15),none⟩,
 ⟨(some 17),.load1 (.tmp 16),none⟩,
 ⟨(some 18),.mov (.tmp 7),none⟩,
 ⟨(some 19),.idxS 1 (.tmp 17) (.tmp 18),none⟩,
 ⟨(some 20),.load1 (.tmp 19),none⟩,
 ⟨none,.store 1 (.tmp 4) (.tmp 20),none⟩])))))
 (.seq (.ops [⟨(some 21),.fldA 1 (.tmp 3),none⟩,
 ⟨(some 22),.load1 (.tmp 21),none⟩,
 ⟨(some 23),.load1 (.tmp 4),none⟩,
 ⟨(some 24),.idxS 1 (.tmp 22) (.tmp 23),none⟩,
 ⟨(some 25),.load1 (.tmp 24),none⟩,
 ⟨(some 6),.mov (.tmp 25),none⟩])
 .ret)))
theorem enter62 {xs : List Value} {h : Hp} {Q : Value → Hp → Prop} (hl : xs.length ≤ 26) (w : wq E 26 none c62 (frameOf xs) h [] (leaveQ E [.tmp 6] Q)) : CallP E 62 xs h Q :=
  CallP.enterQ (fn := Try.f62) (fn_get Try.func62) (code := Try.f62.body.get rfl) rfl rfl rfl (by kernel_rfl) rfl (fun _ => rfl) hl w
theorem can62 : callable E 62 = true := callable_get Try.func62 rfl rfl
def c63 : C := (.seq (.ops [⟨(some 1),.box 25 (.tmp 0),none⟩,
 ⟨(some 2),.alloc 25 [(.int .i64 0),(.slice none 0 0),(.slice none 0 0)],none⟩])
 (.seq (.ops [⟨(some 11),.loadN 3 (.tmp 1),none⟩,
 ⟨(some 12),.call 92 [(.tmp 11)],none⟩,
 ⟨(some 3),.alloc 22 [(.slice none 0 0)],none⟩,
 ⟨none,.store 1 (.tmp 3) (.tmp 12),none⟩])
 (.seq (.ops [⟨(some 13),.newMap,none⟩,
 ⟨(some 4),.alloc 114 [(.map none)],none⟩,
 ⟨none,.store 1 (.tmp 4) (.tmp 13),none⟩])
 (.seq (.seq (.ops [⟨(some 14),.load1 (.tmp 3),none⟩,
 ⟨(some 15),.lenS (.tmp 14),none⟩,
 ⟨(some 16),.mov (.const (.int .i64 0)),none⟩])
 (.block 0 (.loop (.seq (.ops [⟨(some 17),.ar .i64 .lss (.tmp 16) (.tmp 15),none⟩])
 (.seq (.cond (.tmp 17) .skip
 (.exit 0))
 (.seq (.block 1 (.seq (.ops [⟨(some 18),.mov (.tmp 16),none⟩,
 ⟨(some 19),.idxS 1 (.tmp 14) (.tmp 16),none⟩,
 ⟨(some 20),.load1 (.tmp 19),none⟩,
 ⟨(some 5),.mov (.tmp 18),none⟩,
 ⟨(some 6),.mov (.tmp 20),none⟩])
 (.seq (.ops [⟨(some 22),.load1 (.tmp 4),none⟩,
 ⟨(some 23),.mov (.tmp 6),none⟩,
 ⟨(some 24),.raw (.lookup 114 (.tmp 22) (.tmp 23) true) 115,none⟩,
 ⟨(some 21),.mov (.tmp 24),none⟩,
 ⟨(some 25),.ext (.tmp 21) 0,none⟩,
 ⟨(some 26),.ext (.tmp 21) 1,none⟩,
 ⟨(some 7),.mov (.tmp 25),none⟩,
 ⟨(some 8),.mov (.tmp 26),none⟩])
 (.seq (.ops [⟨(some 27),.mov (.tmp 8),none⟩,
 ⟨(some 28),.not (.tmp 27),none⟩])
 (.cond (.tmp 28) (.ops [⟨(some 29),.load1 (.tmp 4),none⟩,
 ⟨(some 30),.mov (.tmp 6),none⟩,
 ⟨(some 31),.mov (.tmp 5),none⟩,
 ⟨none,.raw (.mapUpdate 114 (.tmp 29) (.tmp 30) (.tmp 31)) 0,none⟩])
 .skip)))))
 (.ops [⟨(some 32),.ar .i64 .add (.tmp 16) (.const (.int .i64 1)),none⟩,
 ⟨(some 16),.mov (.tmp 32),none⟩])))))))
 (.seq (.ops [⟨(some 33),.func (.func 93) [] [(.tmp 1),(.tmp 4)],none⟩,
 ⟨(some 9),.mov (.tmp 33),none⟩])
 (.seq (.ops [⟨(some 34),.func (.func 94) [] [(.tmp 3),(.tmp 1),(.tmp 4)],none⟩,
 ⟨(some 10),.mov (.tmp 34),none⟩])
 (.seq (.ops [⟨(some 35),.fldA 0 (.tmp 1),none⟩,
 ⟨(some 36),.load1 (.tmp 35),none⟩,
 ⟨(some 37),.load1 (.tmp 3),none⟩,
 ⟨(some 38),.idxS 1 (.tmp 37) (.const (.int .i64 0)),none⟩,
 ⟨(some 39),.load1 (.tmp 38),none⟩,
 ⟨(some 40),.mov (.tmp 9),none⟩,
 ⟨(some 41),.mov (.tmp 10),none⟩,
 ⟨(some 42),.call 70 [(.tmp 36),(.tmp 39),(.tmp 40),(.tmp 41)],none⟩,
 ⟨none,.store 3 (.tmp 2) (.tmp 42),none⟩])
 .ret)))))))
theorem enter63 {xs : List Value} {h : Hp} {Q : Value → Hp → Prop} (hl : xs.length ≤ 43) (w : wq E 43 none c63 (frameOf xs) h [] (leaveQ E [.cell 2 25] Q)) : CallP E 63 xs h Q :=
  CallP.enterQ (fn := Try.f63) (fn_get Try.func63) (code := Try.f63.body.get rfl) rfl rfl rfl (by kernel_rfl) rfl (fun _ => rfl) hl w
theorem can63 : callable E 63 = true := callable_get Try.func63 rfl rfl
def c65 : C := (.seq (.ops [⟨(some 2),.box 25 (.tmp 0),none⟩,
 ⟨(some 3),.box 25 (.tmp 1),none⟩,
 ⟨(some 4),.mov (.const (.int .i64 0)),none⟩,
 ⟨(some 5),.mov (.const (.bool false)),none⟩])
 (.scope (.seq (.ops [⟨(some 16),.aggr [(.int .i64 0),(.int .i64 0)] [(0,1,(.const (.int .i64 0))),(1,1,(.const (.int .i64 0)))],none⟩,
 ⟨(some 6),.alloc 106 [(.int .i64 0),(.int .i64 0)],none⟩,
 ⟨none,.store 2 (.tmp 6) (.tmp 16),none⟩])
 (.seq (.ops [⟨(some 17),.newMap,none⟩,
 ⟨(some 18),.loadN 2 (.tmp 6),none⟩,
 ⟨none,.raw (.insert 131 (.tmp 17) (.tmp 18) (.const (.bool true))) 0,none⟩,
 ⟨(some 19),.mov (.tmp 17),none⟩,
 ⟨(some 7),.mov (.tmp 19),none⟩])
 (.seq (.ops [⟨(some 20),.loadN 2 (.tmp 6),none⟩,
 ⟨(some 21),.aggr [(.int .i64 0),(.int .i64 0),(.int .i64 0),(.int .i64 0)] [(0,2,(.tmp 20)),(2,1,(.const (.int .i64 (-1))))],none⟩,
 ⟨(some 22),.slit 133 1 [(.int .i64 0),(.int .i64 0),(.int .i64 0),(.int .i64 0)] [(0,4,(.tmp 21))],none⟩,
 ⟨(some 8),.mov (.tmp 22),none⟩])
 (.seq (.ops [⟨(some 9),.mov (.const (.int .i64 (-1))),none⟩])
 (.seq .skip
 (.seq (.seq (.ops [⟨(some 10),.mov (.const (.int .i64 0)),none⟩])
 (.block 0 (.loop (.seq (.seq (.ops [⟨(some 23),.mov (.tmp 10),none⟩,
 ⟨(some 24),.mov (.tmp 8),none⟩,
 ⟨(some 25),.lenS (.tmp 24),none⟩,
 ⟨(some 26),.ar .i64 .lss (.tmp 23) (.tmp 25),none⟩])
 (.cond (.tmp 26) .skip
 (.exit 0)))
 (.seq (.block 1 (.seq (.ops [⟨(some 29),.mov (.tmp 8),none⟩,
 ⟨(some 30),.mov (.tmp 10),none⟩,
 ⟨(some 31),.idxS 4 (.tmp 29) (.tmp 30),none⟩,
 ⟨(some 32),.fldA 0 (.tmp 31),none⟩,
 ⟨(some 33),.loadN 2 (.tmp 32),none⟩,
 ⟨(some 11),.alloc 106 [(.int .i64 0),(.int .i64 0)],none⟩,
 ⟨none,.store 2 (.tmp 11) (.tmp 33),none⟩])
 (.seq (.seq (.ops [⟨(some 34),.fldA 1 (.tmp 2),none⟩,
 ⟨(some 35),.load1 (.tmp 34),none⟩,
 ⟨(some 36),.fldA 0 (.tmp 11),none⟩,
 ⟨(some 37),.load1 (.tmp 36),none⟩,
 ⟨(some 38),.idxS 1 (.tmp 35) (.tmp 37),none⟩,
 ⟨(some 39),.load1 (.tmp 38),none⟩,
 ⟨(some 40),.fldA 1 (.tmp 3),none⟩,
 ⟨(some 41),.load1 (.tmp 40),none⟩,
 ⟨(some 42),.fldA 1 (.tmp 11),none⟩,
 ⟨(some 43),.load1 (.tmp 42),none⟩,
 ⟨(some 44),.idxS 1 (.tmp 41) (.tmp 43),none⟩,
 ⟨(some 45),.load1 (.tmp 44),none⟩,
 ⟨(some 46),.ar .i64 .neq (.tmp 39) (.tmp 45),none⟩])
 (.cond (.tmp 46) (.seq (.ops [⟨(some 47),.mov (.tmp 10),none⟩,
 ⟨(some 9),.mov (.tmp 47),none⟩])
 (.exit 0))
 .skip))
 (.seq (.ops [⟨(some 48),.fldA 0 (.tmp 2),none⟩,
 ⟨(some 49),.load1 (.tmp 48),none⟩,
 ⟨(some 50),.mov (.const (.int .i64 0)),none⟩])
 (.block 2 (.loop (.seq (.ops [⟨(some 51),.ar .i64 .lss (.tmp 50) (.tmp 49),none⟩])
 (.seq (.cond (.tmp 51) .skip
 (.exit 2))
 (.seq (.block 3 (.seq (.ops [⟨(some 52),.mov (.tmp 50),none⟩,
 ⟨(some 12),.mov (.tmp 52),none⟩])
 (.seq (.draw [⟨(some 53),.fldA 2 (.tmp 2),none⟩,
 ⟨(some 54),.load1 (.tmp 53),none⟩,
 ⟨(some 55),.fldA 0 (.tmp 11),none⟩,
 ⟨(some 56),.load1 (.tmp 55),none⟩,
 ⟨(some 57),.idxS 1 (.tmp 54) (.tmp 56),none⟩,
 ⟨(some 58),.load1 (.tmp 57),none⟩,
 ⟨(some 59),.mov (.tmp 12),none⟩,
 ⟨(some 60),.idxS 1 (.tmp 58) (.tmp 59),none⟩,
 ⟨(some 61),.load1 (.tmp 60),none⟩,
 ⟨(some 62),.fldA 2 (.tmp 3),none⟩,
 ⟨(some 63),.load1 (.tmp 62),none⟩,
 ⟨(some 64),.fldA 1 (.tmp 11),none⟩,
 ⟨(some 65),.load1 (.tmp 64),none⟩,
 ⟨(some 66),.idxS 1 (.tmp 63) (.tmp 65),none⟩,
 ⟨(some 67),.load1 (.tmp 66),none⟩,
 ⟨(some 68),.mov (.tmp 12),none⟩,
 ⟨(some 69),.idxS 1 (.tmp 67) (.tmp 68),none⟩,
 ⟨(some 70),.load1 (.tmp 69),none⟩,
 ⟨(some 71),.aggr [(.int .i64 0),(.int .i64 0)] [(0,1,(.tmp 61)),(1,1,(.tmp 70))],none⟩,
 ⟨(some 13),.alloc 106 [(.int .i64 0),(.int .i64 0)],none⟩,
 ⟨none,.store 2 (.tmp 13) (.tmp 71),none⟩]
 [⟨false,true,[false,false,false,false,false,false,false,false,false,false,false,false,false,false,false,false,false,false,false,false,false],[false,false,false,false,false,false,false,false,false,false,false,false,false,false,false,false,false,false,false,true,false]⟩,
 ⟨false,true,[false,false,false,false,false,false,false,false,false,false,false,false,false,false,false,false,false,false,false,false,false],[false,false,false,false,false,false,false,false,false,false,false,false,false,false,false,false,false,false,false,true,false]⟩,
 ⟨false,true,[false,false,false,false,false,false,false,false,false,false,false,false,false,false,false,false,false,false,false,false,false],[false,false,false,false,false,false,false,false,false,false,false,false,false,false,false,false,false,false,false,true,false]⟩,
 ⟨false,true,[false,false,false,false,false,false,false,false,false,false,false,false,false,false,false,false,false,false,false,false,false],[false,false,false,false,false,false,false,false,false,false,false,false,false,false,false,false,false,false,false,true,false]⟩,
 ⟨false,true,[false,false,false,false,false,false,false,false,false,false,false,false,false,false,false,false,false,false,false,false,false],[false,false,false,false,false,false,false,false,false,false,false,false,false,false,false,false,false,false,false,true,false]⟩,
 ⟨false,true,[false,false,false,false,false,false,false,false,false,false,false,false,false,false,false,false,false,false,false,false,false],[false,false,false,false,false,false,false,false,false,false,false,false,false,false,false,false,false,false,false,true,false]⟩,
 ⟨false,true,[false,false,false,false,false,false,false,false,false,false,false,false,false,false,false,false,false,false,false,false,false],[false,false,false,false,false,false,false,false,false,false,false,false,false,false,false,false,false,false,false,true,false]⟩,
 ⟨false,true,[false,false,false,false,false,false,false,false,false,false,false,false,false,false,false,false,false,false,false,false,false],[false,false,false,false,false,false,false,false,false,false,false,false,false,false,false,false,false,false,false,true,false]⟩,
 ⟨false,true,[false,false,false,false,false,false,false,false,false,false,false,false,false,false,false,false,false,false,false,false,false],[false,false,false,false,false,false,false,false,false,false,false,false,false,false,false,false,false,false,false,true,false]⟩,
 ⟨false,true,[false,false,false,false,false,false,false,false,false,false,false,false,false,false,false,false,false,false,false,false,false],[false,false,false,false,false,false,false,false,false,false,false,false,false,false,false,false,false,false,false,true,false]⟩,
 ⟨false,true,[false,false,false,false,false,false,false,false,false,false,false,false,false,false,false,false,false,false,false,false,false],[false,false,false,false,false,false,false,false,false,false,false,false,false,false,false,false,false,false,false,true,false]⟩,
 ⟨false,true,[false,false,false,false,false,false,false,false,false,false,false,false,false,false,false,false,false,false,false,false,false],[false,false,false,false,false,false,false,false,false,false,false,false,false,false,false,false,false,false,false,true,false]⟩,
 ⟨false,true,[false,false,false,false,false,false,false,false,false,false,false,false,false,false,false,false,false,false,false,false,false],[false,false,false,false,false,false,false,false,false,false,false,false,false,false,false,false,false,false,false,true,false]⟩,
 ⟨false,true,[false,false,false,false,false,false,false,false,false,false,false,false,false,false,false,false,false,false,false,false,false],[false,false,false,false,false,false,false,false,false,false,false,false,false,false,false,false,false,false,false,true,false]⟩,
 ⟨false,true,[false,false,false,false,false,false,false,false,false,false,false,false,false,false,false,false,false,false,false,false,false],[false,false,false,false,false,false,false,false,false,false,false,false,false,false,false,false,false,false,false,true,false]⟩,
 ⟨false,true,[false,false,false,false,false,false,false,false,false,false,false,false,false,false,false,false,false,false,false,false,false],[false,false,false,false,false,false,false,false,false,false,false,false,false,false,false,false,false,false,false,true,false]⟩,
 ⟨false,true,[false,false,false,false,false,false,false,false,false,false,false,false,false,false,false,false,false,false,false,false,false],[false,false,false,false,false,false,false,false,false,false,false,false,false,false,false,false,false,false,false,true,false]⟩,
 ⟨false,true,[false,false,false,false,false,false,false,false,false,false,false,false,false,false,false,false,false,false,false,false,false],[false,false,false,false,false,false,false,false,false,false,false,false,false,false,false,false,false,false,false,true,false]⟩,
 ⟨false,true,[false,false,false,false,false,false,false,false,false,false,false,false,false,false,false,false,false,false,false,false,false],[false,false,false,false,false,false,false,false,false,false,false,false,false,false,false,false,false,false,false,true,false]⟩,
 ⟨true,false,[false,false,false,false,false,false,false,false,false,false,false,false,false,false,false,false,false,false,false,false,false],[false,false,false,false,false,false,false,false,false,false,false,false,false,false,false,false,false,false,false,true,false]⟩,
 ⟨true,false,[false,false,false,false,false,false,false,false,false,false,false,false,false,false,false,false,false,false,false,true,false],[false,false,false,false,false,false,false,false,false,false,false,false,false,false,false,false,false,false,false,true,true]⟩])
 (.seq (.ops [⟨(some 72),.mov (.tmp 7),none⟩,
 ⟨(some 73),.loadN 2 (.tmp 13),none⟩,
 ⟨(some 74),.raw (.lookup 131 (.tmp 72) (.tmp 73) false) 4,none⟩,
 ⟨(some 75),.not (.tmp 74),none⟩])
 (.cond (.tmp 75) (.seq (.ops [⟨(some 76),.mov (.tmp 7),none⟩,
 ⟨(some 77),.loadN 2 (.tmp 13),none⟩,
 ⟨none,.raw (.mapUpdate 131 (.tmp 76) (.tmp 77) (.const (.bool true))) 0,none⟩])
 (.ops [⟨(some 78),.mov (.tmp 8),none⟩,
 ⟨(some 79),.loadN 2 (.tmp 13),none⟩,
 ⟨(some 80),.mov (.tmp 10),none⟩,
 ⟨(some 81),.mov (.tmp 12),none⟩,
 ⟨(some 82),.aggr [(.int .i64 0),(.int .i64 0),(.int .i64 0),(.int .i64 0)] [(0,2,(.tmp 79)),(2,1,(.tmp 80)),(3,1,(.tmp 81))],none⟩,
 ⟨(some 83),.slit 133 1 [(.int .i64 0),(.int .i64 0),(.int .i64 0),(.int .i64 0)] [(0,4,(.tmp 82))],none⟩,
 ⟨(some 84),.append 133 4 32 (.tmp 78) (.tmp 83),none⟩,
 ⟨(some 8),.mov (.tmp 84),none⟩]))
 .skip)))))
 (.ops [⟨(some 85),.ar .i64 .add (.tmp 50) (.const (.int .i64 1)),none⟩,
 ⟨(some 50),.mov (.tmp 85),none⟩]))))))))))
 (.ops [⟨(some 27),.mov (.tmp 10),none⟩,
 ⟨(some 28),.ar .i64 .add (.tmp 27) (.const (.int .i64 1)),none⟩,
 ⟨(some 10),.mov (.tmp 28),none⟩]))))))
 (.seq (.seq (.ops [⟨(some 86),.mov (.tmp 9),none⟩,
 ⟨(some 87),.ar .i64 .lss (.tmp 86) (.const (.int .i64 0)),none⟩])
 (.cond (.tmp 87) (.seq (.ops [⟨(some 4),.mov (.const (.int .i64 0)),none⟩,
 ⟨(some 5),.mov (.const (.bool false)),none⟩])
 .ret)
 .skip))
 (.seq (.ops [⟨(some 14),.mov (.const (.int .i64 0)),none⟩])
 (.seq (.seq (.ops [⟨(some 88),.mov (.tmp 9),none⟩,
 ⟨(some 15),.mov (.tmp 88),none⟩])
 (.block 4 (.loop (.seq (.seq (.ops [⟨(some 89),.mov (.tmp 8),none⟩,
 ⟨(some 90),.mov (.tmp 15),none⟩,
 ⟨(some 91),.idxS 4 (.tmp 89) (.tmp 90),none⟩,
 ⟨(some 92),.fldA 2 (.tmp 91),none⟩,
 ⟨(some 93),.load1 (.tmp 92),none⟩,
 ⟨(some 94),.ar .i64 .geq (.tmp 93) (.const (.int .i64 0)),none⟩])
 (.cond (.tmp 94) .skip
 (.exit 4)))
 (.seq (.block 5 (.ops [⟨(some 100),.mov (.tmp 14),none⟩,
 ⟨(some 101),.fldA 0 (.tmp 2),none⟩,
 ⟨(some 102),.load1 (.tmp 101),none⟩,
 ⟨(some 103),.ar .i64 .mul (.tmp 100) (.tmp 102),none⟩,
 ⟨(some 104),.mov (.tmp 8),none⟩,
 ⟨(some 105),.mov (.tmp 15),none⟩,
 ⟨(some 106),.idxS 4 (.tmp 104) (.tmp 105),none⟩,
 ⟨(some 107),.fldA 3 (.tmp 106),none⟩,
 ⟨(some 108),.load1 (.tmp 107),none⟩,
 ⟨(some 109),.ar .i64 .add (.tmp 103) (.tmp 108),none⟩,
 ⟨(some 14),.mov (.tmp 109),none⟩]))
 (.ops [⟨(some 95),.mov (.tmp 8),none⟩,
 ⟨(some 96),.mov (.tmp 15),none⟩,
 ⟨(some 97),.idxS 4 (.tmp 95) (.tmp 96),none⟩,
 ⟨(some 98),.fldA 2 (.tmp 97),none⟩,
 ⟨(some 99),.load1 (.tmp 98),none⟩,
 ⟨(some 15),.mov (.tmp 99),none⟩]))))))
 (.seq (.ops [⟨(some 110),.mov (.tmp 14),none⟩,
 ⟨(some 4),.mov (.tmp 110),none⟩,
 ⟨(some 5),.mov (.const (.bool true)),none⟩])
 .ret))))))))))))
theorem enter65 {xs : List Value} {h : Hp} {Q : Value → Hp → Prop} (hl : xs.length ≤ 111) (w : wq E 111 none c65 (frameOf xs) h [] (leaveQ E [.tmp 4,.tmp 5] Q)) : CallP E 65 xs h Q :=
  CallP.enterQ (fn := Try.f65) (fn_get Try.func65) (code := Try.f65.body.get rfl) rfl rfl rfl (by kernel_rfl) rfl (fun _ => rfl) hl w
theorem can65 : callable E 65 = true := callable_get Try.func65 rfl rfl
def c66 : C := (.seq (.ops [⟨(some 1),.box 25 (.tmp 0),none⟩,
 ⟨(some 2),.alloc 25 [(.int .i64 0),(.slice none 0 0),(.slice none 0 0)],none⟩,
 ⟨(some 3),.mov (.const (.int .i64 0)),none⟩])
 (.seq (.ops [⟨(some 5),.loadN 3 (.tmp 1),none⟩,
 ⟨(some 6),.call 63 [(.tmp 5)],none⟩,
 ⟨(some 4),.alloc 25 [(.int .i64 0),(.slice none 0 0),(.slice none 0 0)],none⟩,
 ⟨none,.store 3 (.tmp 4) (.tmp 6),none⟩])
 (.seq (.seq (.ops [⟨(some 7),.fldA 1 (.tmp 4),none⟩,
 ⟨(some 8),.load1 (.tmp 7),none⟩,
 ⟨(some 9),.lenS (.tmp 8),none⟩,
 ⟨(some 10),.ar .i64 .gtr (.tmp 9) (.const (.int .i64 12)),none⟩])
 (.cond (.tmp 10) (.seq (.ops [⟨(some 11),.aggr [(.int .i64 0),(.slice none 0 0),(.slice none 0 0)] [],none⟩,
 ⟨none,.store 3 (.tmp 2) (.tmp 11),none⟩,
 ⟨(some 3),.mov (.const (.int .i64 8)),none⟩])
 .ret)
 .skip))
 (.seq (.ops [⟨(some 12),.loadN 3 (.tmp 4),none⟩,
 ⟨none,.store 3 (.tmp 2) (.tmp 12),none⟩,
 ⟨(some 3),.mov (.const (.int .i64 0)),none⟩])
 .ret))))
theorem enter66 {xs : List Value} {h : Hp} {Q : Value → Hp → Prop} (hl : xs.length ≤ 13) (w : wq E 13 none c66 (frameOf xs) h [] (leaveQ E [.cell 2 25,.tmp 3] Q)) : CallP E 66 xs h Q :=
  CallP.enterQ (fn := Try.f66) (fn_get Try.func66) (code := Try.f66.body.get rfl) rfl rfl rfl (by kernel_rfl) rfl (fun _ => rfl) hl w
theorem can66 : callable E 66 = true := callable_get Try.func66 rfl rfl
def c67 : C := (.seq (.ops [⟨(some 3),.box 25 (.tmp 0),none⟩,
 ⟨(some 4),.box 3 (.tmp 1),none⟩,
 ⟨(some 6),.alloc 25 [(.int .i64 0),(.slice none 0 0),(.slice none 0 0)],none⟩])
 (.seq (.ops [⟨(some 9),.func (.func 95) [] [(.tmp 3)],none⟩,
 ⟨(some 7),.mov (.tmp 9),none⟩])
 (.seq (.ops [⟨(some 10),.func (.func 96) [] [(.tmp 4),(.tmp 3)],none⟩,
 ⟨(some 8),.mov (.tmp 10),none⟩])
 (.seq (.ops [⟨(some 11),.fldA 0 (.tmp 3),none⟩,
 ⟨(some 12),.load1 (.tmp 11),none⟩,
 ⟨(some 13),.mov (.tmp 2),none⟩,
 ⟨(some 14),.aggr [(.int .i64 0),(.int .i64 0)] [(0,1,(.const (.int .i64 0))),(1,1,(.tmp 13))],none⟩,
 ⟨(some 15),.mov (.tmp 7),none⟩,
 ⟨(some 16),.mov (.tmp 8),none⟩,
 ⟨(some 17),.call 97 [(.tmp 12),(.tmp 14),(.tmp 15),(.tmp 16)],none⟩,
 ⟨none,.store 3 (.tmp 6) (.tmp 17),none⟩])
 .ret))))
theorem enter67 {xs : List Value} {h : Hp} {Q : Value → Hp → Prop} (hl : xs.length ≤ 18) (w : wq E 18 none c67 (frameOf xs) h [] (leaveQ E [.cell 6 25] Q)) : CallP E 67 xs h Q :=
  CallP.enterQ (fn := Try.f67) (fn_get Try.func67) (code := Try.f67.body.get rfl) rfl rfl rfl (by kernel_rfl) rfl (fun _ => rfl) hl w
theorem can67 : callable E 67 = true := callable_get Try.func67 rfl rfl
def c70 : C := (.seq (.ops [⟨(some 8),.alloc 25 [(.int .i64 0),(.slice none 0 0),(.slice none 0 0)],none⟩])
 (.seq (.ops [⟨(some 18),.mov (.tmp 0),none⟩,
 ⟨(some 19),.aggr [(.int .i64 0),(.slice none 0 0),(.slice none 0 0)] [(0,1,(.tmp 18))],none⟩,
 ⟨(some 9),.alloc 25 [(.int .i64 0),(.slice none 0 0),(.slice none 0 0)],none⟩,
 ⟨none,.store 3 (.tmp 9) (.tmp 19),none⟩])
 (.seq (.ops [⟨(some 20),.newMap,none⟩,
 ⟨(some 21),.mov (.tmp 1),none⟩,
 ⟨none,.raw (.insert 114 (.tmp 20) (.tmp 21) (.const (.int .i64 0))) 0,none⟩,
 ⟨(some 22),.mov (.tmp 20),none⟩,
 ⟨(some 10),.mov (.tmp 22),none⟩])
 (.seq (.ops [⟨(some 23),.mov (.tmp 1),none⟩,
 ⟨(some 24),.slit 3 1 [(.int .i64 0)] [(0,1,(.tmp 23))],none⟩,
 ⟨(some 11),.mov (.tmp 24),none⟩])
 (.seq (.seq (.ops [⟨(some 12),.mov (.const (.int .i64 0)),none⟩])
 (.block 0 (.loop (.seq (.seq (.ops [⟨(some 25),.mov (.tmp 12),none⟩,
 ⟨(some 26),.mov (.tmp 11),none⟩,
 ⟨(some 27),.lenS (.tmp 26),none⟩,
 ⟨(some 28),.ar .i64 .lss (.tmp 25) (.tmp 27),none⟩])
 (.cond (.tmp 28) .skip
 (.exit 0)))
 (.seq (.block 1 (.seq (.draw [⟨(some 31),.fldA 1 (.tmp 9),none⟩,
 ⟨(some 32),.load1 (.tmp 31),none⟩,
 ⟨(some 33),.mov (.tmp 2),none⟩,
 ⟨(some 34),.mov (.tmp 11),none⟩,
 ⟨(some 35),.mov (.tmp 12),none⟩,
 ⟨(some 36),.idxS 1 (.tmp 34) (.tmp 35),none⟩,
 ⟨(some 37),.load1 (.tmp 36),none⟩,
 ⟨(some 38),.callv (.tmp 33) [(.tmp 37)],none⟩,
 ⟨(some 39),.slit 3 1 [(.int .i64 0)] [(0,1,(.tmp 38))],none⟩,
 ⟨(some 40),.append 3 1 8 (.tmp 32) (.tmp 39),none⟩,
 ⟨(some 41),.fldA 1 (.tmp 9),none⟩,
 ⟨none,.store 1 (.tmp 41) (.tmp 40),none⟩]
 [⟨false,true,[false,false,false,false,false,false,false,false,false,false,false,false],[false,false,false,false,false,false,false,true,true,false,false,false]⟩,
 ⟨false,true,[false,false,false,false,false,false,false,false,false,false,false,false],[false,false,false,false,false,false,false,true,true,false,false,false]⟩,
 ⟨false,false,[false,false,false,false,false,false,false,false,false,false,false,false],[false,false,false,false,false,false,false,false,false,false,false,false]⟩,
 ⟨false,false,[false,false,false,false,false,false,false,false,false,false,false,false],[false,false,false,false,false,false,false,false,false,false,false,false]⟩,
 ⟨false,false,[false,false,false,false,false,false,false,false,false,false,false,false],[false,false,false,false,false,false,false,false,false,false,false,false]⟩,
 ⟨false,false,[false,false,false,false,false,false,false,false,false,false,false,false],[false,false,false,false,false,false,false,false,false,false,false,false]⟩,
 ⟨false,false,[false,false,false,false,false,false,false,false,false,false,false,false],[false,false,false,false,false,false,false,false,false,false,false,false]⟩,
 ⟨true,false,[false,false,false,false,false,false,false,false,false,false,false,false],[false,false,false,false,false,false,false,true,false,false,false,false]⟩,
 ⟨true,false,[false,false,false,false,false,false,false,true,false,false,false,false],[false,false,false,false,false,false,false,true,true,false,false,false]⟩,
 ⟨true,false,[false,false,false,false,false,false,false,true,true,false,false,false],[false,false,false,false,false,false,false,true,true,true,false,false]⟩,
 ⟨false,false,[false,false,false,false,false,false,false,true,true,true,false,false],[false,false,false,false,false,false,false,true,true,true,false,false]⟩,
 ⟨true,false,[false,false,false,false,false,false,false,true,true,true,false,false],[false,false,false,false,false,false,false,true,true,true,false,true]⟩])
 (.seq (.ops [⟨(some 42),.mov (.tmp 0),none⟩,
 ⟨(some 43),.make 3 [(.int .i64 0)] 8 (.tmp 42) (.tmp 42),none⟩,
 ⟨(some 13),.mov (.tmp 43),none⟩])
 (.seq (.seq (.ops [⟨(some 44),.mov (.tmp 13),none⟩,
 ⟨(some 45),.lenS (.tmp 44),none⟩,
 ⟨(some 46),.mov (.const (.int .i64 0)),none⟩])
 (.block 2 (.loop (.seq (.ops [⟨(some 47),.ar .i64 .lss (.tmp 46) (.tmp 45),none⟩])
 (.seq (.cond (.tmp 47) .skip
 (.exit 2))
 (.seq (.block 3 (.seq (.ops [⟨(some 48),.mov (.tmp 46),none⟩,
 ⟨(some 14),.mov (.tmp 48),none⟩])
 (.seq (.ops [⟨(some 49),.mov (.tmp 3),none⟩,
 ⟨(some 50),.mov (.tmp 11),none⟩,
 ⟨(some 51),.mov (.tmp 12),none⟩,
 ⟨(some 52),.idxS 1 (.tmp 50) (.tmp 51),none⟩,
 ⟨(some 53),.load1 (.tmp 52),none⟩,
 ⟨(some 54),.mov (.tmp 14),none⟩,
 ⟨(some 55),.callv (.tmp 49) [(.tmp 53),(.tmp 54)],none⟩,
 ⟨(some 15),.mov (.tmp 55),none⟩])
 (.seq (.seq (.ops [⟨(some 57),.mov (.tmp 10),none⟩,
 ⟨(some 58),.mov (.tmp 15),none⟩,
 ⟨(some 59),.raw (.lookup 114 (.tmp 57) (.tmp 58) true) 115,none⟩,
 ⟨(some 56),.mov (.tmp 59),none⟩,
 ⟨(some 60),.ext (.tmp 56) 0,none⟩,
 ⟨(some 61),.ext (.tmp 56) 1,none⟩,
 ⟨(some 16),.mov (.tmp 60),none⟩,
 ⟨(some 17),.mov (.tmp 61),none⟩])
 (.seq (.ops [⟨(some 62),.mov (.tmp 17),none⟩,
 ⟨(some 63),.not (.tmp 62),none⟩])
 (.cond (.tmp 63) (.seq (.ops [⟨(some 64),.mov (.tmp 10),none⟩,
 ⟨(some 65),.mov (.tmp 15),none⟩,
 ⟨(some 66),.mov (.tmp 11),none⟩,
 ⟨(some 67),.lenS (.tmp 66),none⟩,
 ⟨none,.raw (.mapUpdate 114 (.tmp 64) (.tmp 65) (.tmp 67)) 0,none⟩])
 (.ops [⟨(some 68),.mov (.tmp 11),none⟩,
 ⟨(some 69),.mov (.tmp 15),none⟩,
 ⟨(some 70),.slit 3 1 [(.int .i64 0)] [(0,1,(.tmp 69))],none⟩,
 ⟨(some 71),.append 3 1 8 (.tmp 68) (.tmp 70),none⟩,
 ⟨(some 11),.mov (.tmp 71),none⟩]))
 .skip)))
 (.ops [⟨(some 72),.mov (.tmp 13),none⟩,
 ⟨(some 73),.mov (.tmp 14),none⟩,
 ⟨(some 74),.mov (.tmp 10),none⟩,
 ⟨(some 75),.mov (.tmp 15),none⟩,
 ⟨(some 76),.raw (.lookup 114 (.tmp 74) (.tmp 75) false) 3,none⟩,
 ⟨(some 77),.idxS 1 (.tmp 72) (.tmp 73),none⟩,
 ⟨none,.store 1 (.tmp 77) (.tmp 76),none⟩])))))
 (.ops [⟨(some 78),.ar .i64 .add (.tmp 46) (.const (.int .i64 1)),none⟩,
 ⟨(some 46),.mov (.tmp 78),none⟩])))))))
 (.ops [⟨(some 79),.fldA 2 (.tmp 9),none⟩,
 ⟨(some 80),.load1 (.tmp 79),none⟩,
 ⟨(some 81),.mov (.tmp 13),none⟩,
 ⟨(some 82),.slit 22 1 [(.slice none 0 0)] [(0,1,(.tmp 81))],none⟩,
 ⟨(some 83),.append 22 1 24 (.tmp 80) (.tmp 82),none⟩,
 ⟨(some 84),.fldA 2 (.tmp 9),none⟩,
 ⟨none,.store 1 (.tmp 84) (.tmp 83),none⟩])))))
 (.ops [⟨(some 29),.mov (.tmp 12),none⟩,
 ⟨(some 30),.ar .i64 .add (.tmp 29) (.const (.int .i64 1)),none⟩,
 ⟨(some 12),.mov (.tmp 30),none⟩]))))))
 (.seq (.ops [⟨(some 85),.loadN 3 (.tmp 9),none⟩,
 ⟨none,.store 3 (.tmp 8) (.tmp 85),none⟩])
 .ret))))))
theorem enter70 {xs : List Value} {h : Hp} {Q : Value → Hp → Prop} (hl : xs.length ≤ 86) (w : wq E 86 none c70 (frameOf xs) h [] (leaveQ E [.cell 8 25] Q)) : CallP E 70 xs h Q :=
  CallP.enterQ (fn := Try.f70) (fn_get Try.func70) (code := Try.f70.body.get rfl) rfl rfl rfl (by kernel_rfl) rfl (fun _ => rfl) hl w
theorem can70 : callable E 70 = true := callable_get Try.func70 rfl rfl
def c77 : C := (.seq (.ops [⟨(some 3),.box 25 (.tmp 0),none⟩,
 ⟨(some 6),.mov (.const (.bool false)),none⟩])
 (.seq (.draw [⟨(some 10),.loadN 3 (.tmp 3),none⟩,
 ⟨(some 11),.mov (.tmp 1),none⟩,
 ⟨(some 12),.call 67 [(.tmp 10),(.const (.int .i64 1)),(.tmp 11)],none⟩,
 ⟨(some 13),.loadN 3 (.tmp 3),none⟩,
 ⟨(some 14),.mov (.tmp 1),none⟩,
 ⟨(some 15),.mov (.tmp 2),none⟩,
 ⟨(some 16),.ar .i64 .add (.tmp 14) (.tmp 15),none⟩,
 ⟨(some 17),.call 67 [(.tmp 13),(.const (.int .i64 1)),(.tmp 16)],none⟩,
 ⟨(some 18),.call 65 [(.tmp 12),(.tmp 17)],none⟩,
 ⟨(some 9),.mov (.tmp 18),none⟩,
 ⟨(some 19),.ext (.tmp 9) 0,none⟩,
 ⟨(some 20),.ext (.tmp 9) 1,none⟩,
 ⟨(some 7),.mov (.tmp 19),none⟩,
 ⟨(some 8),.mov (.tmp 20),none⟩]
 [⟨false,false,[false,false,false,false,false,false,false,false,false,false,false,false,false,false],[false,false,false,false,false,false,false,false,false,false,false,false,false,false]⟩,
 ⟨false,false,[false,false,false,false,false,false,false,false,false,false,false,false,false,false],[false,false,false,false,false,false,false,false,false,false,false,false,false,false]⟩,
 ⟨true,false,[false,false,false,false,false,false,false,false,false,false,false,false,false,false],[false,false,true,false,false,false,false,false,false,false,false,false,false,false]⟩,
 ⟨false,true,[false,false,false,false,false,false,false,false,false,false,false,false,false,false],[false,false,true,false,false,false,false,false,false,false,false,false,false,false]⟩,
 ⟨false,true,[false,false,false,false,false,false,false,false,false,false,false,false,false,false],[false,false,true,false,false,false,false,false,false,false,false,false,false,false]⟩,
 ⟨false,true,[false,false,false,false,false,false,false,false,false,false,false,false,false,false],[false,false,true,false,false,false,false,false,false,false,false,false,false,false]⟩,
 ⟨false,true,[false,false,false,false,false,false,false,false,false,false,false,false,false,false],[false,false,true,false,false,false,false,false,false,false,false,false,false,false]⟩,
 ⟨true,false,[false,false,true,false,false,false,false,false,false,false,false,false,false,false],[false,false,true,false,false,false,false,true,false,false,false,false,false,false]⟩,
 ⟨true,false,[false,false,true,false,false,false,false,true,false,false,false,false,false,false],[false,false,true,false,false,false,false,true,true,false,false,false,false,false]⟩,
 ⟨false,false,[false,false,true,false,false,false,false,true,true,false,false,false,false,false],[false,false,true,false,false,false,false,true,true,false,false,false,false,false]⟩,
 ⟨false,false,[false,false,true,false,false,false,false,true,true,false,false,false,false,false],[false,false,true,false,false,false,false,true,true,false,false,false,false,false]⟩,
 ⟨false,false,[false,false,true,false,false,false,false,true,true,false,false,false,false,false],[false,false,true,false,false,false,false,true,true,false,false,false,false,false]⟩,
 ⟨false,false,[false,false,true,false,false,false,false,true,true,false,false,false,false,false],[false,false,true,false,false,false,false,true,true,false,false,false,false,false]⟩,
 ⟨false,false,[false,false,true,false,false,false,false,true,true,false,false,false,false,false],[false,false,true,false,false,false,false,true,true,false,false,false,false,false]⟩])
 (.seq (.ops [⟨(some 21),.mov (.tmp 8),none⟩,
 ⟨(some 22),.not (.tmp 21),none⟩,
 ⟨(some 6),.mov (.tmp 22),none⟩])
 .ret)))
theorem enter77 {xs : List Value} {h : Hp} {Q : Value → Hp → Prop} (hl : xs.length ≤ 23) (w : wq E 23 none c77 (frameOf xs) h [] (leaveQ E [.tmp 6] Q)) : CallP E 77 xs h Q :=
  CallP.enterQ (fn := Try.f77) (fn_get Try.func77) (code := Try.f77.body.get rfl) rfl rfl rfl (by kernel_rfl) rfl (fun _ => rfl) hl w
theorem can77 : callable E 77 = true := callable_get Try.func77 rfl rfl
def c78 : C := (.seq (.ops [⟨(some 2),.box 25 (.tmp 0),none⟩,
 ⟨(some 4),.mov (.const (.int .i64 0)),none⟩])
 (.seq (.ops [⟨(some 5),.mov (.const (.int .i64 60)),none⟩])
 (.seq (.block 0 (.loop (.seq (.seq (.draw [⟨(some 6),.mov (.tmp 5),none⟩,
 ⟨(some 7),.ar .i64 .gtr (.tmp 6) (.const (.int .i64 0)),none⟩,
 ⟨(some 8),.mov (.tmp 7),none⟩,
 ⟨(some 9),.loadN 3 (.tmp 2),(some (8,true))⟩,
 ⟨(some 10),.mov (.tmp 5),(some (8,true))⟩,
 ⟨(some 11),.ar .i64 .sub (.tmp 10) (.const (.int .i64 1)),(some (8,true))⟩,
 ⟨(some 12),.call 62 [(.tmp 9),(.const (.int .i64 0)),(.tmp 11)],(some (8,true))⟩,
 ⟨(some 13),.loadN 3 (.tmp 2),(some (8,true))⟩,
 ⟨(some 14),.mov (.tmp 5),(some (8,true))⟩,
 ⟨(some 15),.ar .i64 .sub (.tmp 14) (.const (.int .i64 1)),(some (8,true))⟩,
 ⟨(some 16),.mov (.tmp 1),(some (8,true))⟩,
 ⟨(some 17),.ar .i64 .add (.tmp 15) (.tmp 16),(some (8,true))⟩,
 ⟨(some 18),.call 62 [(.tmp 13),(.const (.int .i64 0)),(.tmp 17)],(some (8,true))⟩,
 ⟨(some 19),.ar .i64 .eql (.tmp 12) (.tmp 18),(some (8,true))⟩,
 ⟨(some 20),.pick (.tmp 8) (.tmp 19) (.const (.bool false)),none⟩]
 [⟨false,false,[false,false,false,false,false,false,false,false,false,false,false,false,false,false,false],[false,false,false,false,false,false,false,false,false,false,false,false,false,false,false]⟩,
 ⟨false,false,[false,false,false,false,false,false,false,false,false,false,false,false,false,false,false],[false,false,false,false,false,false,false,false,false,false,false,false,false,false,false]⟩,
 ⟨false,false,[false,false,false,false,false,false,false,false,false,false,false,false,false,false,false],[false,false,false,false,false,false,false,false,false,false,false,false,false,false,false]⟩,
 ⟨false,false,[false,false,false,false,false,false,false,false,false,false,false,false,false,false,false],[false,false,false,false,false,false,false,false,false,false,false,false,false,false,false]⟩,
 ⟨false,false,[false,false,false,false,false,false,false,false,false,false,false,false,false,false,false],[false,false,false,false,false,false,false,false,false,false,false,false,false,false,false]⟩,
 ⟨false,false,[false,false,false,false,false,false,false,false,false,false,false,false,false,false,false],[false,false,false,false,false,false,false,false,false,false,false,false,false,false,false]⟩,
 ⟨true,false,[false,false,false,false,false,false,false,false,false,false,false,false,false,false,false],[false,false,false,false,false,false,true,false,false,false,false,false,false,false,false]⟩,
 ⟨false,true,[false,false,false,false,false,false,false,false,false,false,false,false,false,false,false],[false,false,false,false,false,false,true,false,false,false,false,false,false,false,false]⟩,
 ⟨false,true,[false,false,false,false,false,false,false,false,false,false,false,false,false,false,false],[false,false,false,false,false,false,true,false,false,false,false,false,false,false,false]⟩,
 ⟨false,true,[false,false,false,false,false,false,false,false,false,false,false,false,false,false,false],[false,false,false,false,false,false,true,false,false,false,false,false,false,false,false]⟩,
 ⟨false,true,[false,false,false,false,false,false,false,false,false,false,false,false,false,false,false],[false,false,false,false,false,false,true,false,false,false,false,false,false,false,false]⟩,
 ⟨false,true,[false,false,false,false,false,false,false,false,false,false,false,false,false,false,false],[false,false,false,false,false,false,true,false,false,false,false,false,false,false,false]⟩,
 ⟨true,false,[false,false,false,false,false,false,true,false,false,false,false,false,false,false,false],[false,false,false,false,false,false,true,false,false,false,false,false,true,false,false]⟩,
 ⟨false,false,[false,false,false,false,false,false,true,false,false,false,false,false,true,false,false],[false,false,false,false,false,false,true,false,false,false,false,false,true,false,false]⟩,
 ⟨false,false,[false,false,false,false,false,false,true,false,false,false,false,false,true,false,false],[false,false,false,false,false,false,true,false,false,false,false,false,true,false,false]⟩])
 (.cond (.tmp 20) .skip
 (.exit 0)))
 (.block 1 (.ops [⟨(some 21),.mov (.tmp 5),none⟩,
 ⟨(some 22),.ar .i64 .sub (.tmp 21) (.const (.int .i64 1)),none⟩,
 ⟨(some 5),.mov (.tmp 22),none⟩])))))
 (.seq (.ops [⟨(some 23),.mov (.tmp 5),none⟩,
 ⟨(some 4),.mov (.tmp 23),none⟩])
 .ret))))
theorem enter78 {xs : List Value} {h : Hp} {Q : Value → Hp → Prop} (hl : xs.length ≤ 24) (w : wq E 24 none c78 (frameOf xs) h [] (leaveQ E [.tmp 4] Q)) : CallP E 78 xs h Q :=
  CallP.enterQ (fn := Try.f78) (fn_get Try.func78) (code := Try.f78.body.get rfl) rfl rfl rfl (by kernel_rfl) rfl (fun _ => rfl) hl w
theorem can78 : callable E 78 = true := callable_get Try.func78 rfl rfl
def c79 : C := (.seq (.ops [⟨(some 2),.mov (.const (.bool false)),none⟩])
 (.seq (.ops [⟨(some 3),.mov (.tmp 0),none⟩,
 ⟨(some 4),.ar .i64 .geq (.tmp 3) (.const (.int .i64 0)),none⟩,
 ⟨(some 5),.mov (.tmp 4),none⟩,
 ⟨(some 6),.mov (.tmp 0),(some (5,true))⟩,
 ⟨(some 7),.ar .i64 .lss (.tmp 6) (.const (.int .i64 10)),(some (5,true))⟩,
 ⟨(some 8),.pick (.tmp 5) (.tmp 7) (.const (.bool false)),none⟩,
 ⟨(some 2),.mov (.tmp 8),none⟩])
 .ret))
theorem enter79 {xs : List Value} {h : Hp} {Q : Value → Hp → Prop} (hl : xs.length ≤ 9) (w : wq E 9 none c79 (frameOf xs) h [] (leaveQ E [.tmp 2] Q)) : CallP E 79 xs h Q :=
  CallP.enterQ (fn := Try.f79) (fn_get Try.func79) (code := Try.f79.body.get rfl) rfl rfl rfl (by kernel_rfl) rfl (fun _ => rfl) hl w
theorem can79 : callable E 79 = true := callable_get Try.func79 rfl rfl
def c80 : C := (.seq (.ops [⟨(some 2),.box 25 (.tmp 0),none⟩,
 ⟨(some 4),.mov (.const (.int .i64 0)),none⟩,
 ⟨(some 5),.mov (.const (.bool false)),none⟩])
 (.seq (.ops [⟨(some 11),.fldA 1 (.tmp 2),none⟩,
 ⟨(some 12),.load1 (.tmp 11),none⟩,
 ⟨(some 13),.lenS (.tmp 12),none⟩,
 ⟨(some 14),.make 2 [(.int .i64 0)] 8 (.tmp 13) (.tmp 13),none⟩,
 ⟨(some 6),.mov (.tmp 14),none⟩])
 (.seq (.seq (.ops [⟨(some 15),.fldA 1 (.tmp 2),none⟩,
 ⟨(some 16),.load1 (.tmp 15),none⟩,
 ⟨(some 17),.lenS (.tmp 16),none⟩,
 ⟨(some 18),.mov (.const (.int .i64 0)),none⟩])
 (.block 0 (.loop (.seq (.ops [⟨(some 19),.ar .i64 .lss (.tmp 18) (.tmp 17),none⟩])
 (.seq (.cond (.tmp 19) .skip
 (.exit 0))
 (.seq (.block 1 (.seq (.ops [⟨(some 20),.mov (.tmp 18),none⟩,
 ⟨(some 21),.idxS 1 (.tmp 16) (.tmp 18),none⟩,
 ⟨(some 22),.load1 (.tmp 21),none⟩,
 ⟨(some 7),.mov (.tmp 20),none⟩,
 ⟨(some 8),.mov (.tmp 22),none⟩])
 (.seq (.ops [⟨(some 23),.mov (.tmp 6),none⟩,
 ⟨(some 24),.mov (.tmp 7),none⟩,
 ⟨(some 25),.idxS 1 (.tmp 23) (.tmp 24),none⟩,
 ⟨none,.store 1 (.tmp 25) (.const (.int .i64 (-1))),none⟩])
 (.seq (.ops [⟨(some 26),.mov (.tmp 8),none⟩,
 ⟨(some 27),.mov (.tmp 1),none⟩,
 ⟨(some 28),.ar .i64 .eql (.tmp 26) (.tmp 27),none⟩])
 (.cond (.tmp 28) (.ops [⟨(some 29),.mov (.tmp 6),none⟩,
 ⟨(some 30),.mov (.tmp 7),none⟩,
 ⟨(some 31),.idxS 1 (.tmp 29) (.tmp 30),none⟩,
 ⟨none,.store 1 (.tmp 31) (.const (.int .i64 0)),none⟩])
 .skip)))))
 (.ops [⟨(some 32),.ar .i64 .add (.tmp 18) (.const (.int .i64 1)),none⟩,
 ⟨(some 18),.mov (.tmp 32),none⟩])))))))
 (.seq (.seq (.ops [⟨(some 33),.fldA 1 (.tmp 2),none⟩,
 ⟨(some 34),.load1 (.tmp 33),none⟩,
 ⟨(some 35),.lenS (.tmp 34),none⟩,
 ⟨(some 36),.mov (.const (.int .i64 0)),none⟩])
 (.block 2 (.loop (.seq (.ops [⟨(some 37),.ar .i64 .lss (.tmp 36) (.tmp 35),none⟩])
 (.seq (.cond (.tmp 37) .skip
 (.exit 2))
 (.seq (.block 3 (.seq (.ops [⟨(some 38),.fldA 1 (.tmp 2),none⟩,
 ⟨(some 39),.load1 (.tmp 38),none⟩,
 ⟨(some 40),.lenS (.tmp 39),none⟩,
 ⟨(some 41),.make 2 [(.int .i64 0)] 8 (.tmp 40) (.tmp 40),none⟩,
 ⟨(some 9),.mov (.tmp 41),none⟩])
 (.seq (.seq (.ops [⟨(some 42),.fldA 1 (.tmp 2),none⟩,
 ⟨(some 43),.load1 (.tmp 42),none⟩,
 ⟨(some 44),.lenS (.tmp 43),none⟩,
 ⟨(some 45),.mov (.const (.int .i64 0)),none⟩])
 (.block 4 (.loop (.seq (.ops [⟨(some 46),.ar .i64 .lss (.tmp 45) (.tmp 44),none⟩])
 (.seq (.cond (.tmp 46) .skip
 (.exit 4))
 (.seq (.block 5 (.seq (.ops [⟨(some 47),.mov (.tmp 45),none⟩,
 ⟨(some 10),.mov (.tmp 47),none⟩])
 (.ops [⟨(some 48),.mov (.tmp 9),none⟩,
 ⟨(some 49),.mov (.tmp 10),none⟩,
 ⟨(some 50),.loadN 3 (.tmp 2),none⟩,
 ⟨(some 51),.mov (.tmp 6),none⟩,
 ⟨(some 52),.mov (.tmp 10),none⟩,
 ⟨(some 53),.call 98 [(.tmp 50),(.tmp 51),(.tmp 52)],none⟩,
 ⟨(some 54),.idxS 1 (.tmp 48) (.tmp 49),none⟩,
 ⟨none,.store 1 (.tmp 54) (.tmp 53),none⟩])))
 (.ops [⟨(some 55),.ar .i64 .add (.tmp 45) (.const (.int .i64 1)),none⟩,
 ⟨(some 45),.mov (.tmp 55),none⟩])))))))
 (.ops [⟨(some 56),.mov (.tmp 9),none⟩,
 ⟨(some 6),.mov (.tmp 56),none⟩]))))
 (.ops [⟨(some 57),.ar .i64 .add (.tmp 36) (.const (.int .i64 1)),none⟩,
 ⟨(some 36),.mov (.tmp 57),none⟩])))))))
 (.seq (.ops [⟨(some 58),.mov (.tmp 6),none⟩,
 ⟨(some 59),.idxS 1 (.tmp 58) (.const (.int .i64 0)),none⟩,
 ⟨(some 60),.load1 (.tmp 59),none⟩,
 ⟨(some 61),.raw (.call ⟨.builtin .max,⟨[(.tmp 60),(.const (.int .i64 0))]⟩,⟨[2,2]⟩⟩) 2,none⟩,
 ⟨(some 62),.mov (.tmp 6),none⟩,
 ⟨(some 63),.idxS 1 (.tmp 62) (.const (.int .i64 0)),none⟩,
 ⟨(some 64),.load1 (.tmp 63),none⟩,
 ⟨(some 65),.ar .i64 .geq (.tmp 64) (.const (.int .i64 0)),none⟩,
 ⟨(some 4),.mov (.tmp 61),none⟩,
 ⟨(some 5),.mov (.tmp 65),none⟩])
 .ret)))))
theorem enter80 {xs : List Value} {h : Hp} {Q : Value → Hp → Prop} (hl : xs.length ≤ 66) (w : wq E 66 none c80 (frameOf xs) h [] (leaveQ E [.tmp 4,.tmp 5] Q)) : CallP E 80 xs h Q :=
  CallP.enterQ (fn := Try.f80) (fn_get Try.func80) (code := Try.f80.body.get rfl) rfl rfl rfl (by kernel_rfl) rfl (fun _ => rfl) hl w
theorem can80 : callable E 80 = true := callable_get Try.func80 rfl rfl
def c81 : C := (.seq (.ops [⟨(some 2),.box 26 (.tmp 0),none⟩,
 ⟨(some 4),.mov (.const (.slice none 0 0)),none⟩])
 (.seq (.ops [⟨(some 12),.newMap,none⟩,
 ⟨(some 5),.mov (.tmp 12),none⟩])
 (.seq (.ops [⟨(some 6),.mov (.const (.slice none 0 0)),none⟩])
 (.seq (.seq (.ops [⟨(some 7),.mov (.const (.int .i64 0)),none⟩])
 (.block 0 (.loop (.seq (.seq (.ops [⟨(some 13),.mov (.tmp 7),none⟩,
 ⟨(some 14),.fldA 1 (.tmp 2),none⟩,
 ⟨(some 15),.load1 (.tmp 14),none⟩,
 ⟨(some 16),.lenS (.tmp 15),none⟩,
 ⟨(some 17),.ar .i64 .lss (.tmp 13) (.tmp 16),none⟩])
 (.cond (.tmp 17) .skip
 (.exit 0)))
 (.seq (.block 1 (.seq (.draw [⟨(some 20),.fldA 1 (.tmp 2),none⟩,
 ⟨(some 21),.load1 (.tmp 20),none⟩,
 ⟨(some 22),.mov (.tmp 7),none⟩,
 ⟨(some 23),.idxS 1 (.tmp 21) (.tmp 22),none⟩,
 ⟨(some 24),.load1 (.tmp 23),none⟩,
 ⟨(some 25),.call 99 [(.tmp 24)],none⟩,
 ⟨(some 26),.mov (.tmp 1),none⟩,
 ⟨(some 27),.mov (.tmp 7),none⟩,
 ⟨(some 28),.idxS 1 (.tmp 26) (.tmp 27),none⟩,
 ⟨(some 29),.load1 (.tmp 28),none⟩,
 ⟨(some 30),.call 99 [(.tmp 29)],none⟩,
 ⟨(some 31),.str .add (.tmp 25) (.tmp 30),none⟩,
 ⟨(some 8),.mov (.tmp 31),none⟩]
 [⟨false,false,[false,false,false,false,false,false,false,false,false,false,false,false,false],[false,false,false,false,false,false,false,false,false,false,false,false,false]⟩,
 ⟨false,false,[false,false,false,false,false,false,false,false,false,false,false,false,false],[false,false,false,false,false,false,false,false,false,false,false,false,false]⟩,
 ⟨false,false,[false,false,false,false,false,false,false,false,false,false,false,false,false],[false,false,false,false,false,false,false,false,false,false,false,false,false]⟩,
 ⟨false,false,[false,false,false,false,false,false,false,false,false,false,false,false,false],[false,false,false,false,false,false,false,false,false,false,false,false,false]⟩,
 ⟨false,false,[false,false,false,false,false,false,false,false,false,false,false,false,false],[false,false,false,false,false,false,false,false,false,false,false,false,false]⟩,
 ⟨true,false,[false,false,false,false,false,false,false,false,false,false,false,false,false],[false,false,false,false,false,true,false,false,false,false,false,false,false]⟩,
 ⟨false,true,[false,false,false,false,false,false,false,false,false,false,false,false,false],[false,false,false,false,false,true,false,false,false,false,false,false,false]⟩,
 ⟨false,true,[false,false,false,false,false,false,false,false,false,false,false,false,false],[false,false,false,false,false,true,false,false,false,false,false,false,false]⟩,
 ⟨false,true,[false,false,false,false,false,false,false,false,false,false,false,false,false],[false,false,false,false,false,true,false,false,false,false,false,false,false]⟩,
 ⟨false,true,[false,false,false,false,false,false,false,false,false,false,false,false,false],[false,false,false,false,false,true,false,false,false,false,false,false,false]⟩,
 ⟨true,false,[false,false,false,false,false,true,false,false,false,false,false,false,false],[false,false,false,false,false,true,false,false,false,false,true,false,false]⟩,
 ⟨false,false,[false,false,false,false,false,true,false,false,false,false,true,false,false],[false,false,false,false,false,true,false,false,false,false,true,false,false]⟩,
 ⟨false,false,[false,false,false,false,false,true,false,false,false,false,true,false,false],[false,false,false,false,false,true,false,false,false,false,true,false,false]⟩])
 (.seq (.seq (.ops [⟨(some 9),.mov (.const (.int .i64 0)),none⟩])
 (.block 2 (.loop (.seq (.seq (.ops [⟨(some 32),.mov (.tmp 9),none⟩,
 ⟨(some 33),.fldA 0 (.tmp 2),none⟩,
 ⟨(some 34),.load1 (.tmp 33),none⟩,
 ⟨(some 35),.ar .i64 .lss (.tmp 32) (.tmp 34),none⟩])
 (.cond (.tmp 35) .skip
 (.exit 2)))
 (.seq (.block 3 (.ops [⟨(some 38),.mov (.tmp 8),none⟩,
 ⟨(some 39),.mov (.tmp 1),none⟩,
 ⟨(some 40),.fldA 2 (.tmp 2),none⟩,
 ⟨(some 41),.load1 (.tmp 40),none⟩,
 ⟨(some 42),.mov (.tmp 7),none⟩,
 ⟨(some 43),.idxS 1 (.tmp 41) (.tmp 42),none⟩,
 ⟨(some 44),.load1 (.tmp 43),none⟩,
 ⟨(some 45),.mov (.tmp 9),none⟩,
 ⟨(some 46),.idxS 1 (.tmp 44) (.tmp 45),none⟩,
 ⟨(some 47),.load1 (.tmp 46),none⟩,
 ⟨(some 48),.idxS 1 (.tmp 39) (.tmp 47),none⟩,
 ⟨(some 49),.load1 (.tmp 48),none⟩,
 ⟨(some 50),.call 99 [(.tmp 49)],none⟩,
 ⟨(some 51),.str .add (.tmp 38) (.tmp 50),none⟩,
 ⟨(some 8),.mov (.tmp 51),none⟩]))
 (.ops [⟨(some 36),.mov (.tmp 9),none⟩,
 ⟨(some 37),.ar .i64 .add (.tmp 36) (.const (.int .i64 1)),none⟩,
 ⟨(some 9),.mov (.tmp 37),none⟩]))))))
 (.seq (.seq (.ops [⟨(some 53),.mov (.tmp 5),none⟩,
 ⟨(some 54),.mov (.tmp 8),none⟩,
 ⟨(some 55),.raw (.lookup 144 (.tmp 53) (.tmp 54) true) 115,none⟩,
 ⟨(some 52),.mov (.tmp 55),none⟩,
 ⟨(some 56),.ext (.tmp 52) 0,none⟩,
 ⟨(some 57),.ext (.tmp 52) 1,none⟩,
 ⟨(some 10),.mov (.tmp 56),none⟩,
 ⟨(some 11),.mov (.tmp 57),none⟩])
 (.seq (.ops [⟨(some 58),.mov (.tmp 11),none⟩,
 ⟨(some 59),.not (.tmp 58),none⟩])
 (.cond (.tmp 59) (.ops [⟨(some 60),.mov (.tmp 5),none⟩,
 ⟨(some 61),.mov (.tmp 8),none⟩,
 ⟨(some 62),.mov (.tmp 5),none⟩,
 ⟨(some 63),.raw (.call ⟨.builtin .len,⟨[(.tmp 62)]⟩,⟨[144]⟩⟩) 3,none⟩,
 ⟨none,.raw (.mapUpdate 144 (.tmp 60) (.tmp 61) (.tmp 63)) 0,none⟩])
 .skip)))
 (.ops [⟨(some 64),.mov (.tmp 6),none⟩,
 ⟨(some 65),.mov (.tmp 5),none⟩,
 ⟨(some 66),.mov (.tmp 8),none⟩,
 ⟨(some 67),.raw (.lookup 144 (.tmp 65) (.tmp 66) false) 3,none⟩,
 ⟨(some 68),.slit 3 1 [(.int .i64 0)] [(0,1,(.tmp 67))],none⟩,
 ⟨(some 69),.append 3 1 8 (.tmp 64) (.tmp 68),none⟩,
 ⟨(some 6),.mov (.tmp 69),none⟩])))))
 (.ops [⟨(some 18),.mov (.tmp 7),none⟩,
 ⟨(some 19),.ar .i64 .add (.tmp 18) (.const (.int .i64 1)),none⟩,
 ⟨(some 7),.mov (.tmp 19),none⟩]))))))
 (.seq (.ops [⟨(some 70),.mov (.tmp 6),none⟩,
 ⟨(some 4),.mov (.tmp 70),none⟩])
 .ret)))))
theorem enter81 {xs : List Value} {h : Hp} {Q : Value → Hp → Prop} (hl : xs.length ≤ 71) (w : wq E 71 none c81 (frameOf xs) h [] (leaveQ E [.tmp 4] Q)) : CallP E 81 xs h Q :=
  CallP.enterQ (fn := Try.f81) (fn_get Try.func81) (code := Try.f81.body.get rfl) rfl rfl rfl (by kernel_rfl) rfl (fun _ => rfl) hl w
theorem can81 : callable E 81 = true := callable_get Try.func81 rfl rfl
def c82 : C := (.seq (.ops [⟨(some 2),.mov (.const (.int .i64 0)),none⟩])
 (.seq (.ops [⟨(some 3),.mov (.const (.int .i64 0)),none⟩])
 (.seq (.seq (.ops [⟨(some 4),.mov (.const (.int .i64 0)),none⟩])
 (.block 0 (.loop (.seq (.seq (.ops [⟨(some 5),.mov (.tmp 4),none⟩,
 ⟨(some 6),.mov (.tmp 0),none⟩,
 ⟨(some 7),.lenS (.tmp 6),none⟩,
 ⟨(some 8),.ar .i64 .lss (.tmp 5) (.tmp 7),none⟩])
 (.cond (.tmp 8) .skip
 (.exit 0)))
 (.seq (.block 1 (.ops [⟨(some 11),.mov (.tmp 3),none⟩,
 ⟨(some 12),.mov (.tmp 0),none⟩,
 ⟨(some 13),.mov (.tmp 4),none⟩,
 ⟨(some 14),.idxS 1 (.tmp 12) (.tmp 13),none⟩,
 ⟨(some 15),.load1 (.tmp 14),none⟩,
 ⟨(some 16),.raw (.call ⟨.builtin .max,⟨[(.tmp 11),(.tmp 15)]⟩,⟨[3,3]⟩⟩) 3,none⟩,
 ⟨(some 3),.mov (.tmp 16),none⟩]))
 (.ops [⟨(some 9),.mov (.tmp 4),none⟩,
 ⟨(some 10),.ar .i64 .add (.tmp 9) (.const (.int .i64 1)),none⟩,
 ⟨(some 4),.mov (.tmp 10),none⟩]))))))
 (.seq (.ops [⟨(some 17),.mov (.tmp 3),none⟩,
 ⟨(some 18),.ar .i64 .add (.tmp 17) (.const (.int .i64 1)),none⟩,
 ⟨(some 2),.mov (.tmp 18),none⟩])
 .ret))))
theorem enter82 {xs : List Value} {h : Hp} {Q : Value → Hp → Prop} (hl : xs.length ≤ 19) (w : wq E 19 none c82 (frameOf xs) h [] (leaveQ E [.tmp 2] Q)) : CallP E 82 xs h Q :=
  CallP.enterQ (fn := Try.f82) (fn_get Try.func82) (code := Try.f82.body.get rfl) rfl rfl rfl (by kernel_rfl) rfl (fun _ => rfl) hl w
theorem can82 : callable E 82 = true := callable_get Try.func82 rfl rfl
def c84 : C := (.seq (.ops [⟨(some 2),.mov (.const (.slice none 0 0)),none⟩])
 (.seq (.ops [⟨(some 3),.mov (.const (.slice none 0 0)),none⟩])
 (.seq (.seq (.ops [⟨(some 6),.mov (.tmp 0),none⟩,
 ⟨(some 7),.lenS (.tmp 6),none⟩,
 ⟨(some 8),.mov (.const (.int .i64 0)),none⟩])
 (.block 0 (.loop (.seq (.ops [⟨(some 9),.ar .i64 .lss (.tmp 8) (.tmp 7),none⟩])
 (.seq (.cond (.tmp 9) .skip
 (.exit 0))
 (.seq (.block 1 (.seq (.ops [⟨(some 10),.idxS 1 (.tmp 6) (.tmp 8),none⟩,
 ⟨(some 11),.load1 (.tmp 10),none⟩,
 ⟨(some 5),.mov (.tmp 11),none⟩])
 (.ops [⟨(some 12),.mov (.tmp 3),none⟩,
 ⟨(some 13),.mov (.tmp 5),none⟩,
 ⟨(some 14),.append 3 1 8 (.tmp 12) (.tmp 13),none⟩,
 ⟨(some 3),.mov (.tmp 14),none⟩])))
 (.ops [⟨(some 15),.ar .i64 .add (.tmp 8) (.const (.int .i64 1)),none⟩,
 ⟨(some 8),.mov (.tmp 15),none⟩])))))))
 (.seq (.ops [⟨(some 16),.mov (.tmp 3),none⟩,
 ⟨(some 2),.mov (.tmp 16),none⟩])
 .ret))))
theorem enter84 {xs : List Value} {h : Hp} {Q : Value → Hp → Prop} (hl : xs.length ≤ 17) (w : wq E 17 none c84 (frameOf xs) h [] (leaveQ E [.tmp 2] Q)) : CallP E 84 xs h Q :=
  CallP.enterQ (fn := Try.f84) (fn_get Try.func84) (code := Try.f84.body.get rfl) rfl rfl rfl (by kernel_rfl) rfl (fun _ => rfl) hl w
theorem can84 : callable E 84 = true := callable_get Try.func84 rfl rfl
def c85 : C := (.seq (.ops [⟨(some 2),.box 121 (.tmp 0),none⟩,
 ⟨(some 3),.box 3 (.tmp 1),none⟩,
 ⟨(some 4),.alloc 25 [(.int .i64 0),(.slice none 0 0),(.slice none 0 0)],none⟩])
 (.seq (.ops [⟨(some 7),.func (.func 100) [] [(.tmp 2)],none⟩,
 ⟨(some 5),.mov (.tmp 7),none⟩])
 (.seq (.ops [⟨(some 8),.func (.func 101) [] [(.tmp 2),(.tmp 3)],none⟩,
 ⟨(some 6),.mov (.tmp 8),none⟩])
 (.seq (.draw [⟨(some 9),.load1 (.tmp 3),none⟩,
 ⟨(some 10),.loadN 2 (.tmp 2),none⟩,
 ⟨(some 11),.call 102 [(.tmp 10),(.const (.int .i64 1))],none⟩,
 ⟨(some 12),.aggr [(.int .i64 0),(.int .i64 0)] [(0,1,(.tmp 11)),(1,1,(.const (.int .i64 0)))],none⟩,
 ⟨(some 13),.mov (.tmp 5),none⟩,
 ⟨(some 14),.mov (.tmp 6),none⟩,
 ⟨(some 15),.call 103 [(.tmp 9),(.tmp 12),(.tmp 13),(.tmp 14)],none⟩,
 ⟨none,.store 3 (.tmp 4) (.tmp 15),none⟩]
 [⟨false,true,[false,false,false,false,false,false,false,false],[false,false,true,false,false,false,false,false]⟩,
 ⟨false,false,[false,false,false,false,false,false,false,false],[false,false,false,false,false,false,false,false]⟩,
 ⟨true,false,[false,false,false,false,false,false,false,false],[false,false,true,false,false,false,false,false]⟩,
 ⟨false,false,[false,false,true,false,false,false,false,false],[false,false,true,false,false,false,false,false]⟩,
 ⟨false,true,[false,false,false,false,false,false,false,false],[false,false,true,false,false,false,false,false]⟩,
 ⟨false,true,[false,false,false,false,false,false,false,false],[false,false,true,false,false,false,false,false]⟩,
 ⟨true,false,[false,false,true,false,false,false,false,false],[false,false,true,false,false,false,true,false]⟩,
 ⟨true,false,[false,false,true,false,false,false,true,false],[false,false,true,false,false,false,true,true]⟩])
 .ret))))
theorem enter85 {xs : List Value} {h : Hp} {Q : Value → Hp → Prop} (hl : xs.length ≤ 16) (w : wq E 16 none c85 (frameOf xs) h [] (leaveQ E [.cell 4 25] Q)) : CallP E 85 xs h Q :=
  CallP.enterQ (fn := Try.f85) (fn_get Try.func85) (code := Try.f85.body.get rfl) rfl rfl rfl (by kernel_rfl) rfl (fun _ => rfl) hl w
theorem can85 : callable E 85 = true := callable_get Try.func85 rfl rfl
def c89 : C := (.seq (.ops [⟨(some 2),.mov (.const (.bool false)),none⟩])
 (.seq (.ops [⟨(some 3),.mov (.tmp 0),none⟩,
 ⟨(some 4),.call 79 [(.tmp 3)],none⟩,
 ⟨(some 5),.not (.tmp 4),none⟩,
 ⟨(some 2),.mov (.tmp 5),none⟩])
 .ret))
theorem enter89 {xs : List Value} {h : Hp} {Q : Value → Hp → Prop} (hl : xs.length ≤ 6) (w : wq E 6 none c89 (frameOf xs) h [] (leaveQ E [.tmp 2] Q)) : CallP E 89 xs h Q :=
  CallP.enterQ (fn := Try.f89) (fn_get Try.func89) (code := Try.f89.body.get rfl) rfl rfl rfl (by kernel_rfl) rfl (fun _ => rfl) hl w
theorem can89 : callable E 89 = true := callable_get Try.func89 rfl rfl
def c90 : C := (.seq (.ops [⟨(some 4),.mov (.const (.int .i64 0)),none⟩])
 (.seq (.seq (.ops [⟨(some 6),.mov (.tmp 0),none⟩,
 ⟨(some 7),.lenS (.tmp 6),none⟩,
 ⟨(some 8),.mov (.const (.int .i64 0)),none⟩])
 (.block 0 (.loop (.seq (.ops [⟨(some 9),.ar .i64 .lss (.tmp 8) (.tmp 7),none⟩])
 (.seq (.cond (.tmp 9) .skip
 (.exit 0))
 (.seq (.block 1 (.seq (.ops [⟨(some 10),.mov (.tmp 8),none⟩,
 ⟨(some 5),.mov (.tmp 10),none⟩])
 (.seq (.ops [⟨(some 11),.mov (.tmp 1),none⟩,
 ⟨(some 12),.mov (.tmp 0),none⟩,
 ⟨(some 13),.mov (.tmp 5),none⟩,
 ⟨(some 14),.idxS 1 (.tmp 12) (.tmp 13),none⟩,
 ⟨(some 15),.load1 (.tmp 14),none⟩,
 ⟨(some 16),.callv (.tmp 11) [(.tmp 15)],none⟩])
 (.cond (.tmp 16) (.seq (.ops [⟨(some 17),.mov (.tmp 5),none⟩,
 ⟨(some 4),.mov (.tmp 17),none⟩])
 .ret)
 .skip))))
 (.ops [⟨(some 18),.ar .i64 .add (.tmp 8) (.const (.int .i64 1)),none⟩,
 ⟨(some 8),.mov (.tmp 18),none⟩])))))))
 (.seq (.ops [⟨(some 4),.mov (.const (.int .i64 (-1))),none⟩])
 .ret)))
theorem enter90 {xs : List Value} {h : Hp} {Q : Value → Hp → Prop} (hl : xs.length ≤ 19) (w : wq E 19 none c90 (frameOf xs) h [] (leaveQ E [.tmp 4] Q)) : CallP E 90 xs h Q :=
  CallP.enterQ (fn := Try.f90) (fn_get Try.func90) (code := Try.f90.body.get rfl) rfl rfl rfl (by kernel_rfl) rfl (fun _ => rfl) hl w
theorem can90 : callable E 90 = true := callable_get Try.func90 rfl rfl
def c91 : C := (.seq (.ops [⟨(some 2),.box 2 (.tmp 0),none⟩,
 ⟨(some 3),.box 3 (.tmp 1),none⟩,
 ⟨(some 4),.mov (.const .nilFunc),none⟩])
 (.seq (.ops [⟨(some 5),.func (.func 104) [] [(.tmp 2),(.tmp 3)],none⟩,
 ⟨(some 4),.mov (.tmp 5),none⟩])
 .ret))
theorem enter91 {xs : List Value} {h : Hp} {Q : Value → Hp → Prop} (hl : xs.length ≤ 6) (w : wq E 6 none c91 (frameOf xs) h [] (leaveQ E [.tmp 4] Q)) : CallP E 91 xs h Q :=
  CallP.enterQ (fn := Try.f91) (fn_get Try.func91) (code := Try.f91.body.get rfl) rfl rfl rfl (by kernel_rfl) rfl (fun _ => rfl) hl w
theorem can91 : callable E 91 = true := callable_get Try.func91 rfl rfl
def c92 : C := (.seq (.ops [⟨(some 1),.box 25 (.tmp 0),none⟩,
 ⟨(some 2),.mov (.const (.slice none 0 0)),none⟩])
 (.seq (.ops [⟨(some 8),.loadN 3 (.tmp 1),none⟩,
 ⟨(some 9),.fldA 1 (.tmp 1),none⟩,
 ⟨(some 10),.load1 (.tmp 9),none⟩,
 ⟨(some 11),.call 105 [(.tmp 8),(.tmp 10)],none⟩,
 ⟨(some 7),.mov (.tmp 11),none⟩,
 ⟨(some 12),.ext (.tmp 7) 0,none⟩,
 ⟨(some 13),.ext (.tmp 7) 1,none⟩,
 ⟨(some 3),.mov (.tmp 12),none⟩,
 ⟨(some 4),.mov (.tmp 13),none⟩])
 (.block 0 (.loop (.block 1 (.seq (.ops [⟨(some 15),.loadN 3 (.tmp 1),none⟩,
 ⟨(some 16),.mov (.tmp 3),none⟩,
 ⟨(some 17),.call 105 [(.tmp 15),(.tmp 16)],none⟩,
 ⟨(some 14),.mov (.tmp 17),none⟩,
 ⟨(some 18),.ext (.tmp 14) 0,none⟩,
 ⟨(some 19),.ext (.tmp 14) 1,none⟩,
 ⟨(some 5),.mov (.tmp 18),none⟩,
 ⟨(some 6),.mov (.tmp 19),none⟩])
 (.seq (.seq (.ops [⟨(some 20),.mov (.tmp 6),none⟩,
 ⟨(some 21),.mov (.tmp 4),none⟩,
 ⟨(some 22),.ar .i64 .eql (.tmp 20) (.tmp 21),none⟩])
 (.cond (.tmp 22) (.seq (.ops [⟨(some 23),.mov (.tmp 3),none⟩,
 ⟨(some 2),.mov (.tmp 23),none⟩])
 .ret)
 .skip))
 (.ops [⟨(some 24),.mov (.tmp 5),none⟩,
 ⟨(some 25),.mov (.tmp 6),none⟩,
 ⟨(some 3),.mov (.tmp 24),none⟩,
 ⟨(some 4),.mov (.tmp 25),none⟩]))))))))
theorem enter92 {xs : List Value} {h : Hp} {Q : Value → Hp → Prop} (hl : xs.length ≤ 26) (w : wq E 26 none c92 (frameOf xs) h [] (leaveQ E [.tmp 2] Q)) : CallP E 92 xs h Q :=
  CallP.enterQ (fn := Try.f92) (fn_get Try.func92) (code := Try.f92.body.get rfl) rfl rfl rfl (by kernel_rfl) rfl (fun _ => rfl) hl w
theorem can92 : callable E 92 = true := callable_get Try.func92 rfl rfl
def c93 : C := (.seq (.ops [⟨(some 4),.mov (.const (.int .i64 0)),none⟩])
 (.seq (.ops [⟨(some 5),.fldA 1 (.tmp 1),none⟩,
 ⟨(some 6),.load1 (.tmp 5),none⟩,
 ⟨(some 7),.load1 (.tmp 2),none⟩,
 ⟨(some 8),.mov (.tmp 0),none⟩,
 ⟨(some 9),.raw (.lookup 114 (.tmp 7) (.tmp 8) false) 3,none⟩,
 ⟨(some 10),.idxS 1 (.tmp 6) (.tmp 9),none⟩,
 ⟨(some 11),.load1 (.tmp 10),none⟩,
 ⟨(some 4),.mov (.tmp 11),none⟩])
 .ret))
theorem enter93 {xs : List Value} {h : Hp} {Q : Value → Hp → Prop} (hl : xs.length ≤ 12) (w : wq E 12 none c93 (frameOf xs) h [] (leaveQ E [.tmp 4] Q)) : CallP E 93 xs h Q :=
  CallP.enterQ (fn := Try.f93) (fn_get Try.func93) (code := Try.f93.body.get rfl) rfl rfl rfl (by kernel_rfl) rfl (fun _ => rfl) hl w
theorem can93 : callable E 93 = true := callable_get Try.func93 rfl rfl
def c94 : C := (.seq (.ops [⟨(some 7),.mov (.const (.int .i64 0)),none⟩])
 (.seq (.ops [⟨(some 8),.load1 (.tmp 2),none⟩,
 ⟨(some 9),.fldA 2 (.tmp 3),none⟩,
 ⟨(some 10),.load1 (.tmp 9),none⟩,
 ⟨(some 11),.load1 (.tmp 4),none⟩,
 ⟨(some 12),.mov (.tmp 0),none⟩,
 ⟨(some 13),.raw (.lookup 114 (.tmp 11) (.tmp 12) false) 3,none⟩,
 ⟨(some 14),.idxS 1 (.tmp 10) (.tmp 13),none⟩,
 ⟨(some 15),.load1 (.tmp 14),none⟩,
 ⟨(some 16),.mov (.tmp 1),none⟩,
 ⟨(some 17),.idxS 1 (.tmp 15) (.tmp 16),none⟩,
 ⟨(some 18),.load1 (.tmp 17),none⟩,
 ⟨(some 19),.idxS 1 (.tmp 8) (.tmp 18),none⟩,
 ⟨(some 20),.load1 (.tmp 19),none⟩,
 ⟨(some 7),.mov (.tmp 20),none⟩])
 .ret))
theorem enter94 {xs : List Value} {h : Hp} {Q : Value → Hp → Prop} (hl : xs.length ≤ 21) (w : wq E 21 none c94 (frameOf xs) h [] (leaveQ E [.tmp 7] Q)) : CallP E 94 xs h Q :=
  CallP.enterQ (fn := Try.f94) (fn_get Try.func94) (code := Try.f94.body.get rfl) rfl rfl rfl (by kernel_rfl) rfl (fun _ => rfl) hl w
theorem can94 : callable E 94 = true := callable_get Try.func94 rfl rfl
def c95 : C := (.seq (.ops [⟨(some 2),.box 136 (.tmp 0),none⟩,
 ⟨(some 3),.mov (.const (.int .i64 0)),none⟩])
 (.seq (.ops [⟨(some 4),.loadN 3 (.tmp 1),none⟩,
 ⟨(some 5),.fldA 0 (.tmp 2),none⟩,
 ⟨(some 6),.load1 (.tmp 5),none⟩,
 ⟨(some 7),.fldA 1 (.tmp 2),none⟩,
 ⟨(some 8),.load1 (.tmp 7),none⟩,
 ⟨(some 9),.call 62 [(.tmp 4),(.tmp 6),(.tmp 8)],none⟩,
 ⟨(some 3),.mov (.tmp 9),none⟩])
 .ret))
theorem enter95 {xs : List Value} {h : Hp} {Q : Value → Hp → Prop} (hl : xs.length ≤ 10) (w : wq E 10 none c95 (frameOf xs) h [] (leaveQ E [.tmp 3] Q)) : CallP E 95 xs h Q :=
  CallP.enterQ (fn := Try.f95) (fn_get Try.func95) (code := Try.f95.body.get rfl) rfl rfl rfl (by kernel_rfl) rfl (fun _ => rfl) hl w
theorem can95 : callable E 95 = true := callable_get Try.func95 rfl rfl
def c96 : C := (.seq (.ops [⟨(some 4),.box 136 (.tmp 0),none⟩,
 ⟨(some 6),.alloc 136 [(.int .i64 0),(.int .i64 0)],none⟩])
 (.seq (.ops [⟨(some 8),.load1 (.tmp 2),none⟩,
 ⟨(some 9),.mov (.tmp 1),none⟩,
 ⟨(some 10),.ar .i64 .mul (.tmp 8) (.tmp 9),none⟩,
 ⟨(some 11),.fldA 1 (.tmp 4),none⟩,
 ⟨(some 12),.load1 (.tmp 11),none⟩,
 ⟨(some 13),.ar .i64 .add (.tmp 10) (.tmp 12),none⟩,
 ⟨(some 7),.mov (.tmp 13),none⟩])
 (.seq (.ops [⟨(some 14),.fldA 2 (.tmp 3),none⟩,
 ⟨(some 15),.load1 (.tmp 14),none⟩,
 ⟨(some 16),.fldA 0 (.tmp 4),none⟩,
 ⟨(some 17),.load1 (.tmp 16),none⟩,
 ⟨(some 18),.idxS 1 (.tmp 15) (.tmp 17),none⟩,
 ⟨(some 19),.load1 (.tmp 18),none⟩,
 ⟨(some 20),.mov (.tmp 7),none⟩,
 ⟨(some 21),.fldA 0 (.tmp 3),none⟩,
 ⟨(some 22),.load1 (.tmp 21),none⟩,
 ⟨(some 23),.ar .i64 .rem (.tmp 20) (.tmp 22),none⟩,
 ⟨(some 24),.idxS 1 (.tmp 19) (.tmp 23),none⟩,
 ⟨(some 25),.load1 (.tmp 24),none⟩,
 ⟨(some 26),.mov (.tmp 7),none⟩,
 ⟨(some 27),.fldA 0 (.tmp 3),none⟩,
 ⟨(some 28),.load1 (.tmp 27),none⟩,
 ⟨(some 29),.ar .i64 .quo (.tmp 26) (.tmp 28),none⟩,
 ⟨(some 30),.aggr [(.int .i64 0),(.int .i64 0)] [(0,1,(.tmp 25)),(1,1,(.tmp 29))],none⟩,
 ⟨none,.store 2 (.tmp 6) (.tmp 30),none⟩])
 .ret)))
theorem enter96 {xs : List Value} {h : Hp} {Q : Value → Hp → Prop} (hl : xs.length ≤ 31) (w : wq E 31 none c96 (frameOf xs) h [] (leaveQ E [.cell 6 136] Q)) : CallP E 96 xs h Q :=
  CallP.enterQ (fn := Try.f96) (fn_get Try.func96) (code := Try.f96.body.get rfl) rfl rfl rfl (by kernel_rfl) rfl (fun _ => rfl) hl w
theorem can96 : callable E 96 = true := callable_get Try.func96 rfl rfl
def c97 : C := (.seq (.ops [⟨(some 5),.box 136 (.tmp 1),none⟩,
 ⟨(some 8),.alloc 25 [(.int .i64 0),(.slice none 0 0),(.slice none 0 0)],none⟩])
 (.seq (.ops [⟨(some 18),.mov (.tmp 0),none⟩,
 ⟨(some 19),.aggr [(.int .i64 0),(.slice none 0 0),(.slice none 0 0)] [(0,1,(.tmp 18))],none⟩,
 ⟨(some 9),.alloc 25 [(.int .i64 0),(.slice none 0 0),(.slice none 0 0)],none⟩,
 ⟨none,.store 3 (.tmp 9) (.tmp 19),none⟩])
 (.seq (.ops [⟨(some 20),.newMap,none⟩,
 ⟨(some 21),.loadN 2 (.tmp 5),none⟩,
 ⟨none,.raw (.insert 153 (.tmp 20) (.tmp 21) (.const (.int .i64 0))) 0,none⟩,
 ⟨(some 22),.mov (.tmp 20),none⟩,
 ⟨(some 10),.mov (.tmp 22),none⟩])
 (.seq (.ops [⟨(some 23),.loadN 2 (.tmp 5),none⟩,
 ⟨(some 24),.slit 136 1 [(.int .i64 0),(.int .i64 0)] [(0,2,(.tmp 23))],none⟩,
 ⟨(some 11),.mov (.tmp 24),none⟩])
 (.seq (.seq (.ops [⟨(some 12),.mov (.const (.int .i64 0)),none⟩])
 (.block 0 (.loop (.seq (.seq (.ops [⟨(some 25),.mov (.tmp 12),none⟩,
 ⟨(some 26),.mov (.tmp 11),none⟩,
 ⟨(some 27),.lenS (.tmp 26),none⟩,
 ⟨(some 28),.ar .i64 .lss (.tmp 25) (.tmp 27),none⟩])
 (.cond (.tmp 28) .skip
 (.exit 0)))
 (.seq (.block 1 (.seq (.draw [⟨(some 31),.fldA 1 (.tmp 9),none⟩,
 ⟨(some 32),.load1 (.tmp 31),none⟩,
 ⟨(some 33),.mov (.tmp 2),none⟩,
 ⟨(some 34),.mov (.tmp 11),none⟩,
 ⟨(some 35),.mov (.tmp 12),none⟩,
 ⟨(some 36),.idxS 2 (.tmp 34) (.tmp 35),none⟩,
 ⟨(some 37),.loadN 2 (.tmp 36),none⟩,
 ⟨(some 38),.callv (.tmp 33) [(.tmp 37)],none⟩,
 ⟨(some 39),.slit 3 1 [(.int .i64 0)] [(0,1,(.tmp 38))],none⟩,
 ⟨(some 40),.append 3 1 8 (.tmp 32) (.tmp 39),none⟩,
 ⟨(some 41),.fldA 1 (.tmp 9),none⟩,
 ⟨none,.store 1 (.tmp 41) (.tmp 40),none⟩]
 [⟨false,true,[false,false,false,false,false,false,false,false,false,false,false,false],[false,false,false,false,false,false,false,true,true,false,false,false]⟩,
 ⟨false,true,[false,false,false,false,false,false,false,false,false,false,false,false],[false,false,false,false,false,false,false,true,true,false,false,false]⟩,
 ⟨false,false,[false,false,false,false,false,false,false,false,false,false,false,false],[false,false,false,false,false,false,false,false,false,false,false,false]⟩,
 ⟨false,false,[false,false,false,false,false,false,false,false,false,false,false,false],[false,false,false,false,false,false,false,false,false,false,false,false]⟩,
 ⟨false,false,[false,false,false,false,false,false,false,false,false,false,false,false],[false,false,false,false,false,false,false,false,false,false,false,false]⟩,
 ⟨false,false,[false,false,false,false,false,false,false,false,false,false,false,false],[false,false,false,false,false,false,false,false,false,false,false,false]⟩,
 ⟨false,false,[false,false,false,false,false,false,false,false,false,false,false,false],[false,false,false,false,false,false,false,false,false,false,false,false]⟩,
 ⟨true,false,[false,false,false,false,false,false,false,false,false,false,false,false],[false,false,false,false,false,false,false,true,false,false,false,false]⟩,
 ⟨true,false,[false,false,false,false,false,false,false,true,false,false,false,false],[false,false,false,false,false,false,false,true,true,false,false,false]⟩,
 ⟨true,false,[false,false,false,false,false,false,false,true,true,false,false,false],[false,false,false,false,false,false,false,true,true,true,false,false]⟩,
 ⟨false,false,[false,false,false,false,false,false,false,true,true,true,false,false],[false,false,false,false,false,false,false,true,true,true,false,false]⟩,
 ⟨true,false,[false,false,false,false,false,false,false,true,true,true,false,false],[false,false,false,false,false,false,false,true,true,true,false,true]⟩])
 (.seq (.ops [⟨(some 42),.mov (.tmp 0),none⟩,
 ⟨(some 43),.make 3 [(.int .i64 0)] 8 (.tmp 42) (.tmp 42),none⟩,
 ⟨(some 13),.mov (.tmp 43),none⟩])
 (.seq (.seq (.ops [⟨(some 44),.mov (.tmp 13),none⟩,
 ⟨(some 45),.lenS (.tmp 44),none⟩,
 ⟨(some 46),.mov (.const (.int .i64 0)),none⟩])
 (.block 2 (.loop (.seq (.ops [⟨(some 47),.ar .i64 .lss (.tmp 46) (.tmp 45),none⟩])
 (.seq (.cond (.tmp 47) .skip
 (.exit 2))
 (.seq (.block 3 (.seq (.ops [⟨(some 48),.mov (.tmp 46),none⟩,
 ⟨(some 14),.mov (.tmp 48),none⟩])
 (.seq (.ops [⟨(some 49),.mov (.tmp 3),none⟩,
 ⟨(some 50),.mov (.tmp 11),none⟩,
 ⟨(some 51),.mov (.tmp 12),none⟩,
 ⟨(some 52),.idxS 2 (.tmp 50) (.tmp 51),none⟩,
 ⟨(some 53),.loadN 2 (.tmp 52),none⟩,
 ⟨(some 54),.mov (.tmp 14),none⟩,
 ⟨(some 55),.callv (.tmp 49) [(.tmp 53),(.tmp 54)],none⟩,
 ⟨(some 15),.alloc 136 [(.int .i64 0),(.int .i64 0)],none⟩,
 ⟨none,.store 2 (.tmp 15) (.tmp 55),none⟩])
 (.seq (.seq (.ops [⟨(some 57),.mov (.tmp 10),none⟩,
 ⟨(some 58),.loadN 2 (.tmp 15),none⟩,
 ⟨(some 59),.raw (.lookup 153 (.tmp 57) (.tmp 58) true) 115,none⟩,
 ⟨(some 56),.mov (.tmp 59),none⟩,
 ⟨(some 60),.ext (.tmp 56) 0,none⟩,
 ⟨(some 61),.ext (.tmp 56) 1,none⟩,
 ⟨(some 16),.mov (.tmp 60),none⟩,
 ⟨(some 17),.mov (.tmp 61),none⟩])
 (.seq (.ops [⟨(some 62),.mov (.tmp 17),none⟩,
 ⟨(some 63),.not (.tmp 62),none⟩])
 (.cond (.tmp 63) (.seq (.ops [⟨(some 64),.mov (.tmp 10),none⟩,
 ⟨(some 65),.loadN 2 (.tmp 15),none⟩,
 ⟨(some 66),.mov (.tmp 11),none⟩,
 ⟨(some 67),.lenS (.tmp 66),none⟩,
 ⟨none,.raw (.mapUpdate 153 (.tmp 64) (.tmp 65) (.tmp 67)) 0,none⟩])
 (.ops [⟨(some 68),.mov (.tmp 11),none⟩,
 ⟨(some 69),.loadN 2 (.tmp 15),none⟩,
 ⟨(some 70),.slit 136 1 [(.int .i64 0),(.int .i64 0)] [(0,2,(.tmp 69))],none⟩,
 ⟨(some 71),.append 136 2 16 (.tmp 68) (.tmp 70),none⟩,
 ⟨(some 11),.mov (.tmp 71),none⟩]))
 .skip)))
 (.ops [⟨(some 72),.mov (.tmp 13),none⟩,
 ⟨(some 73),.mov (.tmp 14),none⟩,
 ⟨(some 74),.mov (.tmp 10),none⟩,
 ⟨(some 75),.loadN 2 (.tmp 15),none⟩,
 ⟨(some 76),.raw (.lookup 153 (.tmp 74) (.tmp 75) false) 3,none⟩,
 ⟨(some 77),.idxS 1 (.tmp 72) (.tmp 73),none⟩,
 ⟨none,.store 1 (.tmp 77) (.tmp 76),none⟩])))))
 (.ops [⟨(some 78),.ar .i64 .add (.tmp 46) (.const (.int .i64 1)),none⟩,
 ⟨(some 46),.mov (.tmp 78),none⟩])))))))
 (.ops [⟨(some 79),.fldA 2 (.tmp 9),none⟩,
 ⟨(some 80),.load1 (.tmp 79),none⟩,
 ⟨(some 81),.mov (.tmp 13),none⟩,
 ⟨(some 82),.slit 22 1 [(.slice none 0 0)] [(0,1,(.tmp 81))],none⟩,
 ⟨(some 83),.append 22 1 24 (.tmp 80) (.tmp 82),none⟩,
 ⟨(some 84),.fldA 2 (.tmp 9),none⟩,
 ⟨none,.store 1 (.tmp 84) (.tmp 83),none⟩])))))
 (.ops [⟨(some 29),.mov (.tmp 12),none⟩,
 ⟨(some 30),.ar .i64 .add (.tmp 29) (.const (.int .i64 1)),none⟩,
 ⟨(some 12),.mov (.tmp 30),none⟩]))))))
 (.seq (.ops [⟨(some 85),.loadN 3 (.tmp 9),none⟩,
 ⟨none,.store 3 (.tmp 8) (.tmp 85),none⟩])
 .ret))))))
theorem enter97 {xs : List Value} {h : Hp} {Q : Value → Hp → Prop} (hl : xs.length ≤ 86) (w : wq E 86 none c97 (frameOf xs) h [] (leaveQ E [.cell 8 25] Q)) : CallP E 97 xs h Q :=
  CallP.enterQ (fn := Try.f97) (fn_get Try.func97) (code := Try.f97.body.get rfl) rfl rfl rfl (by kernel_rfl) rfl (fun _ => rfl) hl w
theorem can97 : callable E 97 = true := callable_get Try.func97 rfl rfl
def c98 : C := (.seq (.ops [⟨(some 3),.box 25 (.tmp 0),none⟩,
 ⟨(some 6),.mov (.const (.int .i64 0)),none⟩])
 (.seq (.ops [⟨(some 7),.mov (.const (.int .i64 (-1))),none⟩])
 (.seq (.seq (.ops [⟨(some 11),.fldA 2 (.tmp 3),none⟩,
 ⟨(some 12),.load1 (.tmp 11),none⟩,
 ⟨(some 13),.mov (.tmp 2),none⟩,
 ⟨(some 14),.idxS 1 (.tmp 12) (.tmp 13),none⟩,
 ⟨(some 15),.load1 (.tmp 14),none⟩,
 ⟨(some 16),.lenS (.tmp 15),none⟩,
 ⟨(some 17),.mov (.const (.int .i64 0)),none⟩])
 (.block 0 (.loop (.seq (.ops [⟨(some 18),.ar .i64 .lss (.tmp 17) (.tmp 16),none⟩])
 (.seq (.cond (.tmp 18) .skip
 (.exit 0))
 (.seq (.block 1 (.seq (.ops [⟨(some 19),.mov (.tmp 17),none⟩,
 ⟨(some 20),.idxS 1 (.tmp 15) (.tmp 17),none⟩,
 ⟨(some 21),.load1 (.tmp 20),none⟩,
 ⟨(some 8),.mov (.tmp 19),none⟩,
 ⟨(some 9),.mov (.tmp 21),none⟩])
 (.seq (.seq (.ops [⟨(some 22),.mov (.tmp 1),none⟩,
 ⟨(some 23),.mov (.tmp 9),none⟩,
 ⟨(some 24),.idxS 1 (.tmp 22) (.tmp 23),none⟩,
 ⟨(some 25),.load1 (.tmp 24),none⟩,
 ⟨(some 26),.ar .i64 .lss (.tmp 25) (.const (.int .i64 0)),none⟩])
 (.cond (.tmp 26) (.exit 1)
 .skip))
 (.seq (.ops [⟨(some 27),.mov (.tmp 1),none⟩,
 ⟨(some 28),.mov (.tmp 9),none⟩,
 ⟨(some 29),.idxS 1 (.tmp 27) (.tmp 28),none⟩,
 ⟨(some 30),.load1 (.tmp 29),none⟩,
 ⟨(some 31),.fldA 0 (.tmp 3),none⟩,
 ⟨(some 32),.load1 (.tmp 31),none⟩,
 ⟨(some 33),.ar .i64 .mul (.tmp 30) (.tmp 32),none⟩,
 ⟨(some 34),.mov (.tmp 8),none⟩,
 ⟨(some 35),.ar .i64 .add (.tmp 33) (.tmp 34),none⟩,
 ⟨(some 10),.mov (.tmp 35),none⟩])
 (.seq (.ops [⟨(some 36),.mov (.tmp 7),none⟩,
 ⟨(some 37),.ar .i64 .lss (.tmp 36) (.const (.int .i64 0)),none⟩,
 ⟨(some 38),.mov (.tmp 37),none⟩,
 ⟨(some 39),.mov (.tmp 10),(some (38,false))⟩,
 ⟨(some 40),.mov (.tmp 7),(some (38,false))⟩,
 ⟨(some 41),.ar .i64 .lss (.tmp 39) (.tmp 40),(some (38,false))⟩,
 ⟨(some 42),.pick (.tmp 38) (.const (.bool true)) (.tmp 41),none⟩])
 (.cond (.tmp 42) (.ops [⟨(some 43),.mov (.tmp 10),none⟩,
 ⟨(some 7),.mov (.tmp 43),none⟩])
 .skip))))))
 (.ops [⟨(some 44),.ar .i64 .add (.tmp 17) (.const (.int .i64 1)),none⟩,
 ⟨(some 17),.mov (.tmp 44),none⟩])))))))
 (.seq (.ops [⟨(some 45),.mov (.tmp 7),none⟩,
 ⟨(some 6),.mov (.tmp 45),none⟩])
 .ret))))
theorem enter98 {xs : List Value} {h : Hp} {Q : Value → Hp → Prop} (hl : xs.length ≤ 46) (w : wq E 46 none c98 (frameOf xs) h [] (leaveQ E [.tmp 6] Q)) : CallP E 98 xs h Q :=
  CallP.enterQ (fn := Try.f98) (fn_get Try.func98) (code := Try.f98.body.get rfl) rfl rfl rfl (by kernel_rfl) rfl (fun _ => rfl) hl w
theorem can98 : callable E 98 = true := callable_get Try.func98 rfl rfl
def c99 : C := (.seq (.ops [⟨(some 2),.mov (.const (.string ⟨⟨[]⟩⟩)),none⟩])
 (.seq (.ops [⟨(some 3),.mov (.tmp 0),none⟩,
 ⟨(some 4),.ar .i64 .rem (.tmp 3) (.const (.int .i64 256)),none⟩,
 ⟨(some 5),.cint .u8 (.tmp 4),none⟩,
 ⟨(some 6),.mov (.tmp 0),none⟩,
 ⟨(some 7),.ar .i64 .quo (.tmp 6) (.const (.int .i64 256)),none⟩,
 ⟨(some 8),.cint .u8 (.tmp 7),none⟩,
 ⟨(some 9),.slit 5 3 [(.int .u8 0),(.int .u8 0),(.int .u8 0)] [(0,1,(.tmp 5)),(1,1,(.tmp 8)),(2,1,(.const (.int .u8 44)))],none⟩,
 ⟨(some 10),.raw (.convert 155 9 (.tmp 9)) 9,none⟩,
 ⟨(some 2),.mov (.tmp 10),none⟩])
 .ret))
theorem enter99 {xs : List Value} {h : Hp} {Q : Value → Hp → Prop} (hl : xs.length ≤ 11) (w : wq E 11 none c99 (frameOf xs) h [] (leaveQ E [.tmp 2] Q)) : CallP E 99 xs h Q :=
  CallP.enterQ (fn := Try.f99) (fn_get Try.func99) (code := Try.f99.body.get rfl) rfl rfl rfl (by kernel_rfl) rfl (fun _ => rfl) hl w
theorem can99 : callable E 99 = true := callable_get Try.func99 rfl rfl
def c100 : C := (.seq (.ops [⟨(some 2),.box 147 (.tmp 0),none⟩,
 ⟨(some 3),.mov (.const (.int .i64 0)),none⟩])
 (.seq (.ops [⟨(some 4),.fldA 0 (.tmp 1),none⟩,
 ⟨(some 5),.load1 (.tmp 4),none⟩,
 ⟨(some 6),.fldA 1 (.tmp 2),none⟩,
 ⟨(some 7),.load1 (.tmp 6),none⟩,
 ⟨(some 8),.idxS 1 (.tmp 5) (.tmp 7),none⟩,
 ⟨(some 9),.load1 (.tmp 8),none⟩,
 ⟨(some 3),.mov (.tmp 9),none⟩])
 .ret))
theorem enter100 {xs : List Value} {h : Hp} {Q : Value → Hp → Prop} (hl : xs.length ≤ 10) (w : wq E 10 none c100 (frameOf xs) h [] (leaveQ E [.tmp 3] Q)) : CallP E 100 xs h Q :=
  CallP.enterQ (fn := Try.f100) (fn_get Try.func100) (code := Try.f100.body.get rfl) rfl rfl rfl (by kernel_rfl) rfl (fun _ => rfl) hl w
theorem can100 : callable E 100 = true := callable_get Try.func100 rfl rfl
def c101 : C := (.seq (.ops [⟨(some 4),.box 147 (.tmp 0),none⟩,
 ⟨(some 6),.alloc 147 [(.int .i64 0),(.int .i64 0)],none⟩])
 (.seq (.draw [⟨(some 7),.loadN 2 (.tmp 2),none⟩,
 ⟨(some 8),.fldA 0 (.tmp 4),none⟩,
 ⟨(some 9),.load1 (.tmp 8),none⟩,
 ⟨(some 10),.load1 (.tmp 3),none⟩,
 ⟨(some 11),.ar .i64 .mul (.tmp 9) (.tmp 10),none⟩,
 ⟨(some 12),.call 102 [(.tmp 7),(.tmp 11)],none⟩,
 ⟨(some 13),.loadN 2 (.tmp 2),none⟩,
 ⟨(some 14),.fldA 1 (.tmp 4),none⟩,
 ⟨(some 15),.load1 (.tmp 14),none⟩,
 ⟨(some 16),.fldA 0 (.tmp 4),none⟩,
 ⟨(some 17),.load1 (.tmp 16),none⟩,
 ⟨(some 18),.mov (.tmp 1),none⟩,
 ⟨(some 19),.ar .i64 .mul (.tmp 17) (.tmp 18),none⟩,
 ⟨(some 20),.ar .i64 .add (.tmp 15) (.tmp 19),none⟩,
 ⟨(some 21),.call 102 [(.tmp 13),(.tmp 20)],none⟩,
 ⟨(some 22),.aggr [(.int .i64 0),(.int .i64 0)] [(0,1,(.tmp 12)),(1,1,(.tmp 21))],none⟩,
 ⟨none,.store 2 (.tmp 6) (.tmp 22),none⟩]
 [⟨false,false,[false,false,false,false,false,false,false,false,false,false,false,false,false,false,false,false,false],[false,false,false,false,false,false,false,false,false,false,false,false,false,false,false,false,false]⟩,
 ⟨false,false,[false,false,false,false,false,false,false,false,false,false,false,false,false,false,false,false,false],[false,false,false,false,false,false,false,false,false,false,false,false,false,false,false,false,false]⟩,
 ⟨false,false,[false,false,false,false,false,false,false,false,false,false,false,false,false,false,false,false,false],[false,false,false,false,false,false,false,false,false,false,false,false,false,false,false,false,false]⟩,
 ⟨false,false,[false,false,false,false,false,false,false,false,false,false,false,false,false,false,false,false,false],[false,false,false,false,false,false,false,false,false,false,false,false,false,false,false,false,false]⟩,
 ⟨false,false,[false,false,false,false,false,false,false,false,false,false,false,false,false,false,false,false,false],[false,false,false,false,false,false,false,false,false,false,false,false,false,false,false,false,false]⟩,
 ⟨true,false,[false,false,false,false,false,false,false,false,false,false,false,false,false,false,false,false,false],[false,false,false,false,false,true,false,false,false,false,false,false,false,false,false,false,false]⟩,
 ⟨false,true,[false,false,false,false,false,false,false,false,false,false,false,false,false,false,false,false,false],[false,false,false,false,false,true,false,false,false,false,false,false,false,false,false,false,false]⟩,
 ⟨false,true,[false,false,false,false,false,false,false,false,false,false,false,false,false,false,false,false,false],[false,false,false,false,false,true,false,false,false,false,false,false,false,false,false,false,false]⟩,
 ⟨false,true,[false,false,false,false,false,false,false,false,false,false,false,false,false,false,false,false,false],[false,false,false,false,false,true,false,false,false,false,false,false,false,false,false,false,false]⟩,
 ⟨false,true,[false,false,false,false,false,false,false,false,false,false,false,false,false,false,false,false,false],[false,false,false,false,false,true,false,false,false,false,false,false,false,false,false,false,false]⟩,
 ⟨false,true,[false,false,false,false,false,false,false,false,false,false,false,false,false,false,false,false,false],[false,false,false,false,false,true,false,false,false,false,false,false,false,false,false,false,false]⟩,
 ⟨false,true,[false,false,false,false,false,false,false,false,false,false,false,false,false,false,false,false,false],[false,false,false,false,false,true,false,false,false,false,false,false,false,false,false,false,false]⟩,
 ⟨false,true,[false,false,false,false,false,false,false,false,false,false,false,false,false,false,false,false,false],[false,false,false,false,false,true,false,false,false,false,false,false,false,false,false,false,false]⟩,
 ⟨false,true,[false,false,false,false,false,false,false,false,false,false,false,false,false,false,false,false,false],[false,false,false,false,false,true,false,false,false,false,false,false,false,false,false,false,false]⟩,
 ⟨true,false,[false,false,false,false,false,true,false,false,false,false,false,false,false,false,false,false,false],[false,false,false,false,false,true,false,false,false,false,false,false,false,false,true,false,false]⟩,
 ⟨false,false,[false,false,false,false,false,true,false,false,false,false,false,false,false,false,true,false,false],[false,false,false,false,false,true,false,false,false,false,false,false,false,false,true,false,false]⟩,
 ⟨true,false,[false,false,false,false,false,true,false,false,false,false,false,false,false,false,true,false,false],[false,false,false,false,false,true,false,false,false,false,false,false,false,false,true,false,true]⟩])
 .ret))
theorem enter101 {xs : List Value} {h : Hp} {Q : Value → Hp → Prop} (hl : xs.length ≤ 23) (w : wq E 23 none c101 (frameOf xs) h [] (leaveQ E [.cell 6 147] Q)) : CallP E 101 xs h Q :=
  CallP.enterQ (fn := Try.f101) (fn_get Try.func101) (code := Try.f101.body.get rfl) rfl rfl rfl (by kernel_rfl) rfl (fun _ => rfl) hl w
theorem can101 : callable E 101 = true := callable_get Try.func101 rfl rfl
def c102 : C := (.seq (.ops [⟨(some 2),.box 121 (.tmp 0),none⟩,
 ⟨(some 4),.mov (.const (.int .i64 0)),none⟩])
 (.seq (.seq (.ops [⟨(some 5),.mov (.tmp 1),none⟩,
 ⟨(some 6),.fldA 1 (.tmp 2),none⟩,
 ⟨(some 7),.load1 (.tmp 6),none⟩,
 ⟨(some 8),.ar .i64 .lss (.tmp 5) (.tmp 7),none⟩])
 (.cond (.tmp 8) (.seq (.ops [⟨(some 9),.mov (.tmp 1),none⟩,
 ⟨(some 4),.mov (.tmp 9),none⟩])
 .ret)
 .skip))
 (.seq (.ops [⟨(some 10),.fldA 1 (.tmp 2),none⟩,
 ⟨(some 11),.load1 (.tmp 10),none⟩,
 ⟨(some 12),.mov (.tmp 1),none⟩,
 ⟨(some 13),.fldA 1 (.tmp 2),none⟩,
 ⟨(some 14),.load1 (.tmp 13),none⟩,
 ⟨(some 15),.ar .i64 .sub (.tmp 12) (.tmp 14),none⟩,
 ⟨(some 16),.fldA 0 (.tmp 2),none⟩,
 ⟨(some 17),.load1 (.tmp 16),none⟩,
 ⟨(some 18),.lenS (.tmp 17),none⟩,
 ⟨(some 19),.fldA 1 (.tmp 2),none⟩,
 ⟨(some 20),.load1 (.tmp 19),none⟩,
 ⟨(some 21),.ar .i64 .sub (.tmp 18) (.tmp 20),none⟩,
 ⟨(some 22),.ar .i64 .rem (.tmp 15) (.tmp 21),none⟩,
 ⟨(some 23),.ar .i64 .add (.tmp 11) (.tmp 22),none⟩,
 ⟨(some 4),.mov (.tmp 23),none⟩])
 .ret)))
theorem enter102 {xs : List Value} {h : Hp} {Q : Value → Hp → Prop} (hl : xs.length ≤ 24) (w : wq E 24 none c102 (frameOf xs) h [] (leaveQ E [.tmp 4] Q)) : CallP E 102 xs h Q :=
  CallP.enterQ (fn := Try.f102) (fn_get Try.func102) (code := Try.f102.body.get rfl) rfl rfl rfl (by kernel_rfl) rfl (fun _ => rfl) hl w
theorem can102 : callable E 102 = true := callable_get Try.func102 rfl rfl
def c103 : C := (.seq (.ops [⟨(some 5),.box 147 (.tmp 1),none⟩,
 ⟨(some 8),.alloc 25 [(.int .i64 0),(.slice none 0 0),(.slice none 0 0)],none⟩])
 (.seq (.ops [⟨(some 18),.mov (.tmp 0),none⟩,
 ⟨(some 19),.aggr [(.int .i64 0),(.slice none 0 0),(.slice none 0 0)] [(0,1,(.tmp 18))],none⟩,
 ⟨(some 9),.alloc 25 [(.int .i64 0),(.slice none 0 0),(.slice none 0 0)],none⟩,
 ⟨none,.store 3 (.tmp 9) (.tmp 19),none⟩])
 (.seq (.ops [⟨(some 20),.newMap,none⟩,
 ⟨(some 21),.loadN 2 (.tmp 5),none⟩,
 ⟨none,.raw (.insert 156 (.tmp 20) (.tmp 21) (.const (.int .i64 0))) 0,none⟩,
 ⟨(some 22),.mov (.tmp 20),none⟩,
 ⟨(some 10),.mov (.tmp 22),none⟩])
 (.seq (.ops [⟨(some 23),.loadN 2 (.tmp 5),none⟩,
 ⟨(some 24),.slit 147 1 [(.int .i64 0),(.int .i64 0)] [(0,2,(.tmp 23))],none⟩,
 ⟨(some 11),.mov (.tmp 24),none⟩])
 (.seq (.seq (.ops [⟨(some 12),.mov (.const (.int .i64 0)),none⟩])
 (.block 0 (.loop (.seq (.seq (.ops [⟨(some 25),.mov (.tmp 12),none⟩,
 ⟨(some 26),.mov (.tmp 11),none⟩,
 ⟨(some 27),.lenS (.tmp 26),none⟩,
 ⟨(some 28),.ar .i64 .lss (.tmp 25) (.tmp 27),none⟩])
 (.cond (.tmp 28) .skip
 (.exit 0)))
 (.seq (.block 1 (.seq (.draw [⟨(some 31),.fldA 1 (.tmp 9),none⟩,
 ⟨(some 32),.load1 (.tmp 31),none⟩,
 ⟨(some 33),.mov (.tmp 2),none⟩,
 ⟨(some 34),.mov (.tmp 11),none⟩,
 ⟨(some 35),.mov (.tmp 12),none⟩,
 ⟨(some 36),.idxS 2 (.tmp 34) (.tmp 35),none⟩,
 ⟨(some 37),.loadN 2 (.tmp 36),none⟩,
 ⟨(some 38),.callv (.tmp 33) [(.tmp 37)],none⟩,
 ⟨(some 39),.slit 3 1 [(.int .i64 0)] [(0,1,(.tmp 38))],none⟩,
 ⟨(some 40),.append 3 1 8 (.tmp 32) (.tmp 39),none⟩,
 ⟨(some 41),.fldA 1 (.tmp 9),none⟩,
 ⟨none,.store 1 (.tmp 41) (.tmp 40),none⟩]
 [⟨false,true,[false,false,false,false,false,false,false,false,false,false,false,false],[false,false,false,false,false,false,false,true,true,false,false,false]⟩,
 ⟨false,true,[false,false,false,false,false,false,false,false,false,false,false,false],[false,false,false,false,false,false,false,true,true,false,false,false]⟩,
 ⟨false,false,[false,false,false,false,false,false,false,false,false,false,false,false],[false,false,false,false,false,false,false,false,false,false,false,false]⟩,
 ⟨false,false,[false,false,false,false,false,false,false,false,false,false,false,false],[false,false,false,false,false,false,false,false,false,false,false,false]⟩,
 ⟨false,false,[false,false,false,false,false,false,false,false,false,false,false,false],[false,false,false,false,false,false,false,false,false,false,false,false]⟩,
 ⟨false,false,[false,false,false,false,false,false,false,false,false,false,false,false],[false,false,false,false,false,false,false,false,false,false,false,false]⟩,
 ⟨false,false,[false,false,false,false,false,false,false,false,false,false,false,false],[false,false,false,false,false,false,false,false,false,false,false,false]⟩,
 ⟨true,false,[false,false,false,false,false,false,false,false,false,false,false,false],[false,false,false,false,false,false,false,true,false,false,false,false]⟩,
 ⟨true,false,[false,false,false,false,false,false,false,true,false,false,false,false],[false,false,false,false,false,false,false,true,true,false,false,false]⟩,
 ⟨true,false,[false,false,false,false,false,false,false,true,true,false,false,false],[false,false,false,false,false,false,false,true,true,true,false,false]⟩,
 ⟨false,false,[false,false,false,false,false,false,false,true,true,true,false,false],[false,false,false,false,false,false,false,true,true,true,false,false]⟩,
 ⟨true,false,[false,false,false,false,false,false,false,true,true,true,false,false],[false,false,false,false,false,false,false,true,true,true,false,true]⟩])
 (.seq (.ops [⟨(some 42),.mov (.tmp 0),none⟩,
 ⟨(some 43),.make 3 [(.int .i64 0)] 8 (.tmp 42) (.tmp 42),none⟩,
 ⟨(some 13),.mov (.tmp 43),none⟩])
 (.seq (.seq (.ops [⟨(some 44),.mov (.tmp 13),none⟩,
 ⟨(some 45),.lenS (.tmp 44),none⟩,
 ⟨(some 46),.mov (.const (.int .i64 0)),none⟩])
 (.block 2 (.loop (.seq (.ops [⟨(some 47),.ar .i64 .lss (.tmp 46) (.tmp 45),none⟩])
 (.seq (.cond (.tmp 47) .skip
 (.exit 2))
 (.seq (.block 3 (.seq (.ops [⟨(some 48),.mov (.tmp 46),none⟩,
 ⟨(some 14),.mov (.tmp 48),none⟩])
 (.seq (.ops [⟨(some 49),.mov (.tmp 3),none⟩,
 ⟨(some 50),.mov (.tmp 11),none⟩,
 ⟨(some 51),.mov (.tmp 12),none⟩,
 ⟨(some 52),.idxS 2 (.tmp 50) (.tmp 51),none⟩,
 ⟨(some 53),.loadN 2 (.tmp 52),none⟩,
 ⟨(some 54),.mov (.tmp 14),none⟩,
 ⟨(some 55),.callv (.tmp 49) [(.tmp 53),(.tmp 54)],none⟩,
 ⟨(some 15),.alloc 147 [(.int .i64 0),(.int .i64 0)],none⟩,
 ⟨none,.store 2 (.tmp 15) (.tmp 55),none⟩])
 (.seq (.seq (.ops [⟨(some 57),.mov (.tmp 10),none⟩,
 ⟨(some 58),.loadN 2 (.tmp 15),none⟩,
 ⟨(some 59),.raw (.lookup 156 (.tmp 57) (.tmp 58) true) 115,none⟩,
 ⟨(some 56),.mov (.tmp 59),none⟩,
 ⟨(some 60),.ext (.tmp 56) 0,none⟩,
 ⟨(some 61),.ext (.tmp 56) 1,none⟩,
 ⟨(some 16),.mov (.tmp 60),none⟩,
 ⟨(some 17),.mov (.tmp 61),none⟩])
 (.seq (.ops [⟨(some 62),.mov (.tmp 17),none⟩,
 ⟨(some 63),.not (.tmp 62),none⟩])
 (.cond (.tmp 63) (.seq (.ops [⟨(some 64),.mov (.tmp 10),none⟩,
 ⟨(some 65),.loadN 2 (.tmp 15),none⟩,
 ⟨(some 66),.mov (.tmp 11),none⟩,
 ⟨(some 67),.lenS (.tmp 66),none⟩,
 ⟨none,.raw (.mapUpdate 156 (.tmp 64) (.tmp 65) (.tmp 67)) 0,none⟩])
 (.ops [⟨(some 68),.mov (.tmp 11),none⟩,
 ⟨(some 69),.loadN 2 (.tmp 15),none⟩,
 ⟨(some 70),.slit 147 1 [(.int .i64 0),(.int .i64 0)] [(0,2,(.tmp 69))],none⟩,
 ⟨(some 71),.append 147 2 16 (.tmp 68) (.tmp 70),none⟩,
 ⟨(some 11),.mov (.tmp 71),none⟩]))
 .skip)))
 (.ops [⟨(some 72),.mov (.tmp 13),none⟩,
 ⟨(some 73),.mov (.tmp 14),none⟩,
 ⟨(some 74),.mov (.tmp 10),none⟩,
 ⟨(some 75),.loadN 2 (.tmp 15),none⟩,
 ⟨(some 76),.raw (.lookup 156 (.tmp 74) (.tmp 75) false) 3,none⟩,
 ⟨(some 77),.idxS 1 (.tmp 72) (.tmp 73),none⟩,
 ⟨none,.store 1 (.tmp 77) (.tmp 76),none⟩])))))
 (.ops [⟨(some 78),.ar .i64 .add (.tmp 46) (.const (.int .i64 1)),none⟩,
 ⟨(some 46),.mov (.tmp 78),none⟩])))))))
 (.ops [⟨(some 79),.fldA 2 (.tmp 9),none⟩,
 ⟨(some 80),.load1 (.tmp 79),none⟩,
 ⟨(some 81),.mov (.tmp 13),none⟩,
 ⟨(some 82),.slit 22 1 [(.slice none 0 0)] [(0,1,(.tmp 81))],none⟩,
 ⟨(some 83),.append 22 1 24 (.tmp 80) (.tmp 82),none⟩,
 ⟨(some 84),.fldA 2 (.tmp 9),none⟩,
 ⟨none,.store 1 (.tmp 84) (.tmp 83),none⟩])))))
 (.ops [⟨(some 29),.mov (.tmp 12),none⟩,
 ⟨(some 30),.ar .i64 .add (.tmp 29) (.const (.int .i64 1)),none⟩,
 ⟨(some 12),.mov (.tmp 30),none⟩]))))))
 (.seq (.ops [⟨(some 85),.loadN 3 (.tmp 9),none⟩,
 ⟨none,.store 3 (.tmp 8) (.tmp 85),none⟩])
 .ret))))))
theorem enter103 {xs : List Value} {h : Hp} {Q : Value → Hp → Prop} (hl : xs.length ≤ 86) (w : wq E 86 none c103 (frameOf xs) h [] (leaveQ E [.cell 8 25] Q)) : CallP E 103 xs h Q :=
  CallP.enterQ (fn := Try.f103) (fn_get Try.func103) (code := Try.f103.body.get rfl) rfl rfl rfl (by kernel_rfl) rfl (fun _ => rfl) hl w
theorem can103 : callable E 103 = true := callable_get Try.func103 rfl rfl
def c104 : C := (.block 0 (.loop (.seq (.seq (.ops [⟨(some 4),.load1 (.tmp 1),none⟩,
 ⟨(some 5),.ar .i64 .gtr (.tmp 4) (.const (.int .i64 0)),none⟩])
 (.cond (.tmp 5) .skip
 (.exit 0)))
 (.seq (.block 1 (.seq (.ops [⟨(some 9),.mov (.tmp 0),none⟩,
 ⟨(some 10),.load1 (.tmp 1),none⟩,
 ⟨(some 11),.load1 (.tmp 2),none⟩,
 ⟨(some 12),.ar .i64 .rem (.tmp 10) (.tmp 11),none⟩,
 ⟨(some 13),.callv (.tmp 9) [(.tmp 12)],none⟩,
 ⟨(some 14),.not (.tmp 13),none⟩])
 (.cond (.tmp 14) .ret
 .skip)))
 (.ops [⟨(some 6),.load1 (.tmp 1),none⟩,
 ⟨(some 7),.load1 (.tmp 2),none⟩,
 ⟨(some 8),.ar .i64 .quo (.tmp 6) (.tmp 7),none⟩,
 ⟨none,.store 1 (.tmp 1) (.tmp 8),none⟩])))))
theorem enter104 {xs : List Value} {h : Hp} {Q : Value → Hp → Prop} (hl : xs.length ≤ 15) (w : wq E 15 none c104 (frameOf xs) h [] (leaveQ E [] Q)) : CallP E 104 xs h Q :=
  CallP.enterQ (fn := Try.f104) (fn_get Try.func104) (code := Try.f104.body.get rfl) rfl rfl rfl (by kernel_rfl) rfl (fun _ => rfl) hl w
theorem can104 : callable E 104 = true := callable_get Try.func104 rfl rfl
def c105 : C := (.seq (.ops [⟨(some 2),.box 25 (.tmp 0),none⟩,
 ⟨(some 4),.mov (.const (.slice none 0 0)),none⟩,
 ⟨(some 5),.mov (.const (.int .i64 0)),none⟩])
 (.seq (.ops [⟨(some 12),.mov (.tmp 4),none⟩,
 ⟨(some 13),.mov (.tmp 1),none⟩,
 ⟨(some 14),.append 3 1 8 (.tmp 12) (.tmp 13),none⟩,
 ⟨(some 4),.mov (.tmp 14),none⟩])
 (.seq (.seq (.ops [⟨(some 15),.fldA 0 (.tmp 2),none⟩,
 ⟨(some 16),.load1 (.tmp 15),none⟩,
 ⟨(some 17),.mov (.const (.int .i64 0)),none⟩])
 (.block 0 (.loop (.seq (.ops [⟨(some 18),.ar .i64 .lss (.tmp 17) (.tmp 16),none⟩])
 (.seq (.cond (.tmp 18) .skip
 (.exit 0))
 (.seq (.block 1 (.seq (.ops [⟨(some 19),.mov (.tmp 17),none⟩,
 ⟨(some 6),.mov (.tmp 19),none⟩])
 (.seq (.ops [⟨(some 20),.newMap,none⟩,
 ⟨(some 7),.mov (.tmp 20),none⟩])
 (.seq (.seq (.ops [⟨(some 21),.mov (.tmp 4),none⟩,
 ⟨(some 22),.lenS (.tmp 21),none⟩,
 ⟨(some 23),.mov (.const (.int .i64 0)),none⟩])
 (.block 2 (.loop (.seq (.ops [⟨(some 24),.ar .i64 .lss (.tmp 23) (.tmp 22),none⟩])
 (.seq (.cond (.tmp 24) .skip
 (.exit 2))
 (.seq (.block 3 (.seq (.ops [⟨(some 25),.mov (.tmp 23),none⟩,
 ⟨(some 8),.mov (.tmp 25),none⟩])
 (.seq (.draw [⟨(some 26),.mov (.tmp 4),none⟩,
 ⟨(some 27),.mov (.tmp 8),none⟩,
 ⟨(some 28),.idxS 1 (.tmp 26) (.tmp 27),none⟩,
 ⟨(some 29),.load1 (.tmp 28),none⟩,
 ⟨(some 30),.mov (.tmp 1),none⟩,
 ⟨(some 31),.fldA 2 (.tmp 2),none⟩,
 ⟨(some 32),.load1 (.tmp 31),none⟩,
 ⟨(some 33),.mov (.tmp 8),none⟩,
 ⟨(some 34),.idxS 1 (.tmp 32) (.tmp 33),none⟩,
 ⟨(some 35),.load1 (.tmp 34),none⟩,
 ⟨(some 36),.mov (.tmp 6),none⟩,
 ⟨(some 37),.idxS 1 (.tmp 35) (.tmp 36),none⟩,
 ⟨(some 38),.load1 (.tmp 37),none⟩,
 ⟨(some 39),.idxS 1 (.tmp 30) (.tmp 38),none⟩,
 ⟨(some 40),.load1 (.tmp 39),none⟩,
 ⟨(some 41),.aggr [(.int .i64 0),(.int .i64 0)] [(0,1,(.tmp 29)),(1,1,(.tmp 40))],none⟩,
 ⟨(some 9),.alloc 106 [(.int .i64 0),(.int .i64 0)],none⟩,
 ⟨none,.store 2 (.tmp 9) (.tmp 41),none⟩]
 [⟨false,true,[false,false,false,false,false,false,false,false,false,false,false,false,false,false,false,false,false,false],[false,false,false,false,false,false,false,false,false,false,false,false,false,false,false,false,true,false]⟩,
 ⟨false,true,[false,false,false,false,false,false,false,false,false,false,false,false,false,false,false,false,false,false],[false,false,false,false,false,false,false,false,false,false,false,false,false,false,false,false,true,false]⟩,
 ⟨false,true,[false,false,false,false,false,false,false,false,false,false,false,false,false,false,false,false,false,false],[false,false,false,false,false,false,false,false,false,false,false,false,false,false,false,false,true,false]⟩,
 ⟨false,true,[false,false,false,false,false,false,false,false,false,false,false,false,false,false,false,false,false,false],[false,false,false,false,false,false,false,false,false,false,false,false,false,false,false,false,true,false]⟩,
 ⟨false,true,[false,false,false,false,false,false,false,false,false,false,false,false,false,false,false,false,false,false],[false,false,false,false,false,false,false,false,false,false,false,false,false,false,false,false,true,false]⟩,
 ⟨false,true,[false,false,false,false,false,false,false,false,false,false,false,false,false,false,false,false,false,false],[false,false,false,false,false,false,false,false,false,false,false,false,false,false,false,false,true,false]⟩,
 ⟨false,true,[false,false,false,false,false,false,false,false,false,false,false,false,false,false,false,false,false,false],[false,false,false,false,false,false,false,false,false,false,false,false,false,false,false,false,true,false]⟩,
 ⟨false,true,[false,false,false,false,false,false,false,false,false,false,false,false,false,false,false,false,false,false],[false,false,false,false,false,false,false,false,false,false,false,false,false,false,false,false,true,false]⟩,
 ⟨false,true,[false,false,false,false,false,false,false,false,false,false,false,false,false,false,false,false,false,false],[false,false,false,false,false,false,false,false,false,false,false,false,false,false,false,false,true,false]⟩,
 ⟨false,true,[false,false,false,false,false,false,false,false,false,false,false,false,false,false,false,false,false,false],[false,false,false,false,false,false,false,false,false,false,false,false,false,false,false,false,true,false]⟩,
 ⟨false,true,[false,false,false,false,false,false,false,false,false,false,false,false,false,false,false,false,false,false],[false,false,false,false,false,false,false,false,false,false,false,false,false,false,false,false,true,false]⟩,
 ⟨false,true,[false,false,false,false,false,false,false,false,false,false,false,false,false,false,false,false,false,false],[false,false,false,false,false,false,false,false,false,false,false,false,false,false,false,false,true,false]⟩,
 ⟨false,true,[false,false,false,false,false,false,false,false,false,false,false,false,false,false,false,false,false,false],[false,false,false,false,false,false,false,false,false,false,false,false,false,false,false,false,true,false]⟩,
 ⟨false,true,[false,false,false,false,false,false,false,false,false,false,false,false,false,false,false,false,false,false],[false,false,false,false,false,false,false,false,false,false,false,false,false,false,false,false,true,false]⟩,
 ⟨false,true,[false,false,false,false,false,false,false,false,false,false,false,false,false,false,false,false,false,false],[false,false,false,false,false,false,false,false,false,false,false,false,false,false,false,false,true,false]⟩,
 ⟨false,true,[false,false,false,false,false,false,false,false,false,false,false,false,false,false,false,false,false,false],[false,false,false,false,false,false,false,false,false,false,false,false,false,false,false,false,true,false]⟩,
 ⟨true,false,[false,false,false,false,false,false,false,false,false,false,false,false,false,false,false,false,false,false],[false,false,false,false,false,false,false,false,false,false,false,false,false,false,false,false,true,false]⟩,
 ⟨true,false,[false,false,false,false,false,false,false,false,false,false,false,false,false,false,false,false,true,false],[false,false,false,false,false,false,false,false,false,false,false,false,false,false,false,false,true,true]⟩])
 (.seq (.seq (.ops [⟨(some 43),.mov (.tmp 7),none⟩,
 ⟨(some 44),.loadN 2 (.tmp 9),none⟩,
 ⟨(some 45),.raw (.lookup 140 (.tmp 43) (.tmp 44) true) 115,none⟩,
 ⟨(some 42),.mov (.tmp 45),none⟩,
 ⟨(some 46),.ext (.tmp 42) 0,none⟩,
 ⟨(some 47),.ext (.tmp 42) 1,none⟩,
 ⟨(some 10),.mov (.tmp 46),none⟩,
 ⟨(some 11),.mov (.tmp 47),none⟩])
 (.seq (.ops [⟨(some 48),.mov (.tmp 11),none⟩,
 ⟨(some 49),.not (.tmp 48),none⟩])
 (.cond (.tmp 49) (.ops [⟨(some 50),.mov (.tmp 7),none⟩,
 ⟨(some 51),.loadN 2 (.tmp 9),none⟩,
 ⟨(some 52),.mov (.tmp 7),none⟩,
 ⟨(some 53),.raw (.call ⟨.builtin .len,⟨[(.tmp 52)]⟩,⟨[140]⟩⟩) 3,none⟩,
 ⟨none,.raw (.mapUpdate 140 (.tmp 50) (.tmp 51) (.tmp 53)) 0,none⟩])
 .skip)))
 (.ops [⟨(some 54),.mov (.tmp 4),none⟩,
 ⟨(some 55),.mov (.tmp 8),none⟩,
 ⟨(some 56),.mov (.tmp 7),none⟩,
 ⟨(some 57),.loadN 2 (.tmp 9),none⟩,
 ⟨(some 58),.raw (.lookup 140 (.tmp 56) (.tmp 57) false) 3,none⟩,
 ⟨(some 59),.idxS 1 (.tmp 54) (.tmp 55),none⟩,
 ⟨none,.store 1 (.tmp 59) (.tmp 58),none⟩])))))
 (.ops [⟨(some 60),.ar .i64 .add (.tmp 23) (.const (.int .i64 1)),none⟩,
 ⟨(some 23),.mov (.tmp 60),none⟩])))))))
 (.ops [⟨(some 61),.mov (.tmp 7),none⟩,
 ⟨(some 62),.raw (.call ⟨.builtin .len,⟨[(.tmp 61)]⟩,⟨[140]⟩⟩) 3,none⟩,
 ⟨(some 5),.mov (.tmp 62),none⟩])))))
 (.ops [⟨(some 63),.ar .i64 .add (.tmp 17) (.const (.int .i64 1)),none⟩,
 ⟨(some 17),.mov (.tmp 63),none⟩])))))))
 (.seq (.ops [⟨(some 64),.mov (.tmp 4),none⟩,
 ⟨(some 65),.mov (.tmp 5),none⟩,
 ⟨(some 4),.mov (.tmp 64),none⟩,
 ⟨(some 5),.mov (.tmp 65),none⟩])
 .ret))))
theorem enter105 {xs : List Value} {h : Hp} {Q : Value → Hp → Prop} (hl : xs.length ≤ 66) (w : wq E 66 none c105 (frameOf xs) h [] (leaveQ E [.tmp 4,.tmp 5] Q)) : CallP E 105 xs h Q :=
  CallP.enterQ (fn := Try.f105) (fn_get Try.func105) (code := Try.f105.body.get rfl) rfl rfl rfl (by kernel_rfl) rfl (fun _ => rfl) hl w
theorem can105 : callable E 105 = true := callable_get Try.func105 rfl rfl
end
end Go.Proofs.Ytedneplaibmppaa
