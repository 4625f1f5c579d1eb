/- The code of the functions that PRD comes to. -/
import Derived.Test.YtpiplaicnbapbaaTypesC
set_option maxRecDepth 100000
set_option linter.unusedSectionVars false
set_option linter.unusedVariables false
namespace Go.Proofs.Ytpiplaicnbapbaa
open Go.Rx Go.RowKit
noncomputable section
variable [Unknowns]
def c16 : C := (.seq (.ops [⟨(some 3),.box 25 (.tmp 0),none⟩,
 ⟨(some 6),.mov (.const (.bool false)),none⟩])
 (.seq (.ops [⟨(some 41),.loadN 4 (.tmp 3),none⟩,
 ⟨(some 42),.call 34 [(.tmp 41),(.const (.int .i64 4))],none⟩,
 ⟨(some 7),.alloc 26 [(.int .i64 0),(.slice none 0 0),(.slice none 0 0),(.slice none 0 0)],none⟩,
 ⟨none,.store 4 (.tmp 7) (.tmp 42),none⟩])
 (.seq (.ops [⟨(some 43),.fldA 0 (.tmp 7),none⟩,
 ⟨(some 44),.load1 (.tmp 43),none⟩,
 ⟨(some 8),.mov (.tmp 44),none⟩])
 (.seq (.ops [⟨(some 45),.mov (.tmp 2),none⟩,
 ⟨(some 46),.cint .u64 (.tmp 45),none⟩,
 ⟨(some 47),.mov (.tmp 8),none⟩,
 ⟨(some 48),.cint .u64 (.tmp 47),none⟩,
 ⟨(some 49),.ar .u64 .rem (.tmp 46) (.tmp 48),none⟩,
 ⟨(some 50),.cint .i64 (.tmp 49),none⟩,
 ⟨(some 9),.mov (.tmp 50),none⟩])
 (.seq (.ops [⟨(some 51),.mov (.tmp 8),none⟩,
 ⟨(some 52),.aggr [(.int .i64 0),(.slice none 0 0),(.slice none 0 0),(.slice none 0 0)] [(0,1,(.tmp 51))],none⟩,
 ⟨(some 10),.alloc 26 [(.int .i64 0),(.slice none 0 0),(.slice none 0 0),(.slice none 0 0)],none⟩,
 ⟨none,.store 4 (.tmp 10) (.tmp 52),none⟩])
 (.seq (.seq (.ops [⟨(some 11),.mov (.const (.int .i64 0)),none⟩])
 (.block 0 (.loop (.seq (.seq (.ops [⟨(some 53),.mov (.tmp 11),none⟩,
 ⟨(some 54),.mov (.tmp 8),none⟩,
 ⟨(some 55),.ar .i64 .lss (.tmp 53) (.tmp 54),none⟩])
 (.cond (.tmp 55) .skip
 (.exit 0)))
 (.seq (.block 1 (.seq (.ops [⟨(some 58),.fldA 1 (.tmp 10),none⟩,
 ⟨(some 59),.load1 (.tmp 58),none⟩,
 ⟨(some 12),.mov (.tmp 59),none⟩])
 (.draw [⟨(some 60),.mov (.tmp 12),none⟩,
 ⟨(some 61),.fldA 1 (.tmp 7),none⟩,
 ⟨(some 62),.load1 (.tmp 61),none⟩,
 ⟨(some 63),.mov (.tmp 11),none⟩,
 ⟨(some 64),.mov (.tmp 8),none⟩,
 ⟨(some 65),.ar .i64 .add (.tmp 63) (.tmp 64),none⟩,
 ⟨(some 66),.mov (.tmp 9),none⟩,
 ⟨(some 67),.ar .i64 .sub (.tmp 65) (.tmp 66),none⟩,
 ⟨(some 68),.mov (.tmp 8),none⟩,
 ⟨(some 69),.ar .i64 .rem (.tmp 67) (.tmp 68),none⟩,
 ⟨(some 70),.idxS 1 (.tmp 62) (.tmp 69),none⟩,
 ⟨(some 71),.load1 (.tmp 70),none⟩,
 ⟨(some 72),.slit 3 1 [(.int .i64 0)] [(0,1,(.tmp 71))],none⟩,
 ⟨(some 73),.append 3 1 8 (.tmp 60) (.tmp 72),none⟩,
 ⟨(some 74),.fldA 1 (.tmp 10),none⟩,
 ⟨none,.store 1 (.tmp 74) (.tmp 73),none⟩]
 [⟨false,true,[false,false,false,false,false,false,false,false,false,false,false,false,false,false,false,false],[false,false,false,false,false,false,false,false,false,false,false,false,true,false,false,false]⟩,
 ⟨false,false,[false,false,false,false,false,false,false,false,false,false,false,false,false,false,false,false],[false,false,false,false,false,false,false,false,false,false,false,false,false,false,false,false]⟩,
 ⟨false,false,[false,false,false,false,false,false,false,false,false,false,false,false,false,false,false,false],[false,false,false,false,false,false,false,false,false,false,false,false,false,false,false,false]⟩,
 ⟨false,false,[false,false,false,false,false,false,false,false,false,false,false,false,false,false,false,false],[false,false,false,false,false,false,false,false,false,false,false,false,false,false,false,false]⟩,
 ⟨false,false,[false,false,false,false,false,false,false,false,false,false,false,false,false,false,false,false],[false,false,false,false,false,false,false,false,false,false,false,false,false,false,false,false]⟩,
 ⟨false,false,[false,false,false,false,false,false,false,false,false,false,false,false,false,false,false,false],[false,false,false,false,false,false,false,false,false,false,false,false,false,false,false,false]⟩,
 ⟨false,false,[false,false,false,false,false,false,false,false,false,false,false,false,false,false,false,false],[false,false,false,false,false,false,false,false,false,false,false,false,false,false,false,false]⟩,
 ⟨false,false,[false,false,false,false,false,false,false,false,false,false,false,false,false,false,false,false],[false,false,false,false,false,false,false,false,false,false,false,false,false,false,false,false]⟩,
 ⟨false,false,[false,false,false,false,false,false,false,false,false,false,false,false,false,false,false,false],[false,false,false,false,false,false,false,false,false,false,false,false,false,false,false,false]⟩,
 ⟨false,false,[false,false,false,false,false,false,false,false,false,false,false,false,false,false,false,false],[false,false,false,false,false,false,false,false,false,false,false,false,false,false,false,false]⟩,
 ⟨false,false,[false,false,false,false,false,false,false,false,false,false,false,false,false,false,false,false],[false,false,false,false,false,false,false,false,false,false,false,false,false,false,false,false]⟩,
 ⟨false,false,[false,false,false,false,false,false,false,false,false,false,false,false,false,false,false,false],[false,false,false,false,false,false,false,false,false,false,false,false,false,false,false,false]⟩,
 ⟨true,false,[false,false,false,false,false,false,false,false,false,false,false,false,false,false,false,false],[false,false,false,false,false,false,false,false,false,false,false,false,true,false,false,false]⟩,
 ⟨true,false,[false,false,false,false,false,false,false,false,false,false,false,false,true,false,false,false],[false,false,false,false,false,false,false,false,false,false,false,false,true,true,false,false]⟩,
 ⟨false,false,[false,false,false,false,false,false,false,false,false,false,false,false,true,true,false,false],[false,false,false,false,false,false,false,false,false,false,false,false,true,true,false,false]⟩,
 ⟨true,false,[false,false,false,false,false,false,false,false,false,false,false,false,true,true,false,false],[false,false,false,false,false,false,false,false,false,false,false,false,true,true,false,true]⟩])))
 (.ops [⟨(some 56),.mov (.tmp 11),none⟩,
 ⟨(some 57),.ar .i64 .add (.tmp 56) (.const (.int .i64 1)),none⟩,
 ⟨(some 11),.mov (.tmp 57),none⟩]))))))
 (.seq (.seq (.ops [⟨(some 13),.mov (.const (.int .i64 0)),none⟩])
 (.block 2 (.loop (.seq (.seq (.ops [⟨(some 75),.mov (.tmp 13),none⟩,
 ⟨(some 76),.fldA 2 (.tmp 7),none⟩,
 ⟨(some 77),.load1 (.tmp 76),none⟩,
 ⟨(some 78),.lenS (.tmp 77),none⟩,
 ⟨(some 79),.ar .i64 .lss (.tmp 75) (.tmp 78),none⟩])
 (.cond (.tmp 79) .skip
 (.exit 2)))
 (.seq (.block 3 (.seq (.ops [⟨(some 82),.fldA 2 (.tmp 10),none⟩,
 ⟨(some 83),.load1 (.tmp 82),none⟩,
 ⟨(some 14),.mov (.tmp 83),none⟩])
 (.ops [⟨(some 84),.mov (.tmp 14),none⟩,
 ⟨(some 85),.fldA 2 (.tmp 7),none⟩,
 ⟨(some 86),.load1 (.tmp 85),none⟩,
 ⟨(some 87),.mov (.tmp 13),none⟩,
 ⟨(some 88),.idxS 1 (.tmp 86) (.tmp 87),none⟩,
 ⟨(some 89),.load1 (.tmp 88),none⟩,
 ⟨(some 90),.mov (.tmp 9),none⟩,
 ⟨(some 91),.ar .i64 .add (.tmp 89) (.tmp 90),none⟩,
 ⟨(some 92),.mov (.tmp 8),none⟩,
 ⟨(some 93),.ar .i64 .rem (.tmp 91) (.tmp 92),none⟩,
 ⟨(some 94),.slit 3 1 [(.int .i64 0)] [(0,1,(.tmp 93))],none⟩,
 ⟨(some 95),.append 3 1 8 (.tmp 84) (.tmp 94),none⟩,
 ⟨(some 96),.fldA 2 (.tmp 10),none⟩,
 ⟨none,.store 1 (.tmp 96) (.tmp 95),none⟩])))
 (.ops [⟨(some 80),.mov (.tmp 13),none⟩,
 ⟨(some 81),.ar .i64 .add (.tmp 80) (.const (.int .i64 1)),none⟩,
 ⟨(some 13),.mov (.tmp 81),none⟩]))))))
 (.seq (.seq (.ops [⟨(some 15),.mov (.const (.int .i64 0)),none⟩])
 (.block 4 (.loop (.seq (.seq (.ops [⟨(some 97),.mov (.tmp 15),none⟩,
 ⟨(some 98),.mov (.tmp 8),none⟩,
 ⟨(some 99),.ar .i64 .lss (.tmp 97) (.tmp 98),none⟩])
 (.cond (.tmp 99) .skip
 (.exit 4)))
 (.seq (.block 5 (.seq (.ops [⟨(some 102),.mov (.tmp 15),none⟩,
 ⟨(some 16),.mov (.tmp 102),none⟩])
 (.block 6 (.loop (.seq (.seq (.ops [⟨(some 103),.mov (.tmp 16),none⟩,
 ⟨(some 104),.mov (.tmp 8),none⟩,
 ⟨(some 105),.ar .i64 .lss (.tmp 103) (.tmp 104),none⟩])
 (.cond (.tmp 105) .skip
 (.exit 6)))
 (.seq (.block 7 (.seq (.ops [⟨(some 17),.mov (.const (.int .i64 0)),none⟩])
 (.block 8 (.loop (.seq (.seq (.ops [⟨(some 108),.mov (.tmp 17),none⟩,
 ⟨(some 109),.fldA 3 (.tmp 7),none⟩,
 ⟨(some 110),.load1 (.tmp 109),none⟩,
 ⟨(some 111),.lenS (.tmp 110),none⟩,
 ⟨(some 112),.ar .i64 .lss (.tmp 108) (.tmp 111),none⟩])
 (.cond (.tmp 112) .skip
 (.exit 8)))
 (.seq (.block 9 (.seq (.ops [⟨(some 115),.fldA 3 (.tmp 7),none⟩,
 ⟨(some 116),.load1 (.tmp 115),none⟩,
 ⟨(some 117),.mov (.tmp 17),none⟩,
 ⟨(some 118),.idxS 4 (.tmp 116) (.tmp 117),none⟩,
 ⟨(some 119),.loadN 4 (.tmp 118),none⟩,
 ⟨(some 18),.alloc 96 [(.int .i64 0),(.int .i64 0),(.int .i64 0),(.int .i64 0)],none⟩,
 ⟨none,.store 4 (.tmp 18) (.tmp 119),none⟩])
 (.seq (.ops [⟨(some 120),.idxA 4 1 (.tmp 18) (.const (.int .i64 0)),none⟩,
 ⟨(some 121),.load1 (.tmp 120),none⟩,
 ⟨(some 122),.mov (.tmp 9),none⟩,
 ⟨(some 123),.ar .i64 .add (.tmp 121) (.tmp 122),none⟩,
 ⟨(some 124),.mov (.tmp 8),none⟩,
 ⟨(some 125),.ar .i64 .rem (.tmp 123) (.tmp 124),none⟩,
 ⟨(some 126),.idxA 4 1 (.tmp 18) (.const (.int .i64 1)),none⟩,
 ⟨(some 127),.load1 (.tmp 126),none⟩,
 ⟨(some 128),.mov (.tmp 9),none⟩,
 ⟨(some 129),.ar .i64 .add (.tmp 127) (.tmp 128),none⟩,
 ⟨(some 130),.mov (.tmp 8),none⟩,
 ⟨(some 131),.ar .i64 .rem (.tmp 129) (.tmp 130),none⟩,
 ⟨(some 19),.mov (.tmp 125),none⟩,
 ⟨(some 20),.mov (.tmp 131),none⟩])
 (.seq (.ops [⟨(some 132),.fldA 3 (.tmp 10),none⟩,
 ⟨(some 133),.load1 (.tmp 132),none⟩,
 ⟨(some 21),.mov (.tmp 133),none⟩])
 (.seq (.ops [⟨(some 134),.mov (.tmp 19),none⟩,
 ⟨(some 135),.mov (.tmp 20),none⟩,
 ⟨(some 136),.raw (.call ⟨.builtin .min,⟨[(.tmp 134),(.tmp 135)]⟩,⟨[3,3]⟩⟩) 3,none⟩,
 ⟨(some 137),.mov (.tmp 15),none⟩,
 ⟨(some 138),.ar .i64 .eql (.tmp 136) (.tmp 137),none⟩,
 ⟨(some 139),.mov (.tmp 138),none⟩,
 ⟨(some 140),.mov (.tmp 19),(some (139,true))⟩,
 ⟨(some 141),.mov (.tmp 20),(some (139,true))⟩,
 ⟨(some 142),.raw (.call ⟨.builtin .max,⟨[(.tmp 140),(.tmp 141)]⟩,⟨[3,3]⟩⟩) 3,(some (139,true))⟩,
 ⟨(some 143),.mov (.tmp 16),(some (139,true))⟩,
 ⟨(some 144),.ar .i64 .eql (.tmp 142) (.tmp 143),(some (139,true))⟩,
 ⟨(some 145),.pick (.tmp 139) (.tmp 144) (.const (.bool false)),none⟩])
 (.cond (.tmp 145) (.draw [⟨(some 146),.mov (.tmp 21),none⟩,
 ⟨(some 147),.mov (.tmp 15),none⟩,
 ⟨(some 148),.mov (.tmp 16),none⟩,
 ⟨(some 149),.idxA 4 1 (.tmp 18) (.const (.int .i64 2)),none⟩,
 ⟨(some 150),.load1 (.tmp 149),none⟩,
 ⟨(some 151),.mov (.tmp 9),none⟩,
 ⟨(some 152),.ar .i64 .add (.tmp 150) (.tmp 151),none⟩,
 ⟨(some 153),.mov (.tmp 8),none⟩,
 ⟨(some 154),.ar .i64 .rem (.tmp 152) (.tmp 153),none⟩,
 ⟨(some 155),.idxA 4 1 (.tmp 18) (.const (.int .i64 3)),none⟩,
 ⟨(some 156),.load1 (.tmp 155),none⟩,
 ⟨(some 157),.mov (.tmp 9),none⟩,
 ⟨(some 158),.ar .i64 .add (.tmp 156) (.tmp 157),none⟩,
 ⟨(some 159),.mov (.tmp 8),none⟩,
 ⟨(some 160),.ar .i64 .rem (.tmp 158) (.tmp 159),none⟩,
 ⟨(some 161),.aggr [(.int .i64 0),(.int .i64 0),(.int .i64 0),(.int .i64 0)] [(0,1,(.tmp 147)),(1,1,(.tmp 148)),(2,1,(.tmp 154)),(3,1,(.tmp 160))],none⟩,
 ⟨(some 162),.slit 96 1 [(.int .i64 0),(.int .i64 0),(.int .i64 0),(.int .i64 0)] [(0,4,(.tmp 161))],none⟩,
 ⟨(some 163),.append 96 4 32 (.tmp 146) (.tmp 162),none⟩,
 ⟨(some 164),.fldA 3 (.tmp 10),none⟩,
 ⟨none,.store 1 (.tmp 164) (.tmp 163),none⟩]
 [⟨false,true,[false,false,false,false,false,false,false,false,false,false,false,false,false,false,false,false,false,false,false,false],[false,false,false,false,false,false,false,false,false,false,false,false,false,false,false,false,true,false,false,false]⟩,
 ⟨false,false,[false,false,false,false,false,false,false,false,false,false,false,false,false,false,false,false,false,false,false,false],[false,false,false,false,false,false,false,false,false,false,false,false,false,false,false,false,false,false,false,false]⟩,
 ⟨false,false,[false,false,false,false,false,false,false,false,false,false,false,false,false,false,false,false,false,false,false,false],[false,false,false,false,false,false,false,false,false,false,false,false,false,false,false,false,false,false,false,false]⟩,
 ⟨false,false,[false,false,false,false,false,false,false,false,false,false,false,false,false,false,false,false,false,false,false,false],[false,false,false,false,false,false,false,false,false,false,false,false,false,false,false,false,false,false,false,false]⟩,
 ⟨false,false,[false,false,false,false,false,false,false,false,false,false,false,false,false,false,false,false,false,false,false,false],[false,false,false,false,false,false,false,false,false,false,false,false,false,false,false,false,false,false,false,false]⟩,
 ⟨false,false,[false,false,false,false,false,false,false,false,false,false,false,false,false,false,false,false,false,false,false,false],[false,false,false,false,false,false,false,false,false,false,false,false,false,false,false,false,false,false,false,false]⟩,
 ⟨false,false,[false,false,false,false,false,false,false,false,false,false,false,false,false,false,false,false,false,false,false,false],[false,false,false,false,false,false,false,false,false,false,false,false,false,false,false,false,false,false,false,false]⟩,
 ⟨false,false,[false,false,false,false,false,false,false,false,false,false,false,false,false,false,false,false,false,false,false,false],[false,false,false,false,false,false,false,false,false,false,false,false,false,false,false,false,false,false,false,false]⟩,
 ⟨false,false,[false,false,false,false,false,false,false,false,false,false,false,false,false,false,false,false,false,false,false,false],[false,false,false,false,false,false,false,false,false,false,false,false,false,false,false,false,false,false,false,false]⟩,
 ⟨false,false,[false,false,false,false,false,false,false,false,false,false,false,false,false,false,false,false,false,false,false,false],[false,false,false,false,false,false,false,false,false,false,false,false,false,false,false,false,false,false,false,false]⟩,
 ⟨false,false,[false,false,false,false,false,false,false,false,false,false,false,false,false,false,false,false,false,false,false,false],[false,false,false,false,false,false,false,false,false,false,false,false,false,false,false,false,false,false,false,false]⟩,
 ⟨false,false,[false,false,false,false,false,false,false,false,false,false,false,false,false,false,false,false,false,false,false,false],[false,false,false,false,false,false,false,false,false,false,false,false,false,false,false,false,false,false,false,false]⟩,
 ⟨false,false,[false,false,false,false,false,false,false,false,false,false,false,false,false,false,false,false,false,false,false,false],[false,false,false,false,false,false,false,false,false,false,false,false,false,false,false,false,false,false,false,false]⟩,
 ⟨false,false,[false,false,false,false,false,false,false,false,false,false,false,false,false,false,false,false,false,false,false,false],[false,false,false,false,false,false,false,false,false,false,false,false,false,false,false,false,false,false,false,false]⟩,
 ⟨false,false,[false,false,false,false,false,false,false,false,false,false,false,false,false,false,false,false,false,false,false,false],[false,false,false,false,false,false,false,false,false,false,false,false,false,false,false,false,false,false,false,false]⟩,
 ⟨false,false,[false,false,false,false,false,false,false,false,false,false,false,false,false,false,false,false,false,false,false,false],[false,false,false,false,false,false,false,false,false,false,false,false,false,false,false,false,false,false,false,false]⟩,
 ⟨true,false,[false,false,false,false,false,false,false,false,false,false,false,false,false,false,false,false,false,false,false,false],[false,false,false,false,false,false,false,false,false,false,false,false,false,false,false,false,true,false,false,false]⟩,
 ⟨true,false,[false,false,false,false,false,false,false,false,false,false,false,false,false,false,false,false,true,false,false,false],[false,false,false,false,false,false,false,false,false,false,false,false,false,false,false,false,true,true,false,false]⟩,
 ⟨false,false,[false,false,false,false,false,false,false,false,false,false,false,false,false,false,false,false,true,true,false,false],[false,false,false,false,false,false,false,false,false,false,false,false,false,false,false,false,true,true,false,false]⟩,
 ⟨true,false,[false,false,false,false,false,false,false,false,false,false,false,false,false,false,false,false,true,true,false,false],[false,false,false,false,false,false,false,false,false,false,false,false,false,false,false,false,true,true,false,true]⟩])
 .skip))))))
 (.ops [⟨(some 113),.mov (.tmp 17),none⟩,
 ⟨(some 114),.ar .i64 .add (.tmp 113) (.const (.int .i64 1)),none⟩,
 ⟨(some 17),.mov (.tmp 114),none⟩])))))))
 (.ops [⟨(some 106),.mov (.tmp 16),none⟩,
 ⟨(some 107),.ar .i64 .add (.tmp 106) (.const (.int .i64 1)),none⟩,
 ⟨(some 16),.mov (.tmp 107),none⟩])))))))
 (.ops [⟨(some 100),.mov (.tmp 15),none⟩,
 ⟨(some 101),.ar .i64 .add (.tmp 100) (.const (.int .i64 1)),none⟩,
 ⟨(some 15),.mov (.tmp 101),none⟩]))))))
 (.seq (.ops [⟨(some 165),.mov (.tmp 1),none⟩,
 ⟨(some 166),.mov (.tmp 8),none⟩,
 ⟨(some 167),.call 35 [(.tmp 165),(.tmp 166),(.const (.int .i64 7))],none⟩,
 ⟨(some 22),.mov (.tmp 167),none⟩])
 (.seq (.ops [⟨(some 23),.mov (.const (.slice none 0 0)),none⟩])
 (.seq (.seq (.ops [⟨(some 24),.mov (.const (.int .i64 0)),none⟩])
 (.block 10 (.loop (.seq (.seq (.ops [⟨(some 168),.mov (.tmp 24),none⟩,
 ⟨(some 169),.mov (.tmp 8),none⟩,
 ⟨(some 170),.ar .i64 .lss (.tmp 168) (.tmp 169),none⟩])
 (.cond (.tmp 170) .skip
 (.exit 10)))
 (.seq (.block 11 (.ops [⟨(some 173),.mov (.tmp 23),none⟩,
 ⟨(some 174),.mov (.tmp 22),none⟩,
 ⟨(some 175),.mov (.tmp 24),none⟩,
 ⟨(some 176),.mov (.tmp 8),none⟩,
 ⟨(some 177),.ar .i64 .add (.tmp 175) (.tmp 176),none⟩,
 ⟨(some 178),.mov (.tmp 9),none⟩,
 ⟨(some 179),.ar .i64 .sub (.tmp 177) (.tmp 178),none⟩,
 ⟨(some 180),.mov (.tmp 8),none⟩,
 ⟨(some 181),.ar .i64 .rem (.tmp 179) (.tmp 180),none⟩,
 ⟨(some 182),.idxS 1 (.tmp 174) (.tmp 181),none⟩,
 ⟨(some 183),.load1 (.tmp 182),none⟩,
 ⟨(some 184),.slit 3 1 [(.int .i64 0)] [(0,1,(.tmp 183))],none⟩,
 ⟨(some 185),.append 3 1 8 (.tmp 173) (.tmp 184),none⟩,
 ⟨(some 23),.mov (.tmp 185),none⟩]))
 (.ops [⟨(some 171),.mov (.tmp 24),none⟩,
 ⟨(some 172),.ar .i64 .add (.tmp 171) (.const (.int .i64 1)),none⟩,
 ⟨(some 24),.mov (.tmp 172),none⟩]))))))
 (.seq (.ops [⟨(some 187),.loadN 4 (.tmp 7),none⟩,
 ⟨(some 188),.call 18 [(.tmp 187)],none⟩,
 ⟨(some 189),.mov (.tmp 22),none⟩,
 ⟨(some 190),.call 31 [(.tmp 188),(.tmp 189)],none⟩,
 ⟨(some 186),.mov (.tmp 190),none⟩,
 ⟨(some 191),.ext (.tmp 186) 0,none⟩,
 ⟨(some 192),.ext (.tmp 186) 1,none⟩,
 ⟨(some 193),.ext (.tmp 186) 2,none⟩,
 ⟨(some 25),.mov (.tmp 191),none⟩,
 ⟨(some 26),.mov (.tmp 192),none⟩,
 ⟨(some 27),.mov (.tmp 193),none⟩])
 (.seq (.ops [⟨(some 195),.loadN 4 (.tmp 10),none⟩,
 ⟨(some 196),.call 18 [(.tmp 195)],none⟩,
 ⟨(some 197),.mov (.tmp 23),none⟩,
 ⟨(some 198),.call 31 [(.tmp 196),(.tmp 197)],none⟩,
 ⟨(some 194),.mov (.tmp 198),none⟩,
 ⟨(some 199),.ext (.tmp 194) 0,none⟩,
 ⟨(some 200),.ext (.tmp 194) 1,none⟩,
 ⟨(some 201),.ext (.tmp 194) 2,none⟩,
 ⟨(some 28),.mov (.tmp 199),none⟩,
 ⟨(some 29),.mov (.tmp 200),none⟩,
 ⟨(some 30),.mov (.tmp 201),none⟩])
 (.seq (.ops [⟨(some 203),.loadN 4 (.tmp 7),none⟩,
 ⟨(some 204),.call 18 [(.tmp 203)],none⟩,
 ⟨(some 205),.mov (.tmp 22),none⟩,
 ⟨(some 206),.call 32 [(.tmp 204),(.tmp 205)],none⟩,
 ⟨(some 202),.mov (.tmp 206),none⟩,
 ⟨(some 207),.ext (.tmp 202) 0,none⟩,
 ⟨(some 208),.ext (.tmp 202) 1,none⟩,
 ⟨(some 209),.ext (.tmp 202) 2,none⟩,
 ⟨(some 31),.mov (.tmp 207),none⟩,
 ⟨(some 32),.mov (.tmp 208),none⟩,
 ⟨(some 33),.mov (.tmp 209),none⟩])
 (.seq (.ops [⟨(some 211),.loadN 4 (.tmp 10),none⟩,
 ⟨(some 212),.call 18 [(.tmp 211)],none⟩,
 ⟨(some 213),.mov (.tmp 23),none⟩,
 ⟨(some 214),.call 32 [(.tmp 212),(.tmp 213)],none⟩,
 ⟨(some 210),.mov (.tmp 214),none⟩,
 ⟨(some 215),.ext (.tmp 210) 0,none⟩,
 ⟨(some 216),.ext (.tmp 210) 1,none⟩,
 ⟨(some 217),.ext (.tmp 210) 2,none⟩,
 ⟨(some 34),.mov (.tmp 215),none⟩,
 ⟨(some 35),.mov (.tmp 216),none⟩,
 ⟨(some 36),.mov (.tmp 217),none⟩])
 (.seq (.ops [⟨(some 219),.loadN 4 (.tmp 7),none⟩,
 ⟨(some 220),.call 18 [(.tmp 219)],none⟩,
 ⟨(some 221),.mov (.tmp 22),none⟩,
 ⟨(some 222),.call 30 [(.tmp 220),(.tmp 221)],none⟩,
 ⟨(some 218),.mov (.tmp 222),none⟩,
 ⟨(some 223),.ext (.tmp 218) 0,none⟩,
 ⟨(some 224),.ext (.tmp 218) 1,none⟩,
 ⟨(some 37),.mov (.tmp 223),none⟩,
 ⟨(some 38),.mov (.tmp 224),none⟩])
 (.seq (.ops [⟨(some 226),.loadN 4 (.tmp 10),none⟩,
 ⟨(some 227),.call 18 [(.tmp 226)],none⟩,
 ⟨(some 228),.mov (.tmp 23),none⟩,
 ⟨(some 229),.call 30 [(.tmp 227),(.tmp 228)],none⟩,
 ⟨(some 225),.mov (.tmp 229),none⟩,
 ⟨(some 230),.ext (.tmp 225) 0,none⟩,
 ⟨(some 231),.ext (.tmp 225) 1,none⟩,
 ⟨(some 39),.mov (.tmp 230),none⟩,
 ⟨(some 40),.mov (.tmp 231),none⟩])
 (.seq (.ops [⟨(some 232),.mov (.tmp 27),none⟩,
 ⟨(some 233),.ar .i64 .eql (.tmp 232) (.const (.int .i64 0)),none⟩,
 ⟨(some 234),.mov (.tmp 233),none⟩,
 ⟨(some 235),.mov (.tmp 30),(some (234,true))⟩,
 ⟨(some 236),.ar .i64 .eql (.tmp 235) (.const (.int .i64 0)),(some (234,true))⟩,
 ⟨(some 237),.pick (.tmp 234) (.tmp 236) (.const (.bool false)),none⟩,
 ⟨(some 238),.mov (.tmp 237),none⟩,
 ⟨(some 239),.mov (.tmp 33),(some (238,true))⟩,
 ⟨(some 240),.ar .i64 .eql (.tmp 239) (.const (.int .i64 0)),(some (238,true))⟩,
 ⟨(some 241),.pick (.tmp 238) (.tmp 240) (.const (.bool false)),none⟩,
 ⟨(some 242),.mov (.tmp 241),none⟩,
 ⟨(some 243),.mov (.tmp 36),(some (242,true))⟩,
 ⟨(some 244),.ar .i64 .eql (.tmp 243) (.const (.int .i64 0)),(some (242,true))⟩,
 ⟨(some 245),.pick (.tmp 242) (.tmp 244) (.const (.bool false)),none⟩,
 ⟨(some 246),.mov (.tmp 245),none⟩,
 ⟨(some 247),.mov (.tmp 38),(some (246,true))⟩,
 ⟨(some 248),.ar .i64 .eql (.tmp 247) (.const (.int .i64 0)),(some (246,true))⟩,
 ⟨(some 249),.pick (.tmp 246) (.tmp 248) (.const (.bool false)),none⟩,
 ⟨(some 250),.mov (.tmp 249),none⟩,
 ⟨(some 251),.mov (.tmp 40),(some (250,true))⟩,
 ⟨(some 252),.ar .i64 .eql (.tmp 251) (.const (.int .i64 0)),(some (250,true))⟩,
 ⟨(some 253),.pick (.tmp 250) (.tmp 252) (.const (.bool false)),none⟩,
 ⟨(some 254),.mov (.tmp 253),none⟩,
 ⟨(some 255),.mov (.tmp 25),(some (254,true))⟩,
 ⟨(some 256),.mov (.tmp 28),(some (254,true))⟩,
 ⟨(some 257),.ar .i64 .eql (.tmp 255) (.tmp 256),(some (254,true))⟩,
 ⟨(some 258),.pick (.tmp 254) (.tmp 257) (.const (.bool false)),none⟩,
 ⟨(some 259),.mov (.tmp 258),none⟩,
 ⟨(some 260),.mov (.tmp 26),(some (259,true))⟩,
 ⟨(some 261),.mov (.tmp 29),(some (259,true))⟩,
 ⟨(some 262),.raw (.binOp .eql 4 (.tmp 260) (.tmp 261) 4) 4,(some (259,true))⟩,
 ⟨(some 263),.pick (.tmp 259) (.tmp 262) (.const (.bool false)),none⟩,
 ⟨(some 264),.mov (.tmp 263),none⟩,
 ⟨(some 265),.mov (.tmp 31),(some (264,true))⟩,
 ⟨(some 266),.mov (.tmp 34),(some (264,true))⟩,
 ⟨(some 267),.ar .i64 .eql (.tmp 265) (.tmp 266),(some (264,true))⟩,
 ⟨(some 268),.pick (.tmp 264) (.tmp 267) (.const (.bool false)),none⟩,
 ⟨(some 269),.mov (.tmp 268),none⟩,
 ⟨(some 270),.mov (.tmp 32),(some (269,true))⟩,
 ⟨(some 271),.mov (.tmp 35),(some (269,true))⟩,
 ⟨(some 272),.raw (.binOp .eql 4 (.tmp 270) (.tmp 271) 4) 4,(some (269,true))⟩,
 ⟨(some 273),.pick (.tmp 269) (.tmp 272) (.const (.bool false)),none⟩,
 ⟨(some 274),.mov (.tmp 273),none⟩,
 ⟨(some 275),.mov (.tmp 37),(some (274,true))⟩,
 ⟨(some 276),.mov (.tmp 39),(some (274,true))⟩,
 ⟨(some 277),.ar .i64 .eql (.tmp 275) (.tmp 276),(some (274,true))⟩,
 ⟨(some 278),.pick (.tmp 274) (.tmp 277) (.const (.bool false)),none⟩,
 ⟨(some 279),.mov (.tmp 278),none⟩,
 ⟨(some 280),.call 27 [],(some (279,true))⟩,
 ⟨(some 281),.pick (.tmp 279) (.tmp 280) (.const (.bool false)),none⟩,
 ⟨(some 6),.mov (.tmp 281),none⟩])
 .ret))))))))))))))))))
theorem enter16 {xs : List Value} {h : Hp} {Q : Value → Hp → Prop} (hl : xs.length ≤ 282) (w : wq E 282 none c16 (frameOf xs) h [] (leaveQ E [.tmp 6] Q)) : CallP E 16 xs h Q :=
  CallP.enterQ (fn := Try.f16) (fn_get Try.func16) (code := Try.f16.body.get rfl) rfl rfl rfl (by kernel_rfl) rfl (fun _ => rfl) hl w
theorem can16 : callable E 16 = true := callable_get Try.func16 rfl rfl
def c18 : C := (.seq (.ops [⟨(some 1),.box 26 (.tmp 0),none⟩,
 ⟨(some 2),.alloc 25 [(.int .i64 0),(.slice none 0 0),(.slice none 0 0),(.slice none 0 0)],none⟩])
 (.seq (.ops [⟨(some 3),.mov (.const (.slice none 0 0)),none⟩])
 (.seq (.draw [⟨(some 4),.fldA 0 (.tmp 1),none⟩,
 ⟨(some 5),.load1 (.tmp 4),none⟩,
 ⟨(some 6),.fldA 1 (.tmp 1),none⟩,
 ⟨(some 7),.load1 (.tmp 6),none⟩,
 ⟨(some 8),.call 19 [(.tmp 7),(.const (.int .i64 6))],none⟩,
 ⟨(some 9),.fldA 2 (.tmp 1),none⟩,
 ⟨(some 10),.load1 (.tmp 9),none⟩,
 ⟨(some 11),.call 19 [(.tmp 10),(.const (.int .i64 3))],none⟩,
 ⟨(some 12),.mov (.tmp 3),none⟩,
 ⟨(some 13),.fldA 3 (.tmp 1),none⟩,
 ⟨(some 14),.load1 (.tmp 13),none⟩,
 ⟨(some 15),.append 96 4 32 (.tmp 12) (.tmp 14),none⟩,
 ⟨(some 16),.aggr [(.int .i64 0),(.slice none 0 0),(.slice none 0 0),(.slice none 0 0)] [(0,1,(.tmp 5)),(1,1,(.tmp 8)),(2,1,(.tmp 11)),(3,1,(.tmp 15))],none⟩,
 ⟨none,.store 4 (.tmp 2) (.tmp 16),none⟩]
 [⟨false,true,[false,false,false,false,false,false,false,false,false,false,false,false,false,false],[false,false,false,false,true,false,false,true,false,false,false,true,false,false]⟩,
 ⟨false,true,[false,false,false,false,false,false,false,false,false,false,false,false,false,false],[false,false,false,false,true,false,false,true,false,false,false,true,false,false]⟩,
 ⟨false,false,[false,false,false,false,false,false,false,false,false,false,false,false,false,false],[false,false,false,false,false,false,false,false,false,false,false,false,false,false]⟩,
 ⟨false,false,[false,false,false,false,false,false,false,false,false,false,false,false,false,false],[false,false,false,false,false,false,false,false,false,false,false,false,false,false]⟩,
 ⟨true,false,[false,false,false,false,false,false,false,false,false,false,false,false,false,false],[false,false,false,false,true,false,false,false,false,false,false,false,false,false]⟩,
 ⟨false,true,[false,false,false,false,false,false,false,false,false,false,false,false,false,false],[false,false,false,false,true,false,false,false,false,false,false,false,false,false]⟩,
 ⟨false,true,[false,false,false,false,false,false,false,false,false,false,false,false,false,false],[false,false,false,false,true,false,false,false,false,false,false,false,false,false]⟩,
 ⟨true,false,[false,false,false,false,true,false,false,false,false,false,false,false,false,false],[false,false,false,false,true,false,false,true,false,false,false,false,false,false]⟩,
 ⟨false,true,[false,false,false,false,false,false,false,false,false,false,false,false,false,false],[false,false,false,false,true,false,false,true,false,false,false,false,false,false]⟩,
 ⟨false,true,[false,false,false,false,false,false,false,false,false,false,false,false,false,false],[false,false,false,false,true,false,false,true,false,false,false,false,false,false]⟩,
 ⟨false,true,[false,false,false,false,false,false,false,false,false,false,false,false,false,false],[false,false,false,false,true,false,false,true,false,false,false,false,false,false]⟩,
 ⟨true,false,[false,false,false,false,true,false,false,true,false,false,false,false,false,false],[false,false,false,false,true,false,false,true,false,false,false,true,false,false]⟩,
 ⟨false,false,[false,false,false,false,true,false,false,true,false,false,false,true,false,false],[false,false,false,false,true,false,false,true,false,false,false,true,false,false]⟩,
 ⟨true,false,[false,false,false,false,true,false,false,true,false,false,false,true,false,false],[false,false,false,false,true,false,false,true,false,false,false,true,false,true]⟩])
 .ret)))
theorem enter18 {xs : List Value} {h : Hp} {Q : Value → Hp → Prop} (hl : xs.length ≤ 17) (w : wq E 17 none c18 (frameOf xs) h [] (leaveQ E [.cell 2 25] Q)) : CallP E 18 xs h Q :=
  CallP.enterQ (fn := Try.f18) (fn_get Try.func18) (code := Try.f18.body.get rfl) rfl rfl rfl (by kernel_rfl) rfl (fun _ => rfl) hl w
theorem can18 : callable E 18 = true := callable_get Try.func18 rfl rfl
def c19 : C := (.seq (.ops [⟨(some 4),.mov (.const (.slice none 0 0)),none⟩])
 (.seq (.ops [⟨(some 5),.mov (.const (.slice none 0 0)),none⟩])
 (.seq (.ops [⟨(some 6),.mov (.tmp 5),none⟩,
 ⟨(some 7),.mov (.tmp 0),none⟩,
 ⟨(some 8),.mov (.tmp 0),none⟩,
 ⟨(some 9),.lenS (.tmp 8),none⟩,
 ⟨(some 10),.mov (.tmp 1),none⟩,
 ⟨(some 11),.raw (.call ⟨.builtin .min,⟨[(.tmp 9),(.tmp 10)]⟩,⟨[3,3]⟩⟩) 3,none⟩,
 ⟨(some 12),.cutS 1 (.tmp 7) none (some (.tmp 11)) none,none⟩,
 ⟨(some 13),.append 3 1 8 (.tmp 6) (.tmp 12),none⟩,
 ⟨(some 4),.mov (.tmp 13),none⟩])
 .ret)))
theorem enter19 {xs : List Value} {h : Hp} {Q : Value → Hp → Prop} (hl : xs.length ≤ 14) (w : wq E 14 none c19 (frameOf xs) h [] (leaveQ E [.tmp 4] Q)) : CallP E 19 xs h Q :=
  CallP.enterQ (fn := Try.f19) (fn_get Try.func19) (code := Try.f19.body.get rfl) rfl rfl rfl (by kernel_rfl) rfl (fun _ => rfl) hl w
theorem can19 : callable E 19 = true := callable_get Try.func19 rfl rfl
def c21 : C := (.seq (.ops [⟨(some 1),.box 25 (.tmp 0),none⟩,
 ⟨(some 2),.mov (.const (.int .i64 0)),none⟩])
 (.seq (.seq (.ops [⟨(some 5),.fldA 0 (.tmp 1),none⟩,
 ⟨(some 6),.load1 (.tmp 5),none⟩,
 ⟨(some 7),.ar .i64 .lss (.tmp 6) (.const (.int .i64 1)),none⟩,
 ⟨(some 8),.mov (.tmp 7),none⟩,
 ⟨(some 9),.fldA 0 (.tmp 1),(some (8,false))⟩,
 ⟨(some 10),.load1 (.tmp 9),(some (8,false))⟩,
 ⟨(some 11),.ar .i64 .gtr (.tmp 10) (.const (.int .i64 5)),(some (8,false))⟩,
 ⟨(some 12),.pick (.tmp 8) (.const (.bool true)) (.tmp 11),none⟩,
 ⟨(some 13),.mov (.tmp 12),none⟩,
 ⟨(some 14),.fldA 1 (.tmp 1),(some (13,false))⟩,
 ⟨(some 15),.load1 (.tmp 14),(some (13,false))⟩,
 ⟨(some 16),.lenS (.tmp 15),(some (13,false))⟩,
 ⟨(some 17),.fldA 0 (.tmp 1),(some (13,false))⟩,
 ⟨(some 18),.load1 (.tmp 17),(some (13,false))⟩,
 ⟨(some 19),.ar .i64 .neq (.tmp 16) (.tmp 18),(some (13,false))⟩,
 ⟨(some 20),.pick (.tmp 13) (.const (.bool true)) (.tmp 19),none⟩,
 ⟨(some 21),.mov (.tmp 20),none⟩,
 ⟨(some 22),.fldA 1 (.tmp 1),(some (21,false))⟩,
 ⟨(some 23),.load1 (.tmp 22),(some (21,false))⟩,
 ⟨(some 24),.call 60 [(.const (.int .i64 0)),(.const (.int .i64 1)),(.tmp 23)],(some (21,false))⟩,
 ⟨(some 25),.not (.tmp 24),(some (21,false))⟩,
 ⟨(some 26),.pick (.tmp 21) (.const (.bool true)) (.tmp 25),none⟩])
 (.cond (.tmp 26) (.seq (.ops [⟨(some 2),.mov (.const (.int .i64 60)),none⟩])
 .ret)
 .skip))
 (.seq (.seq (.ops [⟨(some 27),.fldA 2 (.tmp 1),none⟩,
 ⟨(some 28),.load1 (.tmp 27),none⟩,
 ⟨(some 29),.lenS (.tmp 28),none⟩,
 ⟨(some 30),.ar .i64 .lss (.tmp 29) (.const (.int .i64 1)),none⟩,
 ⟨(some 31),.mov (.tmp 30),none⟩,
 ⟨(some 32),.fldA 2 (.tmp 1),(some (31,false))⟩,
 ⟨(some 33),.load1 (.tmp 32),(some (31,false))⟩,
 ⟨(some 34),.lenS (.tmp 33),(some (31,false))⟩,
 ⟨(some 35),.ar .i64 .gtr (.tmp 34) (.const (.int .i64 2)),(some (31,false))⟩,
 ⟨(some 36),.pick (.tmp 31) (.const (.bool true)) (.tmp 35),none⟩,
 ⟨(some 37),.mov (.tmp 36),none⟩,
 ⟨(some 38),.fldA 0 (.tmp 1),(some (37,false))⟩,
 ⟨(some 39),.load1 (.tmp 38),(some (37,false))⟩,
 ⟨(some 40),.ar .i64 .sub (.tmp 39) (.const (.int .i64 1)),(some (37,false))⟩,
 ⟨(some 41),.fldA 2 (.tmp 1),(some (37,false))⟩,
 ⟨(some 42),.load1 (.tmp 41),(some (37,false))⟩,
 ⟨(some 43),.call 60 [(.const (.int .i64 0)),(.tmp 40),(.tmp 42)],(some (37,false))⟩,
 ⟨(some 44),.not (.tmp 43),(some (37,false))⟩,
 ⟨(some 45),.pick (.tmp 37) (.const (.bool true)) (.tmp 44),none⟩,
 ⟨(some 46),.mov (.tmp 45),none⟩,
 ⟨(some 47),.fldA 3 (.tmp 1),(some (46,false))⟩,
 ⟨(some 48),.load1 (.tmp 47),(some (46,false))⟩,
 ⟨(some 49),.lenS (.tmp 48),(some (46,false))⟩,
 ⟨(some 50),.ar .i64 .gtr (.tmp 49) (.const (.int .i64 15)),(some (46,false))⟩,
 ⟨(some 51),.pick (.tmp 46) (.const (.bool true)) (.tmp 50),none⟩])
 (.cond (.tmp 51) (.seq (.ops [⟨(some 2),.mov (.const (.int .i64 60)),none⟩])
 .ret)
 .skip))
 (.seq (.seq (.ops [⟨(some 52),.fldA 3 (.tmp 1),none⟩,
 ⟨(some 53),.load1 (.tmp 52),none⟩,
 ⟨(some 54),.lenS (.tmp 53),none⟩,
 ⟨(some 55),.mov (.const (.int .i64 0)),none⟩])
 (.block 0 (.loop (.seq (.ops [⟨(some 56),.ar .i64 .lss (.tmp 55) (.tmp 54),none⟩])
 (.seq (.cond (.tmp 56) .skip
 (.exit 0))
 (.seq (.block 1 (.seq (.ops [⟨(some 57),.mov (.tmp 55),none⟩,
 ⟨(some 58),.idxS 4 (.tmp 53) (.tmp 55),none⟩,
 ⟨(some 59),.loadN 4 (.tmp 58),none⟩,
 ⟨(some 4),.alloc 96 [(.int .i64 0),(.int .i64 0),(.int .i64 0),(.int .i64 0)],none⟩,
 ⟨(some 3),.mov (.tmp 57),none⟩,
 ⟨none,.store 4 (.tmp 4) (.tmp 59),none⟩])
 (.seq (.seq (.ops [⟨(some 60),.fldA 0 (.tmp 1),none⟩,
 ⟨(some 61),.load1 (.tmp 60),none⟩,
 ⟨(some 62),.ar .i64 .sub (.tmp 61) (.const (.int .i64 1)),none⟩,
 ⟨(some 63),.cutA 4 1 (.tmp 4) none none none,none⟩,
 ⟨(some 64),.call 60 [(.const (.int .i64 0)),(.tmp 62),(.tmp 63)],none⟩,
 ⟨(some 65),.not (.tmp 64),none⟩,
 ⟨(some 66),.mov (.tmp 65),none⟩,
 ⟨(some 67),.idxA 4 1 (.tmp 4) (.const (.int .i64 0)),(some (66,false))⟩,
 ⟨(some 68),.load1 (.tmp 67),(some (66,false))⟩,
 ⟨(some 69),.idxA 4 1 (.tmp 4) (.const (.int .i64 1)),(some (66,false))⟩,
 ⟨(some 70),.load1 (.tmp 69),(some (66,false))⟩,
 ⟨(some 71),.ar .i64 .gtr (.tmp 68) (.tmp 70),(some (66,false))⟩,
 ⟨(some 72),.pick (.tmp 66) (.const (.bool true)) (.tmp 71),none⟩])
 (.cond (.tmp 72) (.seq (.ops [⟨(some 2),.mov (.const (.int .i64 60)),none⟩])
 .ret)
 .skip))
 (.seq (.ops [⟨(some 73),.mov (.tmp 3),none⟩,
 ⟨(some 74),.ar .i64 .gtr (.tmp 73) (.const (.int .i64 0)),none⟩,
 ⟨(some 75),.mov (.tmp 74),none⟩,
 ⟨(some 76),.fldA 3 (.tmp 1),(some (75,true))⟩,
 ⟨(some 77),.load1 (.tmp 76),(some (75,true))⟩,
 ⟨(some 78),.mov (.tmp 3),(some (75,true))⟩,
 ⟨(some 79),.ar .i64 .sub (.tmp 78) (.const (.int .i64 1)),(some (75,true))⟩,
 ⟨(some 80),.idxS 4 (.tmp 77) (.tmp 79),(some (75,true))⟩,
 ⟨(some 81),.cutA 4 1 (.tmp 80) none (some (.const (.int .i64 2))) none,(some (75,true))⟩,
 ⟨(some 82),.cutA 4 1 (.tmp 4) none (some (.const (.int .i64 2))) none,(some (75,true))⟩,
 ⟨(some 83),.call 61 [(.tmp 81),(.tmp 82)],(some (75,true))⟩,
 ⟨(some 84),.ar .i64 .geq (.tmp 83) (.const (.int .i64 0)),(some (75,true))⟩,
 ⟨(some 85),.pick (.tmp 75) (.tmp 84) (.const (.bool false)),none⟩])
 (.cond (.tmp 85) (.seq (.ops [⟨(some 2),.mov (.const (.int .i64 60)),none⟩])
 .ret)
 .skip)))))
 (.ops [⟨(some 86),.ar .i64 .add (.tmp 55) (.const (.int .i64 1)),none⟩,
 ⟨(some 55),.mov (.tmp 86),none⟩])))))))
 (.seq (.ops [⟨(some 2),.mov (.const (.int .i64 0)),none⟩])
 .ret)))))
theorem enter21 {xs : List Value} {h : Hp} {Q : Value → Hp → Prop} (hl : xs.length ≤ 87) (w : wq E 87 none c21 (frameOf xs) h [] (leaveQ E [.tmp 2] Q)) : CallP E 21 xs h Q :=
  CallP.enterQ (fn := Try.f21) (fn_get Try.func21) (code := Try.f21.body.get rfl) rfl rfl rfl (by kernel_rfl) rfl (fun _ => rfl) hl w
theorem can21 : callable E 21 = true := callable_get Try.func21 rfl rfl
theorem memo27 {h : Hp} {Q : Value → Hp → Prop} (q : Q (.bool true) h) : CallP E 27 [] h Q := CallP.memo rfl q
def c30 : C := (.seq (.ops [⟨(some 2),.box 25 (.tmp 0),none⟩,
 ⟨(some 4),.mov (.const (.int .i64 0)),none⟩,
 ⟨(some 5),.mov (.const (.int .i64 0)),none⟩])
 (.seq (.ops [⟨(some 9),.loadN 4 (.tmp 2),none⟩,
 ⟨(some 10),.mov (.tmp 1),none⟩,
 ⟨(some 11),.call 73 [(.tmp 9),(.tmp 10)],none⟩,
 ⟨(some 8),.mov (.tmp 11),none⟩,
 ⟨(some 12),.ext (.tmp 8) 0,none⟩,
 ⟨(some 13),.ext (.tmp 8) 1,none⟩,
 ⟨(some 6),.alloc 107 [(.int .i64 0),(.int .i64 0),(.int .i64 0),(.int .i64 0),(.int .i64 0)],none⟩,
 ⟨none,.store 5 (.tmp 6) (.tmp 12),none⟩,
 ⟨(some 7),.mov (.tmp 13),none⟩])
 (.seq (.seq (.ops [⟨(some 14),.mov (.tmp 7),none⟩,
 ⟨(some 15),.ar .i64 .neq (.tmp 14) (.const (.int .i64 0)),none⟩])
 (.cond (.tmp 15) (.seq (.ops [⟨(some 16),.mov (.tmp 7),none⟩,
 ⟨(some 4),.mov (.const (.int .i64 0)),none⟩,
 ⟨(some 5),.mov (.tmp 16),none⟩])
 .ret)
 .skip))
 (.seq (.ops [⟨(some 17),.loadN 4 (.tmp 2),none⟩,
 ⟨(some 18),.loadN 5 (.tmp 6),none⟩,
 ⟨(some 19),.call 66 [(.tmp 17),(.tmp 18)],none⟩,
 ⟨(some 20),.fld1 0 (.tmp 19),none⟩,
 ⟨(some 21),.lenS (.tmp 20),none⟩,
 ⟨(some 4),.mov (.tmp 21),none⟩,
 ⟨(some 5),.mov (.const (.int .i64 0)),none⟩])
 .ret))))
theorem enter30 {xs : List Value} {h : Hp} {Q : Value → Hp → Prop} (hl : xs.length ≤ 22) (w : wq E 22 none c30 (frameOf xs) h [] (leaveQ E [.tmp 4,.tmp 5] Q)) : CallP E 30 xs h Q :=
  CallP.enterQ (fn := Try.f30) (fn_get Try.func30) (code := Try.f30.body.get rfl) rfl rfl rfl (by kernel_rfl) rfl (fun _ => rfl) hl w
theorem can30 : callable E 30 = true := callable_get Try.func30 rfl rfl
def c31 : C := (.seq (.ops [⟨(some 2),.box 25 (.tmp 0),none⟩,
 ⟨(some 4),.mov (.const (.int .i64 0)),none⟩,
 ⟨(some 5),.mov (.const (.bool false)),none⟩,
 ⟨(some 6),.mov (.const (.int .i64 0)),none⟩])
 (.seq (.ops [⟨(some 12),.loadN 4 (.tmp 2),none⟩,
 ⟨(some 13),.mov (.tmp 1),none⟩,
 ⟨(some 14),.call 73 [(.tmp 12),(.tmp 13)],none⟩,
 ⟨(some 11),.mov (.tmp 14),none⟩,
 ⟨(some 15),.ext (.tmp 11) 0,none⟩,
 ⟨(some 16),.ext (.tmp 11) 1,none⟩,
 ⟨(some 7),.alloc 107 [(.int .i64 0),(.int .i64 0),(.int .i64 0),(.int .i64 0),(.int .i64 0)],none⟩,
 ⟨none,.store 5 (.tmp 7) (.tmp 15),none⟩,
 ⟨(some 8),.mov (.tmp 16),none⟩])
 (.seq (.seq (.ops [⟨(some 17),.mov (.tmp 8),none⟩,
 ⟨(some 18),.ar .i64 .neq (.tmp 17) (.const (.int .i64 0)),none⟩])
 (.cond (.tmp 18) (.seq (.ops [⟨(some 19),.mov (.tmp 8),none⟩,
 ⟨(some 4),.mov (.const (.int .i64 0)),none⟩,
 ⟨(some 5),.mov (.const (.bool false)),none⟩,
 ⟨(some 6),.mov (.tmp 19),none⟩])
 .ret)
 .skip))
 (.seq (.draw [⟨(some 21),.loadN 4 (.tmp 2),none⟩,
 ⟨(some 22),.func (.func 79) [(.tmp 21)] [],none⟩,
 ⟨(some 23),.loadN 4 (.tmp 2),none⟩,
 ⟨(some 24),.loadN 5 (.tmp 7),none⟩,
 ⟨(some 25),.call 66 [(.tmp 23),(.tmp 24)],none⟩,
 ⟨(some 26),.call 78 [(.tmp 22),(.tmp 25)],none⟩,
 ⟨(some 20),.mov (.tmp 26),none⟩,
 ⟨(some 27),.ext (.tmp 20) 0,none⟩,
 ⟨(some 28),.ext (.tmp 20) 1,none⟩,
 ⟨(some 9),.mov (.tmp 27),none⟩,
 ⟨(some 10),.mov (.tmp 28),none⟩]
 [⟨false,true,[false,false,false,false,false,false,false,false,false,false,false],[false,false,false,false,true,false,false,false,false,false,false]⟩,
 ⟨false,true,[false,false,false,false,false,false,false,false,false,false,false],[false,false,false,false,true,false,false,false,false,false,false]⟩,
 ⟨false,false,[false,false,false,false,false,false,false,false,false,false,false],[false,false,false,false,false,false,false,false,false,false,false]⟩,
 ⟨false,false,[false,false,false,false,false,false,false,false,false,false,false],[false,false,false,false,false,false,false,false,false,false,false]⟩,
 ⟨true,false,[false,false,false,false,false,false,false,false,false,false,false],[false,false,false,false,true,false,false,false,false,false,false]⟩,
 ⟨true,false,[false,false,false,false,true,false,false,false,false,false,false],[false,false,false,false,true,true,false,false,false,false,false]⟩,
 ⟨false,false,[false,false,false,false,true,true,false,false,false,false,false],[false,false,false,false,true,true,false,false,false,false,false]⟩,
 ⟨false,false,[false,false,false,false,true,true,false,false,false,false,false],[false,false,false,false,true,true,false,false,false,false,false]⟩,
 ⟨false,false,[false,false,false,false,true,true,false,false,false,false,false],[false,false,false,false,true,true,false,false,false,false,false]⟩,
 ⟨false,false,[false,false,false,false,true,true,false,false,false,false,false],[false,false,false,false,true,true,false,false,false,false,false]⟩,
 ⟨false,false,[false,false,false,false,true,true,false,false,false,false,false],[false,false,false,false,true,true,false,false,false,false,false]⟩])
 (.seq (.ops [⟨(some 29),.mov (.tmp 9),none⟩,
 ⟨(some 30),.mov (.tmp 10),none⟩,
 ⟨(some 4),.mov (.tmp 29),none⟩,
 ⟨(some 5),.mov (.tmp 30),none⟩,
 ⟨(some 6),.mov (.const (.int .i64 0)),none⟩])
 .ret)))))
theorem enter31 {xs : List Value} {h : Hp} {Q : Value → Hp → Prop} (hl : xs.length ≤ 31) (w : wq E 31 none c31 (frameOf xs) h [] (leaveQ E [.tmp 4,.tmp 5,.tmp 6] Q)) : CallP E 31 xs h Q :=
  CallP.enterQ (fn := Try.f31) (fn_get Try.func31) (code := Try.f31.body.get rfl) rfl rfl rfl (by kernel_rfl) rfl (fun _ => rfl) hl w
theorem can31 : callable E 31 = true := callable_get Try.func31 rfl rfl
def c32 : C := (.seq (.ops [⟨(some 2),.box 25 (.tmp 0),none⟩,
 ⟨(some 4),.mov (.const (.int .i64 0)),none⟩,
 ⟨(some 5),.mov (.const (.bool false)),none⟩,
 ⟨(some 6),.mov (.const (.int .i64 0)),none⟩])
 (.seq (.ops [⟨(some 12),.loadN 4 (.tmp 2),none⟩,
 ⟨(some 13),.mov (.tmp 1),none⟩,
 ⟨(some 14),.call 73 [(.tmp 12),(.tmp 13)],none⟩,
 ⟨(some 11),.mov (.tmp 14),none⟩,
 ⟨(some 15),.ext (.tmp 11) 0,none⟩,
 ⟨(some 16),.ext (.tmp 11) 1,none⟩,
 ⟨(some 7),.alloc 107 [(.int .i64 0),(.int .i64 0),(.int .i64 0),(.int .i64 0),(.int .i64 0)],none⟩,
 ⟨none,.store 5 (.tmp 7) (.tmp 15),none⟩,
 ⟨(some 8),.mov (.tmp 16),none⟩])
 (.seq (.seq (.ops [⟨(some 17),.mov (.tmp 8),none⟩,
 ⟨(some 18),.ar .i64 .neq (.tmp 17) (.const (.int .i64 0)),none⟩])
 (.cond (.tmp 18) (.seq (.ops [⟨(some 19),.mov (.tmp 8),none⟩,
 ⟨(some 4),.mov (.const (.int .i64 0)),none⟩,
 ⟨(some 5),.mov (.const (.bool false)),none⟩,
 ⟨(some 6),.mov (.tmp 19),none⟩])
 .ret)
 .skip))
 (.seq (.draw [⟨(some 21),.loadN 4 (.tmp 2),none⟩,
 ⟨(some 22),.func (.func 65) [(.tmp 21)] [],none⟩,
 ⟨(some 23),.loadN 4 (.tmp 2),none⟩,
 ⟨(some 24),.loadN 5 (.tmp 7),none⟩,
 ⟨(some 25),.call 66 [(.tmp 23),(.tmp 24)],none⟩,
 ⟨(some 26),.call 78 [(.tmp 22),(.tmp 25)],none⟩,
 ⟨(some 20),.mov (.tmp 26),none⟩,
 ⟨(some 27),.ext (.tmp 20) 0,none⟩,
 ⟨(some 28),.ext (.tmp 20) 1,none⟩,
 ⟨(some 9),.mov (.tmp 27),none⟩,
 ⟨(some 10),.mov (.tmp 28),none⟩]
 [⟨false,true,[false,false,false,false,false,false,false,false,false,false,false],[false,false,false,false,true,false,false,false,false,false,false]⟩,
 ⟨false,true,[false,false,false,false,false,false,false,false,false,false,false],[false,false,false,false,true,false,false,false,false,false,false]⟩,
 ⟨false,false,[false,false,false,false,false,false,false,false,false,false,false],[false,false,false,false,false,false,false,false,false,false,false]⟩,
 ⟨false,false,[false,false,false,false,false,false,false,false,false,false,false],[false,false,false,false,false,false,false,false,false,false,false]⟩,
 ⟨true,false,[false,false,false,false,false,false,false,false,false,false,false],[false,false,false,false,true,false,false,false,false,false,false]⟩,
 ⟨true,false,[false,false,false,false,true,false,false,false,false,false,false],[false,false,false,false,true,true,false,false,false,false,false]⟩,
 ⟨false,false,[false,false,false,false,true,true,false,false,false,false,false],[false,false,false,false,true,true,false,false,false,false,false]⟩,
 ⟨false,false,[false,false,false,false,true,true,false,false,false,false,false],[false,false,false,false,true,true,false,false,false,false,false]⟩,
 ⟨false,false,[false,false,false,false,true,true,false,false,false,false,false],[false,false,false,false,true,true,false,false,false,false,false]⟩,
 ⟨false,false,[false,false,false,false,true,true,false,false,false,false,false],[false,false,false,false,true,true,false,false,false,false,false]⟩,
 ⟨false,false,[false,false,false,false,true,true,false,false,false,false,false],[false,false,false,false,true,true,false,false,false,false,false]⟩])
 (.seq (.ops [⟨(some 29),.mov (.tmp 9),none⟩,
 ⟨(some 30),.mov (.tmp 10),none⟩,
 ⟨(some 4),.mov (.tmp 29),none⟩,
 ⟨(some 5),.mov (.tmp 30),none⟩,
 ⟨(some 6),.mov (.const (.int .i64 0)),none⟩])
 .ret)))))
theorem enter32 {xs : List Value} {h : Hp} {Q : Value → Hp → Prop} (hl : xs.length ≤ 31) (w : wq E 31 none c32 (frameOf xs) h [] (leaveQ E [.tmp 4,.tmp 5,.tmp 6] Q)) : CallP E 32 xs h Q :=
  CallP.enterQ (fn := Try.f32) (fn_get Try.func32) (code := Try.f32.body.get rfl) rfl rfl rfl (by kernel_rfl) rfl (fun _ => rfl) hl w
theorem can32 : callable E 32 = true := callable_get Try.func32 rfl rfl
def c34 : C := (.seq (.ops [⟨(some 2),.box 25 (.tmp 0),none⟩,
 ⟨(some 4),.alloc 26 [(.int .i64 0),(.slice none 0 0),(.slice none 0 0),(.slice none 0 0)],none⟩])
 (.seq (.ops [⟨(some 20),.fldA 0 (.tmp 2),none⟩,
 ⟨(some 21),.load1 (.tmp 20),none⟩,
 ⟨(some 22),.cint .u64 (.tmp 21),none⟩,
 ⟨(some 23),.mov (.tmp 1),none⟩,
 ⟨(some 24),.cint .u64 (.tmp 23),none⟩,
 ⟨(some 25),.ar .u64 .rem (.tmp 22) (.tmp 24),none⟩,
 ⟨(some 26),.cint .i64 (.tmp 25),none⟩,
 ⟨(some 27),.ar .i64 .add (.const (.int .i64 1)) (.tmp 26),none⟩,
 ⟨(some 5),.mov (.tmp 27),none⟩])
 (.seq (.ops [⟨(some 28),.mov (.tmp 5),none⟩,
 ⟨(some 29),.aggr [(.int .i64 0),(.slice none 0 0),(.slice none 0 0),(.slice none 0 0)] [(0,1,(.tmp 28))],none⟩,
 ⟨(some 6),.alloc 26 [(.int .i64 0),(.slice none 0 0),(.slice none 0 0),(.slice none 0 0)],none⟩,
 ⟨none,.store 4 (.tmp 6) (.tmp 29),none⟩])
 (.seq (.seq (.ops [⟨(some 7),.mov (.const (.int .i64 0)),none⟩])
 (.block 0 (.loop (.seq (.seq (.ops [⟨(some 30),.mov (.tmp 7),none⟩,
 ⟨(some 31),.mov (.tmp 5),none⟩,
 ⟨(some 32),.ar .i64 .lss (.tmp 30) (.tmp 31),none⟩])
 (.cond (.tmp 32) .skip
 (.exit 0)))
 (.seq (.block 1 (.seq (.ops [⟨(some 8),.mov (.const (.int .i64 0)),none⟩])
 (.seq (.seq (.ops [⟨(some 35),.mov (.tmp 7),none⟩,
 ⟨(some 36),.fldA 1 (.tmp 2),none⟩,
 ⟨(some 37),.load1 (.tmp 36),none⟩,
 ⟨(some 38),.lenS (.tmp 37),none⟩,
 ⟨(some 39),.ar .i64 .lss (.tmp 35) (.tmp 38),none⟩])
 (.cond (.tmp 39) (.ops [⟨(some 40),.fldA 1 (.tmp 2),none⟩,
 ⟨(some 41),.load1 (.tmp 40),none⟩,
 ⟨(some 42),.mov (.tmp 7),none⟩,
 ⟨(some 43),.idxS 1 (.tmp 41) (.tmp 42),none⟩,
 ⟨(some 44),.load1 (.tmp 43),none⟩,
 ⟨(some 45),.cint .u64 (.tmp 44),none⟩,
 ⟨(some 46),.ar .u64 .rem (.tmp 45) (.const (.int .u64 2)),none⟩,
 ⟨(some 47),.cint .i64 (.tmp 46),none⟩,
 ⟨(some 8),.mov (.tmp 47),none⟩])
 .skip))
 (.seq (.ops [⟨(some 48),.fldA 1 (.tmp 6),none⟩,
 ⟨(some 49),.load1 (.tmp 48),none⟩,
 ⟨(some 9),.mov (.tmp 49),none⟩])
 (.ops [⟨(some 50),.mov (.tmp 9),none⟩,
 ⟨(some 51),.mov (.tmp 8),none⟩,
 ⟨(some 52),.slit 3 1 [(.int .i64 0)] [(0,1,(.tmp 51))],none⟩,
 ⟨(some 53),.append 3 1 8 (.tmp 50) (.tmp 52),none⟩,
 ⟨(some 54),.fldA 1 (.tmp 6),none⟩,
 ⟨none,.store 1 (.tmp 54) (.tmp 53),none⟩])))))
 (.ops [⟨(some 33),.mov (.tmp 7),none⟩,
 ⟨(some 34),.ar .i64 .add (.tmp 33) (.const (.int .i64 1)),none⟩,
 ⟨(some 7),.mov (.tmp 34),none⟩]))))))
 (.seq (.seq (.ops [⟨(some 10),.mov (.const (.int .i64 0)),none⟩])
 (.block 2 (.loop (.seq (.seq (.ops [⟨(some 55),.mov (.tmp 10),none⟩,
 ⟨(some 56),.ar .i64 .lss (.tmp 55) (.const (.int .i64 1)),none⟩,
 ⟨(some 57),.mov (.tmp 56),none⟩,
 ⟨(some 58),.mov (.tmp 10),(some (57,false))⟩,
 ⟨(some 59),.fldA 2 (.tmp 2),(some (57,false))⟩,
 ⟨(some 60),.load1 (.tmp 59),(some (57,false))⟩,
 ⟨(some 61),.lenS (.tmp 60),(some (57,false))⟩,
 ⟨(some 62),.ar .i64 .lss (.tmp 58) (.tmp 61),(some (57,false))⟩,
 ⟨(some 63),.mov (.tmp 62),(some (57,false))⟩,
 ⟨(some 64),.mov (.tmp 10),(some (63,true))⟩,
 ⟨(some 65),.ar .i64 .lss (.tmp 64) (.const (.int .i64 2)),(some (63,true))⟩,
 ⟨(some 66),.pick (.tmp 63) (.tmp 65) (.const (.bool false)),(some (57,false))⟩,
 ⟨(some 67),.pick (.tmp 57) (.const (.bool true)) (.tmp 66),none⟩])
 (.cond (.tmp 67) .skip
 (.exit 2)))
 (.seq (.block 3 (.seq (.ops [⟨(some 11),.mov (.const (.int .i64 0)),none⟩])
 (.seq (.seq (.ops [⟨(some 70),.mov (.tmp 10),none⟩,
 ⟨(some 71),.fldA 2 (.tmp 2),none⟩,
 ⟨(some 72),.load1 (.tmp 71),none⟩,
 ⟨(some 73),.lenS (.tmp 72),none⟩,
 ⟨(some 74),.ar .i64 .lss (.tmp 70) (.tmp 73),none⟩])
 (.cond (.tmp 74) (.ops [⟨(some 75),.fldA 2 (.tmp 2),none⟩,
 ⟨(some 76),.load1 (.tmp 75),none⟩,
 ⟨(some 77),.mov (.tmp 10),none⟩,
 ⟨(some 78),.idxS 1 (.tmp 76) (.tmp 77),none⟩,
 ⟨(some 79),.load1 (.tmp 78),none⟩,
 ⟨(some 80),.cint .u64 (.tmp 79),none⟩,
 ⟨(some 81),.mov (.tmp 5),none⟩,
 ⟨(some 82),.cint .u64 (.tmp 81),none⟩,
 ⟨(some 83),.ar .u64 .rem (.tmp 80) (.tmp 82),none⟩,
 ⟨(some 84),.cint .i64 (.tmp 83),none⟩,
 ⟨(some 11),.mov (.tmp 84),none⟩])
 .skip))
 (.seq (.ops [⟨(some 85),.fldA 2 (.tmp 6),none⟩,
 ⟨(some 86),.load1 (.tmp 85),none⟩,
 ⟨(some 12),.mov (.tmp 86),none⟩])
 (.ops [⟨(some 87),.mov (.tmp 12),none⟩,
 ⟨(some 88),.mov (.tmp 11),none⟩,
 ⟨(some 89),.slit 3 1 [(.int .i64 0)] [(0,1,(.tmp 88))],none⟩,
 ⟨(some 90),.append 3 1 8 (.tmp 87) (.tmp 89),none⟩,
 ⟨(some 91),.fldA 2 (.tmp 6),none⟩,
 ⟨none,.store 1 (.tmp 91) (.tmp 90),none⟩])))))
 (.ops [⟨(some 68),.mov (.tmp 10),none⟩,
 ⟨(some 69),.ar .i64 .add (.tmp 68) (.const (.int .i64 1)),none⟩,
 ⟨(some 10),.mov (.tmp 69),none⟩]))))))
 (.seq (.seq (.ops [⟨(some 13),.mov (.const (.int .i64 0)),none⟩])
 (.block 4 (.loop (.seq (.seq (.ops [⟨(some 92),.mov (.tmp 13),none⟩,
 ⟨(some 93),.mov (.tmp 5),none⟩,
 ⟨(some 94),.ar .i64 .lss (.tmp 92) (.tmp 93),none⟩])
 (.cond (.tmp 94) .skip
 (.exit 4)))
 (.seq (.block 5 (.seq (.ops [⟨(some 97),.mov (.tmp 13),none⟩,
 ⟨(some 14),.mov (.tmp 97),none⟩])
 (.block 6 (.loop (.seq (.seq (.ops [⟨(some 98),.mov (.tmp 14),none⟩,
 ⟨(some 99),.mov (.tmp 5),none⟩,
 ⟨(some 100),.ar .i64 .lss (.tmp 98) (.tmp 99),none⟩])
 (.cond (.tmp 100) .skip
 (.exit 6)))
 (.seq (.block 7 (.seq (.ops [⟨(some 15),.mov (.const (.int .i64 0)),none⟩])
 (.block 8 (.loop (.seq (.seq (.ops [⟨(some 103),.mov (.tmp 15),none⟩,
 ⟨(some 104),.fldA 3 (.tmp 2),none⟩,
 ⟨(some 105),.load1 (.tmp 104),none⟩,
 ⟨(some 106),.lenS (.tmp 105),none⟩,
 ⟨(some 107),.ar .i64 .lss (.tmp 103) (.tmp 106),none⟩,
 ⟨(some 108),.mov (.tmp 107),none⟩,
 ⟨(some 109),.mov (.tmp 15),(some (108,true))⟩,
 ⟨(some 110),.ar .i64 .lss (.tmp 109) (.const (.int .i64 40)),(some (108,true))⟩,
 ⟨(some 111),.pick (.tmp 108) (.tmp 110) (.const (.bool false)),none⟩])
 (.cond (.tmp 111) .skip
 (.exit 8)))
 (.seq (.block 9 (.seq (.ops [⟨(some 114),.fldA 3 (.tmp 2),none⟩,
 ⟨(some 115),.load1 (.tmp 114),none⟩,
 ⟨(some 116),.mov (.tmp 15),none⟩,
 ⟨(some 117),.idxS 4 (.tmp 115) (.tmp 116),none⟩,
 ⟨(some 118),.loadN 4 (.tmp 117),none⟩,
 ⟨(some 16),.alloc 96 [(.int .i64 0),(.int .i64 0),(.int .i64 0),(.int .i64 0)],none⟩,
 ⟨none,.store 4 (.tmp 16) (.tmp 118),none⟩])
 (.seq (.ops [⟨(some 119),.idxA 4 1 (.tmp 16) (.const (.int .i64 0)),none⟩,
 ⟨(some 120),.load1 (.tmp 119),none⟩,
 ⟨(some 121),.cint .u64 (.tmp 120),none⟩,
 ⟨(some 122),.mov (.tmp 5),none⟩,
 ⟨(some 123),.cint .u64 (.tmp 122),none⟩,
 ⟨(some 124),.ar .u64 .rem (.tmp 121) (.tmp 123),none⟩,
 ⟨(some 125),.cint .i64 (.tmp 124),none⟩,
 ⟨(some 126),.idxA 4 1 (.tmp 16) (.const (.int .i64 1)),none⟩,
 ⟨(some 127),.load1 (.tmp 126),none⟩,
 ⟨(some 128),.cint .u64 (.tmp 127),none⟩,
 ⟨(some 129),.mov (.tmp 5),none⟩,
 ⟨(some 130),.cint .u64 (.tmp 129),none⟩,
 ⟨(some 131),.ar .u64 .rem (.tmp 128) (.tmp 130),none⟩,
 ⟨(some 132),.cint .i64 (.tmp 131),none⟩,
 ⟨(some 17),.mov (.tmp 125),none⟩,
 ⟨(some 18),.mov (.tmp 132),none⟩])
 (.seq (.seq (.ops [⟨(some 133),.mov (.tmp 17),none⟩,
 ⟨(some 134),.mov (.tmp 18),none⟩,
 ⟨(some 135),.raw (.call ⟨.builtin .min,⟨[(.tmp 133),(.tmp 134)]⟩,⟨[3,3]⟩⟩) 3,none⟩,
 ⟨(some 136),.mov (.tmp 13),none⟩,
 ⟨(some 137),.ar .i64 .neq (.tmp 135) (.tmp 136),none⟩,
 ⟨(some 138),.mov (.tmp 137),none⟩,
 ⟨(some 139),.mov (.tmp 17),(some (138,false))⟩,
 ⟨(some 140),.mov (.tmp 18),(some (138,false))⟩,
 ⟨(some 141),.raw (.call ⟨.builtin .max,⟨[(.tmp 139),(.tmp 140)]⟩,⟨[3,3]⟩⟩) 3,(some (138,false))⟩,
 ⟨(some 142),.mov (.tmp 14),(some (138,false))⟩,
 ⟨(some 143),.ar .i64 .neq (.tmp 141) (.tmp 142),(some (138,false))⟩,
 ⟨(some 144),.pick (.tmp 138) (.const (.bool true)) (.tmp 143),none⟩])
 (.cond (.tmp 144) (.exit 9)
 .skip))
 (.seq (.ops [⟨(some 145),.fldA 3 (.tmp 6),none⟩,
 ⟨(some 146),.load1 (.tmp 145),none⟩,
 ⟨(some 19),.mov (.tmp 146),none⟩])
 (.seq (.draw [⟨(some 147),.mov (.tmp 19),none⟩,
 ⟨(some 148),.mov (.tmp 13),none⟩,
 ⟨(some 149),.mov (.tmp 14),none⟩,
 ⟨(some 150),.idxA 4 1 (.tmp 16) (.const (.int .i64 2)),none⟩,
 ⟨(some 151),.load1 (.tmp 150),none⟩,
 ⟨(some 152),.cint .u64 (.tmp 151),none⟩,
 ⟨(some 153),.mov (.tmp 5),none⟩,
 ⟨(some 154),.cint .u64 (.tmp 153),none⟩,
 ⟨(some 155),.ar .u64 .rem (.tmp 152) (.tmp 154),none⟩,
 ⟨(some 156),.cint .i64 (.tmp 155),none⟩,
 ⟨(some 157),.idxA 4 1 (.tmp 16) (.const (.int .i64 3)),none⟩,
 ⟨(some 158),.load1 (.tmp 157),none⟩,
 ⟨(some 159),.cint .u64 (.tmp 158),none⟩,
 ⟨(some 160),.mov (.tmp 5),none⟩,
 ⟨(some 161),.cint .u64 (.tmp 160),none⟩,
 ⟨(some 162),.ar .u64 .rem (.tmp 159) (.tmp 161),none⟩,
 ⟨(some 163),.cint .i64 (.tmp 162),none⟩,
 ⟨(some 164),.aggr [(.int .i64 0),(.int .i64 0),(.int .i64 0),(.int .i64 0)] [(0,1,(.tmp 148)),(1,1,(.tmp 149)),(2,1,(.tmp 156)),(3,1,(.tmp 163))],none⟩,
 ⟨(some 165),.slit 96 1 [(.int .i64 0),(.int .i64 0),(.int .i64 0),(.int .i64 0)] [(0,4,(.tmp 164))],none⟩,
 ⟨(some 166),.append 96 4 32 (.tmp 147) (.tmp 165),none⟩,
 ⟨(some 167),.fldA 3 (.tmp 6),none⟩,
 ⟨none,.store 1 (.tmp 167) (.tmp 166),none⟩]
 [⟨false,true,[false,false,false,false,false,false,false,false,false,false,false,false,false,false,false,false,false,false,false,false,false,false],[false,false,false,false,false,false,false,false,false,false,false,false,false,false,false,false,false,false,true,false,false,false]⟩,
 ⟨false,false,[false,false,false,false,false,false,false,false,false,false,false,false,false,false,false,false,false,false,false,false,false,false],[false,false,false,false,false,false,false,false,false,false,false,false,false,false,false,false,false,false,false,false,false,false]⟩,
 ⟨false,false,[false,false,false,false,false,false,false,false,false,false,false,false,false,false,false,false,false,false,false,false,false,false],[false,false,false,false,false,false,false,false,false,false,false,false,false,false,false,false,false,false,false,false,false,false]⟩,
 ⟨false,false,[false,false,false,false,false,false,false,false,false,false,false,false,false,false,false,false,false,false,false,false,false,false],[false,false,false,false,false,false,false,false,false,false,false,false,false,false,false,false,false,false,false,false,false,false]⟩,
 ⟨false,false,[false,false,false,false,false,false,false,false,false,false,false,false,false,false,false,false,false,false,false,false,false,false],[false,false,false,false,false,false,false,false,false,false,false,false,false,false,false,false,false,false,false,false,false,false]⟩,
 ⟨false,false,[false,false,false,false,false,false,false,false,false,false,false,false,false,false,false,false,false,false,false,false,false,false],[false,false,false,false,false,false,false,false,false,false,false,false,false,false,false,false,false,false,false,false,false,false]⟩,
 ⟨false,false,[false,false,false,false,false,false,false,false,false,false,false,false,false,false,false,false,false,false,false,false,false,false],[false,false,false,false,false,false,false,false,false,false,false,false,false,false,false,false,false,false,false,false,false,false]⟩,
 ⟨false,false,[false,false,false,false,false,false,false,false,false,false,false,false,false,false,false,false,false,false,false,false,false,false],[false,false,false,false,false,false,false,false,false,false,false,false,false,false,false,false,false,false,false,false,false,false]⟩,
 ⟨false,false,[false,false,false,false,false,false,false,false,false,false,false,false,false,false,false,false,false,false,false,false,false,false],[false,false,false,false,false,false,false,false,false,false,false,false,false,false,false,false,false,false,false,false,false,false]⟩,
 ⟨false,false,[false,false,false,false,false,false,false,false,false,false,false,false,false,false,false,false,false,false,false,false,false,false],[false,false,false,false,false,false,false,false,false,false,false,false,false,false,false,false,false,false,false,false,false,false]⟩,
 ⟨false,false,[false,false,false,false,false,false,false,false,false,false,false,false,false,false,false,false,false,false,false,false,false,false],[false,false,false,false,false,false,false,false,false,false,false,false,false,false,false,false,false,false,false,false,false,false]⟩,
 ⟨false,false,[false,false,false,false,false,false,false,false,false,false,false,false,false,false,false,false,false,false,false,false,false,false],[false,false,false,false,false,false,false,false,false,false,false,false,false,false,false,false,false,false,false,false,false,false]⟩,
 ⟨false,false,[false,false,false,false,false,false,false,false,false,false,false,false,false,false,false,false,false,false,false,false,false,false],[false,false,false,false,false,false,false,false,false,false,false,false,false,false,false,false,false,false,false,false,false,false]⟩,
 ⟨false,false,[false,false,false,false,false,false,false,false,false,false,false,false,false,false,false,false,false,false,false,false,false,false],[false,false,false,false,false,false,false,false,false,false,false,false,false,false,false,false,false,false,false,false,false,false]⟩,
 ⟨false,false,[false,false,false,false,false,false,false,false,false,false,false,false,false,false,false,false,false,false,false,false,false,false],[false,false,false,false,false,false,false,false,false,false,false,false,false,false,false,false,false,false,false,false,false,false]⟩,
 ⟨false,false,[false,false,false,false,false,false,false,false,false,false,false,false,false,false,false,false,false,false,false,false,false,false],[false,false,false,false,false,false,false,false,false,false,false,false,false,false,false,false,false,false,false,false,false,false]⟩,
 ⟨false,false,[false,false,false,false,false,false,false,false,false,false,false,false,false,false,false,false,false,false,false,false,false,false],[false,false,false,false,false,false,false,false,false,false,false,false,false,false,false,false,false,false,false,false,false,false]⟩,
 ⟨false,false,[false,false,false,false,false,false,false,false,false,false,false,false,false,false,false,false,false,false,false,false,false,false],[false,false,false,false,false,false,false,false,false,false,false,false,false,false,false,false,false,false,false,false,false,false]⟩,
 ⟨true,false,[false,false,false,false,false,false,false,false,false,false,false,false,false,false,false,false,false,false,false,false,false,false],[false,false,false,false,false,false,false,false,false,false,false,false,false,false,false,false,false,false,true,false,false,false]⟩,
 ⟨true,false,[false,false,false,false,false,false,false,false,false,false,false,false,false,false,false,false,false,false,true,false,false,false],[false,false,false,false,false,false,false,false,false,false,false,false,false,false,false,false,false,false,true,true,false,false]⟩,
 ⟨false,false,[false,false,false,false,false,false,false,false,false,false,false,false,false,false,false,false,false,false,true,true,false,false],[false,false,false,false,false,false,false,false,false,false,false,false,false,false,false,false,false,false,true,true,false,false]⟩,
 ⟨true,false,[false,false,false,false,false,false,false,false,false,false,false,false,false,false,false,false,false,false,true,true,false,false],[false,false,false,false,false,false,false,false,false,false,false,false,false,false,false,false,false,false,true,true,false,true]⟩])
 (.exit 8)))))))
 (.ops [⟨(some 112),.mov (.tmp 15),none⟩,
 ⟨(some 113),.ar .i64 .add (.tmp 112) (.const (.int .i64 1)),none⟩,
 ⟨(some 15),.mov (.tmp 113),none⟩])))))))
 (.ops [⟨(some 101),.mov (.tmp 14),none⟩,
 ⟨(some 102),.ar .i64 .add (.tmp 101) (.const (.int .i64 1)),none⟩,
 ⟨(some 14),.mov (.tmp 102),none⟩])))))))
 (.ops [⟨(some 95),.mov (.tmp 13),none⟩,
 ⟨(some 96),.ar .i64 .add (.tmp 95) (.const (.int .i64 1)),none⟩,
 ⟨(some 13),.mov (.tmp 96),none⟩]))))))
 (.seq (.ops [⟨(some 168),.loadN 4 (.tmp 6),none⟩,
 ⟨none,.store 4 (.tmp 4) (.tmp 168),none⟩])
 .ret)))))))
theorem enter34 {xs : List Value} {h : Hp} {Q : Value → Hp → Prop} (hl : xs.length ≤ 169) (w : wq E 169 none c34 (frameOf xs) h [] (leaveQ E [.cell 4 26] Q)) : CallP E 34 xs h Q :=
  CallP.enterQ (fn := Try.f34) (fn_get Try.func34) (code := Try.f34.body.get rfl) rfl rfl rfl (by kernel_rfl) rfl (fun _ => rfl) hl w
theorem can34 : callable E 34 = true := callable_get Try.func34 rfl rfl
def c35 : C := (.seq (.ops [⟨(some 6),.mov (.const (.slice none 0 0)),none⟩])
 (.seq (.ops [⟨(some 7),.mov (.const (.slice none 0 0)),none⟩])
 (.seq (.ops [⟨(some 11),.mov (.tmp 2),none⟩,
 ⟨(some 8),.mov (.tmp 11),none⟩])
 (.seq (.seq (.ops [⟨(some 9),.mov (.const (.int .i64 0)),none⟩])
 (.block 0 (.loop (.seq (.seq (.ops [⟨(some 12),.mov (.tmp 9),none⟩,
 ⟨(some 13),.mov (.tmp 1),none⟩,
 ⟨(some 14),.ar .i64 .lss (.tmp 12) (.tmp 13),none⟩])
 (.cond (.tmp 14) .skip
 (.exit 0)))
 (.seq (.block 1 (.seq (.ops [⟨(some 10),.mov (.const (.int .i64 0)),none⟩])
 (.seq (.seq (.ops [⟨(some 17),.mov (.tmp 9),none⟩,
 ⟨(some 18),.mov (.tmp 0),none⟩,
 ⟨(some 19),.lenS (.tmp 18),none⟩,
 ⟨(some 20),.ar .i64 .lss (.tmp 17) (.tmp 19),none⟩])
 (.cond (.tmp 20) (.ops [⟨(some 21),.mov (.tmp 0),none⟩,
 ⟨(some 22),.mov (.tmp 9),none⟩,
 ⟨(some 23),.idxS 1 (.tmp 21) (.tmp 22),none⟩,
 ⟨(some 24),.load1 (.tmp 23),none⟩,
 ⟨(some 25),.cint .u64 (.tmp 24),none⟩,
 ⟨(some 26),.mov (.tmp 8),none⟩,
 ⟨(some 27),.ar .i64 .add (.tmp 26) (.const (.int .i64 1)),none⟩,
 ⟨(some 28),.cint .u64 (.tmp 27),none⟩,
 ⟨(some 29),.ar .u64 .rem (.tmp 25) (.tmp 28),none⟩,
 ⟨(some 30),.cint .i64 (.tmp 29),none⟩,
 ⟨(some 10),.mov (.tmp 30),none⟩])
 .skip))
 (.seq (.ops [⟨(some 31),.mov (.tmp 8),none⟩,
 ⟨(some 32),.mov (.tmp 10),none⟩,
 ⟨(some 33),.ar .i64 .sub (.tmp 31) (.tmp 32),none⟩,
 ⟨(some 8),.mov (.tmp 33),none⟩])
 (.ops [⟨(some 34),.mov (.tmp 7),none⟩,
 ⟨(some 35),.mov (.tmp 10),none⟩,
 ⟨(some 36),.slit 3 1 [(.int .i64 0)] [(0,1,(.tmp 35))],none⟩,
 ⟨(some 37),.append 3 1 8 (.tmp 34) (.tmp 36),none⟩,
 ⟨(some 7),.mov (.tmp 37),none⟩])))))
 (.ops [⟨(some 15),.mov (.tmp 9),none⟩,
 ⟨(some 16),.ar .i64 .add (.tmp 15) (.const (.int .i64 1)),none⟩,
 ⟨(some 9),.mov (.tmp 16),none⟩]))))))
 (.seq (.seq (.ops [⟨(some 38),.mov (.tmp 8),none⟩,
 ⟨(some 39),.mov (.tmp 2),none⟩,
 ⟨(some 40),.ar .i64 .eql (.tmp 38) (.tmp 39),none⟩])
 (.cond (.tmp 40) (.ops [⟨(some 41),.mov (.tmp 7),none⟩,
 ⟨(some 42),.idxS 1 (.tmp 41) (.const (.int .i64 0)),none⟩,
 ⟨none,.store 1 (.tmp 42) (.const (.int .i64 1)),none⟩])
 .skip))
 (.seq (.ops [⟨(some 43),.mov (.tmp 7),none⟩,
 ⟨(some 6),.mov (.tmp 43),none⟩])
 .ret))))))
theorem enter35 {xs : List Value} {h : Hp} {Q : Value → Hp → Prop} (hl : xs.length ≤ 44) (w : wq E 44 none c35 (frameOf xs) h [] (leaveQ E [.tmp 6] Q)) : CallP E 35 xs h Q :=
  CallP.enterQ (fn := Try.f35) (fn_get Try.func35) (code := Try.f35.body.get rfl) rfl rfl rfl (by kernel_rfl) rfl (fun _ => rfl) hl w
theorem can35 : callable E 35 = true := callable_get Try.func35 rfl rfl
def c60 : C := (.seq (.ops [⟨(some 6),.mov (.const (.bool false)),none⟩])
 (.seq (.seq (.ops [⟨(some 9),.mov (.tmp 2),none⟩,
 ⟨(some 10),.lenS (.tmp 9),none⟩,
 ⟨(some 11),.mov (.const (.int .i64 0)),none⟩])
 (.block 0 (.loop (.seq (.ops [⟨(some 12),.ar .i64 .lss (.tmp 11) (.tmp 10),none⟩])
 (.seq (.cond (.tmp 12) .skip
 (.exit 0))
 (.seq (.block 1 (.seq (.ops [⟨(some 13),.idxS 1 (.tmp 9) (.tmp 11),none⟩,
 ⟨(some 14),.load1 (.tmp 13),none⟩,
 ⟨(some 8),.mov (.tmp 14),none⟩])
 (.seq (.ops [⟨(some 15),.mov (.tmp 8),none⟩,
 ⟨(some 16),.mov (.tmp 0),none⟩,
 ⟨(some 17),.ar .i64 .lss (.tmp 15) (.tmp 16),none⟩,
 ⟨(some 18),.mov (.tmp 17),none⟩,
 ⟨(some 19),.mov (.tmp 8),(some (18,false))⟩,
 ⟨(some 20),.mov (.tmp 1),(some (18,false))⟩,
 ⟨(some 21),.ar .i64 .gtr (.tmp 19) (.tmp 20),(some (18,false))⟩,
 ⟨(some 22),.pick (.tmp 18) (.const (.bool true)) (.tmp 21),none⟩])
 (.cond (.tmp 22) (.seq (.ops [⟨(some 6),.mov (.const (.bool false)),none⟩])
 .ret)
 .skip))))
 (.ops [⟨(some 23),.ar .i64 .add (.tmp 11) (.const (.int .i64 1)),none⟩,
 ⟨(some 11),.mov (.tmp 23),none⟩])))))))
 (.seq (.ops [⟨(some 6),.mov (.const (.bool true)),none⟩])
 .ret)))
theorem enter60 {xs : List Value} {h : Hp} {Q : Value → Hp → Prop} (hl : xs.length ≤ 24) (w : wq E 24 none c60 (frameOf xs) h [] (leaveQ E [.tmp 6] Q)) : CallP E 60 xs h Q :=
  CallP.enterQ (fn := Try.f60) (fn_get Try.func60) (code := Try.f60.body.get rfl) rfl rfl rfl (by kernel_rfl) rfl (fun _ => rfl) hl w
theorem can60 : callable E 60 = true := callable_get Try.func60 rfl rfl
def c61 : C := (.seq (.ops [⟨(some 4),.mov (.const (.int .i64 0)),none⟩])
 (.seq (.seq (.ops [⟨(some 9),.mov (.tmp 0),none⟩,
 ⟨(some 10),.lenS (.tmp 9),none⟩,
 ⟨(some 11),.mov (.const (.int .i64 0)),none⟩])
 (.block 0 (.loop (.seq (.ops [⟨(some 12),.ar .i64 .lss (.tmp 11) (.tmp 10),none⟩])
 (.seq (.cond (.tmp 12) .skip
 (.exit 0))
 (.seq (.block 1 (.seq (.ops [⟨(some 13),.mov (.tmp 11),none⟩,
 ⟨(some 14),.idxS 1 (.tmp 9) (.tmp 11),none⟩,
 ⟨(some 15),.load1 (.tmp 14),none⟩,
 ⟨(some 5),.mov (.tmp 13),none⟩,
 ⟨(some 6),.mov (.tmp 15),none⟩])
 (.seq (.seq (.ops [⟨(some 16),.mov (.tmp 5),none⟩,
 ⟨(some 17),.mov (.tmp 1),none⟩,
 ⟨(some 18),.lenS (.tmp 17),none⟩,
 ⟨(some 19),.ar .i64 .geq (.tmp 16) (.tmp 18),none⟩])
 (.cond (.tmp 19) (.seq (.ops [⟨(some 4),.mov (.const (.int .i64 1)),none⟩])
 .ret)
 .skip))
 (.seq (.ops [⟨(some 20),.mov (.tmp 1),none⟩,
 ⟨(some 21),.mov (.tmp 5),none⟩,
 ⟨(some 22),.idxS 1 (.tmp 20) (.tmp 21),none⟩,
 ⟨(some 23),.load1 (.tmp 22),none⟩,
 ⟨(some 7),.mov (.tmp 23),none⟩])
 (.seq (.ops [⟨(some 24),.mov (.tmp 6),none⟩,
 ⟨(some 25),.mov (.tmp 7),none⟩,
 ⟨(some 26),.call 89 [(.tmp 24),(.tmp 25)],none⟩,
 ⟨(some 8),.mov (.tmp 26),none⟩])
 (.seq (.ops [⟨(some 27),.mov (.tmp 8),none⟩,
 ⟨(some 28),.ar .i64 .neq (.tmp 27) (.const (.int .i64 0)),none⟩])
 (.cond (.tmp 28) (.seq (.ops [⟨(some 29),.mov (.tmp 8),none⟩,
 ⟨(some 4),.mov (.tmp 29),none⟩])
 .ret)
 .skip)))))))
 (.ops [⟨(some 30),.ar .i64 .add (.tmp 11) (.const (.int .i64 1)),none⟩,
 ⟨(some 11),.mov (.tmp 30),none⟩])))))))
 (.seq (.seq (.ops [⟨(some 31),.mov (.tmp 0),none⟩,
 ⟨(some 32),.lenS (.tmp 31),none⟩,
 ⟨(some 33),.mov (.tmp 1),none⟩,
 ⟨(some 34),.lenS (.tmp 33),none⟩,
 ⟨(some 35),.ar .i64 .lss (.tmp 32) (.tmp 34),none⟩])
 (.cond (.tmp 35) (.seq (.ops [⟨(some 4),.mov (.const (.int .i64 (-1))),none⟩])
 .ret)
 .skip))
 (.seq (.ops [⟨(some 4),.mov (.const (.int .i64 0)),none⟩])
 .ret))))
theorem enter61 {xs : List Value} {h : Hp} {Q : Value → Hp → Prop} (hl : xs.length ≤ 36) (w : wq E 36 none c61 (frameOf xs) h [] (leaveQ E [.tmp 4] Q)) : CallP E 61 xs h Q :=
  CallP.enterQ (fn := Try.f61) (fn_get Try.func61) (code := Try.f61.body.get rfl) rfl rfl rfl (by kernel_rfl) rfl (fun _ => rfl) hl w
theorem can61 : callable E 61 = true := callable_get Try.func61 rfl rfl
def c65 : C := (.seq (.ops [⟨(some 3),.box 25 (.tmp 0),none⟩,
 ⟨(some 4),.box 104 (.tmp 1),none⟩,
 ⟨(some 6),.mov (.const (.bool false)),none⟩])
 (.seq (.draw [⟨(some 7),.loadN 2 (.tmp 4),none⟩,
 ⟨(some 8),.loadN 4 (.tmp 3),none⟩,
 ⟨(some 9),.loadN 2 (.tmp 4),none⟩,
 ⟨(some 10),.mov (.tmp 2),none⟩,
 ⟨(some 11),.call 93 [(.tmp 8),(.tmp 9),(.tmp 10)],none⟩,
 ⟨(some 12),.call 92 [(.tmp 7),(.tmp 11)],none⟩,
 ⟨(some 13),.call 91 [(.tmp 12),(.const (.bool false))],none⟩,
 ⟨(some 14),.not (.tmp 13),none⟩,
 ⟨(some 6),.mov (.tmp 14),none⟩]
 [⟨false,true,[false,false,false,false,false,false,false,false,false],[false,false,false,false,true,false,false,false,false]⟩,
 ⟨false,false,[false,false,false,false,false,false,false,false,false],[false,false,false,false,false,false,false,false,false]⟩,
 ⟨false,false,[false,false,false,false,false,false,false,false,false],[false,false,false,false,false,false,false,false,false]⟩,
 ⟨false,false,[false,false,false,false,false,false,false,false,false],[false,false,false,false,false,false,false,false,false]⟩,
 ⟨true,false,[false,false,false,false,false,false,false,false,false],[false,false,false,false,true,false,false,false,false]⟩,
 ⟨true,false,[false,false,false,false,true,false,false,false,false],[false,false,false,false,true,true,false,false,false]⟩,
 ⟨true,false,[false,false,false,false,true,true,false,false,false],[false,false,false,false,true,true,true,false,false]⟩,
 ⟨false,false,[false,false,false,false,true,true,true,false,false],[false,false,false,false,true,true,true,false,false]⟩,
 ⟨false,false,[false,false,false,false,true,true,true,false,false],[false,false,false,false,true,true,true,false,false]⟩])
 .ret))
theorem enter65 {xs : List Value} {h : Hp} {Q : Value → Hp → Prop} (hl : xs.length ≤ 15) (w : wq E 15 none c65 (frameOf xs) h [] (leaveQ E [.tmp 6] Q)) : CallP E 65 xs h Q :=
  CallP.enterQ (fn := Try.f65) (fn_get Try.func65) (code := Try.f65.body.get rfl) rfl rfl rfl (by kernel_rfl) rfl (fun _ => rfl) hl w
theorem can65 : callable E 65 = true := callable_get Try.func65 rfl rfl
def c66 : C := (.seq (.ops [⟨(some 2),.box 25 (.tmp 0),none⟩,
 ⟨(some 3),.box 107 (.tmp 1),none⟩,
 ⟨(some 4),.alloc 104 [(.slice none 0 0),(.slice none 0 0)],none⟩])
 (.seq (.ops [⟨(some 12),.aggr [(.slice none 0 0),(.slice none 0 0)] [],none⟩,
 ⟨(some 5),.alloc 104 [(.slice none 0 0),(.slice none 0 0)],none⟩,
 ⟨none,.store 2 (.tmp 5) (.tmp 12),none⟩])
 (.seq (.ops [⟨(some 13),.newMap,none⟩,
 ⟨(some 6),.alloc 137 [(.map none)],none⟩,
 ⟨none,.store 1 (.tmp 6) (.tmp 13),none⟩])
 (.seq (.ops [⟨(some 14),.func (.func 94) [] [(.tmp 6),(.tmp 5)],none⟩,
 ⟨(some 7),.alloc 121 [.nilFunc],none⟩,
 ⟨none,.store 1 (.tmp 7) (.tmp 14),none⟩])
 (.seq (.ops [⟨(some 15),.load1 (.tmp 7),none⟩,
 ⟨(some 16),.loadN 5 (.tmp 3),none⟩,
 ⟨(some 17),.callv (.tmp 15) [(.tmp 16)],none⟩])
 (.seq (.seq (.ops [⟨(some 8),.alloc 3 [(.int .i64 0)],none⟩,
 ⟨none,.store 1 (.tmp 8) (.const (.int .i64 0)),none⟩])
 (.block 0 (.loop (.seq (.seq (.ops [⟨(some 18),.load1 (.tmp 8),none⟩,
 ⟨(some 19),.fldA 0 (.tmp 5),none⟩,
 ⟨(some 20),.load1 (.tmp 19),none⟩,
 ⟨(some 21),.lenS (.tmp 20),none⟩,
 ⟨(some 22),.ar .i64 .lss (.tmp 18) (.tmp 21),none⟩])
 (.cond (.tmp 22) .skip
 (.exit 0)))
 (.seq (.block 1 (.seq (.ops [⟨(some 25),.loadN 4 (.tmp 2),none⟩,
 ⟨(some 26),.fldA 0 (.tmp 5),none⟩,
 ⟨(some 27),.load1 (.tmp 26),none⟩,
 ⟨(some 28),.load1 (.tmp 8),none⟩,
 ⟨(some 29),.idxS 5 (.tmp 27) (.tmp 28),none⟩,
 ⟨(some 30),.loadN 5 (.tmp 29),none⟩,
 ⟨(some 31),.call 95 [(.tmp 25),(.tmp 30)],none⟩])
 (.block 2 (.range (.tmp 31) ⟨[32,33]⟩ (.ops [⟨(some 10),.alloc 107 [(.int .i64 0),(.int .i64 0),(.int .i64 0),(.int .i64 0),(.int .i64 0)],none⟩,
 ⟨none,.store 5 (.tmp 10) (.tmp 33),none⟩])
 (.block 3 (.seq (.ops [⟨(some 34),.load1 (.tmp 7),none⟩,
 ⟨(some 35),.loadN 5 (.tmp 10),none⟩,
 ⟨(some 36),.callv (.tmp 34) [(.tmp 35)],none⟩,
 ⟨(some 11),.mov (.tmp 36),none⟩])
 (.draw [⟨(some 37),.fldA 1 (.tmp 5),none⟩,
 ⟨(some 38),.load1 (.tmp 37),none⟩,
 ⟨(some 39),.mov (.tmp 11),none⟩,
 ⟨(some 40),.fldA 1 (.tmp 5),none⟩,
 ⟨(some 41),.load1 (.tmp 40),none⟩,
 ⟨(some 42),.mov (.tmp 11),none⟩,
 ⟨(some 43),.idxS 1 (.tmp 41) (.tmp 42),none⟩,
 ⟨(some 44),.load1 (.tmp 43),none⟩,
 ⟨(some 45),.load1 (.tmp 8),none⟩,
 ⟨(some 46),.slit 3 1 [(.int .i64 0)] [(0,1,(.tmp 45))],none⟩,
 ⟨(some 47),.append 3 1 8 (.tmp 44) (.tmp 46),none⟩,
 ⟨(some 48),.idxS 1 (.tmp 38) (.tmp 39),none⟩,
 ⟨none,.store 1 (.tmp 48) (.tmp 47),none⟩]
 [⟨false,true,[false,false,false,false,false,false,false,false,false,false,false,false,false],[false,false,false,false,false,false,false,false,false,true,true,false,false]⟩,
 ⟨false,true,[false,false,false,false,false,false,false,false,false,false,false,false,false],[false,false,false,false,false,false,false,false,false,true,true,false,false]⟩,
 ⟨false,true,[false,false,false,false,false,false,false,false,false,false,false,false,false],[false,false,false,false,false,false,false,false,false,true,true,false,false]⟩,
 ⟨false,true,[false,false,false,false,false,false,false,false,false,false,false,false,false],[false,false,false,false,false,false,false,false,false,true,false,false,false]⟩,
 ⟨false,true,[false,false,false,false,false,false,false,false,false,false,false,false,false],[false,false,false,false,false,false,false,false,false,true,false,false,false]⟩,
 ⟨false,true,[false,false,false,false,false,false,false,false,false,false,false,false,false],[false,false,false,false,false,false,false,false,false,true,false,false,false]⟩,
 ⟨false,true,[false,false,false,false,false,false,false,false,false,false,false,false,false],[false,false,false,false,false,false,false,false,false,true,false,false,false]⟩,
 ⟨false,true,[false,false,false,false,false,false,false,false,false,false,false,false,false],[false,false,false,false,false,false,false,false,false,true,false,false,false]⟩,
 ⟨false,false,[false,false,false,false,false,false,false,false,false,false,false,false,false],[false,false,false,false,false,false,false,false,false,false,false,false,false]⟩,
 ⟨true,false,[false,false,false,false,false,false,false,false,false,false,false,false,false],[false,false,false,false,false,false,false,false,false,true,false,false,false]⟩,
 ⟨true,false,[false,false,false,false,false,false,false,false,false,true,false,false,false],[false,false,false,false,false,false,false,false,false,true,true,false,false]⟩,
 ⟨false,false,[false,false,false,false,false,false,false,false,false,true,true,false,false],[false,false,false,false,false,false,false,false,false,true,true,false,false]⟩,
 ⟨true,false,[false,false,false,false,false,false,false,false,false,true,true,false,false],[false,false,false,false,false,false,false,false,false,true,true,false,true]⟩])))))))
 (.seq (.seq (.ops [⟨(some 49),.load1 (.tmp 8),none⟩])
 (.ops [⟨(some 8),.alloc 3 [(.int .i64 0)],none⟩,
 ⟨none,.store 1 (.tmp 8) (.tmp 49),none⟩]))
 (.ops [⟨(some 23),.load1 (.tmp 8),none⟩,
 ⟨(some 24),.ar .i64 .add (.tmp 23) (.const (.int .i64 1)),none⟩,
 ⟨none,.store 1 (.tmp 8) (.tmp 24),none⟩])))))))
 (.seq (.ops [⟨(some 50),.loadN 2 (.tmp 5),none⟩,
 ⟨none,.store 2 (.tmp 4) (.tmp 50),none⟩])
 .ret)))))))
theorem enter66 {xs : List Value} {h : Hp} {Q : Value → Hp → Prop} (hl : xs.length ≤ 51) (w : wq E 51 none c66 (frameOf xs) h [] (leaveQ E [.cell 4 104] Q)) : CallP E 66 xs h Q :=
  CallP.enterQ (fn := Try.f66) (fn_get Try.func66) (code := Try.f66.body.get rfl) rfl rfl rfl (by kernel_rfl) rfl (fun _ => rfl) hl w
theorem can66 : callable E 66 = true := callable_get Try.func66 rfl rfl
def c70 : C := (.seq (.ops [⟨(some 4),.mov (.const (.bool false)),none⟩])
 (.seq (.ops [⟨(some 5),.mov (.func 99),none⟩])
 (.seq (.seq (.ops [⟨(some 7),.mov (.tmp 0),none⟩,
 ⟨(some 8),.lenS (.tmp 7),none⟩,
 ⟨(some 9),.mov (.tmp 1),none⟩,
 ⟨(some 10),.ar .i64 .neq (.tmp 8) (.tmp 9),none⟩,
 ⟨(some 11),.mov (.tmp 10),none⟩,
 ⟨(some 12),.mov (.tmp 0),(some (11,false))⟩,
 ⟨(some 13),.mov (.tmp 5),(some (11,false))⟩,
 ⟨(some 14),.call 100 [(.tmp 12),(.tmp 13)],(some (11,false))⟩,
 ⟨(some 15),.pick (.tmp 11) (.const (.bool true)) (.tmp 14),none⟩])
 (.cond (.tmp 15) (.seq (.ops [⟨(some 4),.mov (.const (.bool false)),none⟩])
 .ret)
 .skip))
 (.seq (.ops [⟨(some 16),.mov (.tmp 0),none⟩,
 ⟨(some 17),.call 90 [(.tmp 16)],none⟩,
 ⟨(some 6),.mov (.tmp 17),none⟩])
 (.seq (.ops [⟨(some 18),.mov (.tmp 6),none⟩,
 ⟨(some 19),.ar .i64 .geq (.tmp 18) (.const (.int .i64 1)),none⟩,
 ⟨(some 20),.mov (.tmp 19),none⟩,
 ⟨(some 21),.mov (.tmp 6),(some (20,true))⟩,
 ⟨(some 22),.ar .i64 .leq (.tmp 21) (.const (.int .i64 9)),(some (20,true))⟩,
 ⟨(some 23),.pick (.tmp 20) (.tmp 22) (.const (.bool false)),none⟩,
 ⟨(some 4),.mov (.tmp 23),none⟩])
 .ret)))))
theorem enter70 {xs : List Value} {h : Hp} {Q : Value → Hp → Prop} (hl : xs.length ≤ 24) (w : wq E 24 none c70 (frameOf xs) h [] (leaveQ E [.tmp 4] Q)) : CallP E 70 xs h Q :=
  CallP.enterQ (fn := Try.f70) (fn_get Try.func70) (code := Try.f70.body.get rfl) rfl rfl rfl (by kernel_rfl) rfl (fun _ => rfl) hl w
theorem can70 : callable E 70 = true := callable_get Try.func70 rfl rfl
def c71 : C := (.seq (.ops [⟨(some 2),.mov (.const (.slice none 0 0)),none⟩])
 (.seq (.seq (.ops [⟨(some 3),.mov (.tmp 0),none⟩,
 ⟨(some 4),.raw (.binOp .eql 22 (.tmp 3) (.const (.slice none 0 0)) 22) 4,none⟩])
 (.cond (.tmp 4) (.seq (.ops [⟨(some 2),.mov (.const (.slice none 0 0)),none⟩])
 .ret)
 .skip))
 (.seq (.ops [⟨(some 5),.slit 3 0 [] [],none⟩,
 ⟨(some 6),.mov (.tmp 0),none⟩,
 ⟨(some 7),.append 3 1 8 (.tmp 5) (.tmp 6),none⟩,
 ⟨(some 2),.mov (.tmp 7),none⟩])
 .ret)))
theorem enter71 {xs : List Value} {h : Hp} {Q : Value → Hp → Prop} (hl : xs.length ≤ 8) (w : wq E 8 none c71 (frameOf xs) h [] (leaveQ E [.tmp 2] Q)) : CallP E 71 xs h Q :=
  CallP.enterQ (fn := Try.f71) (fn_get Try.func71) (code := Try.f71.body.get rfl) rfl rfl rfl (by kernel_rfl) rfl (fun _ => rfl) hl w
theorem can71 : callable E 71 = true := callable_get Try.func71 rfl rfl
def c73 : C := (.seq (.ops [⟨(some 2),.box 25 (.tmp 0),none⟩,
 ⟨(some 4),.alloc 107 [(.int .i64 0),(.int .i64 0),(.int .i64 0),(.int .i64 0),(.int .i64 0)],none⟩,
 ⟨(some 5),.mov (.const (.int .i64 0)),none⟩])
 (.seq (.seq (.ops [⟨(some 7),.loadN 4 (.tmp 2),none⟩,
 ⟨(some 8),.call 21 [(.tmp 7)],none⟩,
 ⟨(some 6),.mov (.tmp 8),none⟩])
 (.seq (.ops [⟨(some 9),.mov (.tmp 6),none⟩,
 ⟨(some 10),.ar .i64 .neq (.tmp 9) (.const (.int .i64 0)),none⟩])
 (.cond (.tmp 10) (.seq (.ops [⟨(some 11),.aggr [(.int .i64 0),(.int .i64 0),(.int .i64 0),(.int .i64 0),(.int .i64 0)] [],none⟩,
 ⟨(some 12),.mov (.tmp 6),none⟩,
 ⟨none,.store 5 (.tmp 4) (.tmp 11),none⟩,
 ⟨(some 5),.mov (.tmp 12),none⟩])
 .ret)
 .skip)))
 (.seq (.seq (.ops [⟨(some 13),.mov (.tmp 1),none⟩,
 ⟨(some 14),.fldA 0 (.tmp 2),none⟩,
 ⟨(some 15),.load1 (.tmp 14),none⟩,
 ⟨(some 16),.call 70 [(.tmp 13),(.tmp 15)],none⟩,
 ⟨(some 17),.not (.tmp 16),none⟩])
 (.cond (.tmp 17) (.seq (.ops [⟨(some 18),.aggr [(.int .i64 0),(.int .i64 0),(.int .i64 0),(.int .i64 0),(.int .i64 0)] [],none⟩,
 ⟨none,.store 5 (.tmp 4) (.tmp 18),none⟩,
 ⟨(some 5),.mov (.const (.int .i64 1)),none⟩])
 .ret)
 .skip))
 (.seq (.ops [⟨(some 19),.mov (.tmp 1),none⟩,
 ⟨(some 20),.call 101 [(.tmp 19)],none⟩,
 ⟨none,.store 5 (.tmp 4) (.tmp 20),none⟩,
 ⟨(some 5),.mov (.const (.int .i64 0)),none⟩])
 .ret))))
theorem enter73 {xs : List Value} {h : Hp} {Q : Value → Hp → Prop} (hl : xs.length ≤ 21) (w : wq E 21 none c73 (frameOf xs) h [] (leaveQ E [.cell 4 107,.tmp 5] Q)) : CallP E 73 xs h Q :=
  CallP.enterQ (fn := Try.f73) (fn_get Try.func73) (code := Try.f73.body.get rfl) rfl rfl rfl (by kernel_rfl) rfl (fun _ => rfl) hl w
theorem can73 : callable E 73 = true := callable_get Try.func73 rfl rfl
def c74 : C := (.seq (.ops [⟨(some 2),.box 107 (.tmp 0),none⟩,
 ⟨(some 3),.box 96 (.tmp 1),none⟩,
 ⟨(some 4),.mov (.const (.bool false)),none⟩])
 (.seq (.ops [⟨(some 7),.idxA 4 1 (.tmp 3) (.const (.int .i64 0)),none⟩,
 ⟨(some 8),.load1 (.tmp 7),none⟩,
 ⟨(some 9),.idxA 4 1 (.tmp 3) (.const (.int .i64 1)),none⟩,
 ⟨(some 10),.load1 (.tmp 9),none⟩,
 ⟨(some 5),.mov (.tmp 8),none⟩,
 ⟨(some 6),.mov (.tmp 10),none⟩])
 (.seq (.seq (.ops [⟨(some 11),.mov (.tmp 5),none⟩,
 ⟨(some 12),.mov (.tmp 6),none⟩,
 ⟨(some 13),.ar .i64 .eql (.tmp 11) (.tmp 12),none⟩])
 (.cond (.tmp 13) (.seq (.ops [⟨(some 14),.mov (.tmp 5),none⟩,
 ⟨(some 15),.idxA 5 1 (.tmp 2) (.tmp 14),none⟩,
 ⟨(some 16),.load1 (.tmp 15),none⟩,
 ⟨(some 17),.ar .i64 .gtr (.tmp 16) (.const (.int .i64 1)),none⟩,
 ⟨(some 4),.mov (.tmp 17),none⟩])
 .ret)
 .skip))
 (.seq (.ops [⟨(some 18),.mov (.tmp 5),none⟩,
 ⟨(some 19),.idxA 5 1 (.tmp 2) (.tmp 18),none⟩,
 ⟨(some 20),.load1 (.tmp 19),none⟩,
 ⟨(some 21),.ar .i64 .gtr (.tmp 20) (.const (.int .i64 0)),none⟩,
 ⟨(some 22),.mov (.tmp 21),none⟩,
 ⟨(some 23),.mov (.tmp 6),(some (22,true))⟩,
 ⟨(some 24),.idxA 5 1 (.tmp 2) (.tmp 23),(some (22,true))⟩,
 ⟨(some 25),.load1 (.tmp 24),(some (22,true))⟩,
 ⟨(some 26),.ar .i64 .gtr (.tmp 25) (.const (.int .i64 0)),(some (22,true))⟩,
 ⟨(some 27),.pick (.tmp 22) (.tmp 26) (.const (.bool false)),none⟩,
 ⟨(some 4),.mov (.tmp 27),none⟩])
 .ret))))
theorem enter74 {xs : List Value} {h : Hp} {Q : Value → Hp → Prop} (hl : xs.length ≤ 28) (w : wq E 28 none c74 (frameOf xs) h [] (leaveQ E [.tmp 4] Q)) : CallP E 74 xs h Q :=
  CallP.enterQ (fn := Try.f74) (fn_get Try.func74) (code := Try.f74.body.get rfl) rfl rfl rfl (by kernel_rfl) rfl (fun _ => rfl) hl w
theorem can74 : callable E 74 = true := callable_get Try.func74 rfl rfl
def c75 : C := (.seq (.ops [⟨(some 2),.box 107 (.tmp 0),none⟩,
 ⟨(some 3),.box 96 (.tmp 1),none⟩,
 ⟨(some 4),.alloc 107 [(.int .i64 0),(.int .i64 0),(.int .i64 0),(.int .i64 0),(.int .i64 0)],none⟩])
 (.seq (.ops [⟨(some 5),.idxA 4 1 (.tmp 3) (.const (.int .i64 0)),none⟩,
 ⟨(some 6),.load1 (.tmp 5),none⟩,
 ⟨(some 7),.idxA 5 1 (.tmp 2) (.tmp 6),none⟩,
 ⟨(some 8),.load1 (.tmp 7),none⟩,
 ⟨(some 9),.ar .i64 .sub (.tmp 8) (.const (.int .i64 1)),none⟩,
 ⟨(some 10),.idxA 5 1 (.tmp 2) (.tmp 6),none⟩,
 ⟨none,.store 1 (.tmp 10) (.tmp 9),none⟩])
 (.seq (.ops [⟨(some 11),.idxA 4 1 (.tmp 3) (.const (.int .i64 1)),none⟩,
 ⟨(some 12),.load1 (.tmp 11),none⟩,
 ⟨(some 13),.idxA 5 1 (.tmp 2) (.tmp 12),none⟩,
 ⟨(some 14),.load1 (.tmp 13),none⟩,
 ⟨(some 15),.ar .i64 .sub (.tmp 14) (.const (.int .i64 1)),none⟩,
 ⟨(some 16),.idxA 5 1 (.tmp 2) (.tmp 12),none⟩,
 ⟨none,.store 1 (.tmp 16) (.tmp 15),none⟩])
 (.seq (.ops [⟨(some 17),.idxA 4 1 (.tmp 3) (.const (.int .i64 2)),none⟩,
 ⟨(some 18),.load1 (.tmp 17),none⟩,
 ⟨(some 19),.idxA 5 1 (.tmp 2) (.tmp 18),none⟩,
 ⟨(some 20),.load1 (.tmp 19),none⟩,
 ⟨(some 21),.ar .i64 .add (.tmp 20) (.const (.int .i64 1)),none⟩,
 ⟨(some 22),.idxA 5 1 (.tmp 2) (.tmp 18),none⟩,
 ⟨none,.store 1 (.tmp 22) (.tmp 21),none⟩])
 (.seq (.ops [⟨(some 23),.idxA 4 1 (.tmp 3) (.const (.int .i64 3)),none⟩,
 ⟨(some 24),.load1 (.tmp 23),none⟩,
 ⟨(some 25),.idxA 5 1 (.tmp 2) (.tmp 24),none⟩,
 ⟨(some 26),.load1 (.tmp 25),none⟩,
 ⟨(some 27),.ar .i64 .add (.tmp 26) (.const (.int .i64 1)),none⟩,
 ⟨(some 28),.idxA 5 1 (.tmp 2) (.tmp 24),none⟩,
 ⟨none,.store 1 (.tmp 28) (.tmp 27),none⟩])
 (.seq (.ops [⟨(some 29),.loadN 5 (.tmp 2),none⟩,
 ⟨none,.store 5 (.tmp 4) (.tmp 29),none⟩])
 .ret))))))
theorem enter75 {xs : List Value} {h : Hp} {Q : Value → Hp → Prop} (hl : xs.length ≤ 30) (w : wq E 30 none c75 (frameOf xs) h [] (leaveQ E [.cell 4 107] Q)) : CallP E 75 xs h Q :=
  CallP.enterQ (fn := Try.f75) (fn_get Try.func75) (code := Try.f75.body.get rfl) rfl rfl rfl (by kernel_rfl) rfl (fun _ => rfl) hl w
theorem can75 : callable E 75 = true := callable_get Try.func75 rfl rfl
def c78 : C := (.seq (.ops [⟨(some 3),.box 104 (.tmp 1),none⟩,
 ⟨(some 4),.mov (.const (.int .i64 0)),none⟩,
 ⟨(some 5),.mov (.const (.bool false)),none⟩])
 (.seq (.seq (.ops [⟨(some 7),.mov (.const (.int .i64 0)),none⟩])
 (.block 0 (.loop (.seq (.ops [⟨(some 8),.ar .i64 .lss (.tmp 7) (.const (.int .i64 2)),none⟩])
 (.seq (.cond (.tmp 8) .skip
 (.exit 0))
 (.seq (.block 1 (.seq (.ops [⟨(some 9),.mov (.tmp 7),none⟩,
 ⟨(some 6),.mov (.tmp 9),none⟩])
 (.seq (.ops [⟨(some 10),.mov (.tmp 0),none⟩,
 ⟨(some 11),.loadN 2 (.tmp 3),none⟩,
 ⟨(some 12),.mov (.tmp 6),none⟩,
 ⟨(some 13),.callv (.tmp 10) [(.tmp 11),(.tmp 12)],none⟩])
 (.cond (.tmp 13) (.seq (.ops [⟨(some 14),.mov (.tmp 6),none⟩,
 ⟨(some 4),.mov (.tmp 14),none⟩,
 ⟨(some 5),.mov (.const (.bool true)),none⟩])
 .ret)
 .skip))))
 (.ops [⟨(some 15),.ar .i64 .add (.tmp 7) (.const (.int .i64 1)),none⟩,
 ⟨(some 7),.mov (.tmp 15),none⟩])))))))
 (.seq (.ops [⟨(some 4),.mov (.const (.int .i64 0)),none⟩,
 ⟨(some 5),.mov (.const (.bool false)),none⟩])
 .ret)))
theorem enter78 {xs : List Value} {h : Hp} {Q : Value → Hp → Prop} (hl : xs.length ≤ 16) (w : wq E 16 none c78 (frameOf xs) h [] (leaveQ E [.tmp 4,.tmp 5] Q)) : CallP E 78 xs h Q :=
  CallP.enterQ (fn := Try.f78) (fn_get Try.func78) (code := Try.f78.body.get rfl) rfl rfl rfl (by kernel_rfl) rfl (fun _ => rfl) hl w
theorem can78 : callable E 78 = true := callable_get Try.func78 rfl rfl
def c79 : C := (.seq (.ops [⟨(some 3),.box 25 (.tmp 0),none⟩,
 ⟨(some 4),.box 104 (.tmp 1),none⟩,
 ⟨(some 6),.mov (.const (.bool false)),none⟩])
 (.seq (.ops [⟨(some 7),.loadN 4 (.tmp 3),none⟩,
 ⟨(some 8),.loadN 2 (.tmp 4),none⟩,
 ⟨(some 9),.mov (.tmp 2),none⟩,
 ⟨(some 10),.call 93 [(.tmp 7),(.tmp 8),(.tmp 9)],none⟩,
 ⟨(some 11),.call 103 [(.tmp 10),(.const (.int .i64 0))],none⟩,
 ⟨(some 6),.mov (.tmp 11),none⟩])
 .ret))
theorem enter79 {xs : List Value} {h : Hp} {Q : Value → Hp → Prop} (hl : xs.length ≤ 12) (w : wq E 12 none c79 (frameOf xs) h [] (leaveQ E [.tmp 6] Q)) : CallP E 79 xs h Q :=
  CallP.enterQ (fn := Try.f79) (fn_get Try.func79) (code := Try.f79.body.get rfl) rfl rfl rfl (by kernel_rfl) rfl (fun _ => rfl) hl w
theorem can79 : callable E 79 = true := callable_get Try.func79 rfl rfl
def c89 : C := (.seq (.ops [⟨(some 4),.mov (.const (.int .i64 0)),none⟩])
 (.seq (.ops [⟨(some 7),.mov (.tmp 0),none⟩,
 ⟨(some 8),.call 105 [(.tmp 7)],none⟩,
 ⟨(some 5),.mov (.tmp 8),none⟩])
 (.seq (.ops [⟨(some 9),.mov (.tmp 1),none⟩,
 ⟨(some 10),.call 105 [(.tmp 9)],none⟩,
 ⟨(some 6),.mov (.tmp 10),none⟩])
 (.seq (.seq (.ops [⟨(some 11),.mov (.tmp 5),none⟩])
 (.cond (.tmp 11) (.seq (.seq (.ops [⟨(some 12),.mov (.tmp 6),none⟩])
 (.cond (.tmp 12) (.seq (.ops [⟨(some 4),.mov (.const (.int .i64 0)),none⟩])
 .ret)
 .skip))
 (.seq (.ops [⟨(some 4),.mov (.const (.int .i64 (-1))),none⟩])
 .ret))
 .skip))
 (.seq (.seq (.ops [⟨(some 13),.mov (.tmp 6),none⟩])
 (.cond (.tmp 13) (.seq (.ops [⟨(some 4),.mov (.const (.int .i64 1)),none⟩])
 .ret)
 .skip))
 (.seq (.seq (.ops [⟨(some 14),.mov (.tmp 0),none⟩,
 ⟨(some 15),.mov (.tmp 1),none⟩,
 ⟨(some 16),.ar .i64 .lss (.tmp 14) (.tmp 15),none⟩])
 (.cond (.tmp 16) (.seq (.ops [⟨(some 4),.mov (.const (.int .i64 (-1))),none⟩])
 .ret)
 .skip))
 (.seq (.seq (.ops [⟨(some 17),.mov (.tmp 0),none⟩,
 ⟨(some 18),.mov (.tmp 1),none⟩,
 ⟨(some 19),.ar .i64 .gtr (.tmp 17) (.tmp 18),none⟩])
 (.cond (.tmp 19) (.seq (.ops [⟨(some 4),.mov (.const (.int .i64 1)),none⟩])
 .ret)
 .skip))
 (.seq (.ops [⟨(some 4),.mov (.const (.int .i64 0)),none⟩])
 .ret))))))))
theorem enter89 {xs : List Value} {h : Hp} {Q : Value → Hp → Prop} (hl : xs.length ≤ 20) (w : wq E 20 none c89 (frameOf xs) h [] (leaveQ E [.tmp 4] Q)) : CallP E 89 xs h Q :=
  CallP.enterQ (fn := Try.f89) (fn_get Try.func89) (code := Try.f89.body.get rfl) rfl rfl rfl (by kernel_rfl) rfl (fun _ => rfl) hl w
theorem can89 : callable E 89 = true := callable_get Try.func89 rfl rfl
def c90 : C := (.seq (.ops [⟨(some 2),.mov (.const (.int .i64 0)),none⟩])
 (.seq (.ops [⟨(some 3),.mov (.const (.int .i64 0)),none⟩])
 (.seq (.seq (.ops [⟨(some 6),.mov (.tmp 0),none⟩,
 ⟨(some 7),.lenS (.tmp 6),none⟩,
 ⟨(some 8),.mov (.const (.int .i64 0)),none⟩])
 (.block 0 (.loop (.seq (.ops [⟨(some 9),.ar .i64 .lss (.tmp 8) (.tmp 7),none⟩])
 (.seq (.cond (.tmp 9) .skip
 (.exit 0))
 (.seq (.block 1 (.seq (.ops [⟨(some 10),.idxS 1 (.tmp 6) (.tmp 8),none⟩,
 ⟨(some 11),.load1 (.tmp 10),none⟩,
 ⟨(some 5),.mov (.tmp 11),none⟩])
 (.ops [⟨(some 12),.mov (.tmp 3),none⟩,
 ⟨(some 13),.mov (.tmp 5),none⟩,
 ⟨(some 14),.ar .i64 .add (.tmp 12) (.tmp 13),none⟩,
 ⟨(some 3),.mov (.tmp 14),none⟩])))
 (.ops [⟨(some 15),.ar .i64 .add (.tmp 8) (.const (.int .i64 1)),none⟩,
 ⟨(some 8),.mov (.tmp 15),none⟩])))))))
 (.seq (.ops [⟨(some 16),.mov (.tmp 3),none⟩,
 ⟨(some 2),.mov (.tmp 16),none⟩])
 .ret))))
theorem enter90 {xs : List Value} {h : Hp} {Q : Value → Hp → Prop} (hl : xs.length ≤ 17) (w : wq E 17 none c90 (frameOf xs) h [] (leaveQ E [.tmp 2] Q)) : CallP E 90 xs h Q :=
  CallP.enterQ (fn := Try.f90) (fn_get Try.func90) (code := Try.f90.body.get rfl) rfl rfl rfl (by kernel_rfl) rfl (fun _ => rfl) hl w
theorem can90 : callable E 90 = true := callable_get Try.func90 rfl rfl
def c91 : C := (.seq (.ops [⟨(some 4),.mov (.const (.bool false)),none⟩])
 (.seq (.ops [⟨(some 5),.mov (.tmp 0),none⟩,
 ⟨(some 6),.mov (.tmp 1),none⟩,
 ⟨(some 7),.call 106 [(.tmp 5),(.tmp 6)],none⟩,
 ⟨(some 8),.ar .i64 .geq (.tmp 7) (.const (.int .i64 0)),none⟩,
 ⟨(some 4),.mov (.tmp 8),none⟩])
 .ret))
theorem enter91 {xs : List Value} {h : Hp} {Q : Value → Hp → Prop} (hl : xs.length ≤ 9) (w : wq E 9 none c91 (frameOf xs) h [] (leaveQ E [.tmp 4] Q)) : CallP E 91 xs h Q :=
  CallP.enterQ (fn := Try.f91) (fn_get Try.func91) (code := Try.f91.body.get rfl) rfl rfl rfl (by kernel_rfl) rfl (fun _ => rfl) hl w
theorem can91 : callable E 91 = true := callable_get Try.func91 rfl rfl
def c92 : C := (.seq (.ops [⟨(some 2),.box 104 (.tmp 0),none⟩,
 ⟨(some 4),.mov (.const (.slice none 0 0)),none⟩])
 (.seq (.ops [⟨(some 12),.fldA 0 (.tmp 2),none⟩,
 ⟨(some 13),.load1 (.tmp 12),none⟩,
 ⟨(some 14),.lenS (.tmp 13),none⟩,
 ⟨(some 15),.make 4 [(.bool false)] 1 (.tmp 14) (.tmp 14),none⟩,
 ⟨(some 5),.mov (.tmp 15),none⟩])
 (.seq (.seq (.ops [⟨(some 16),.mov (.tmp 1),none⟩,
 ⟨(some 17),.lenS (.tmp 16),none⟩,
 ⟨(some 18),.mov (.const (.int .i64 0)),none⟩])
 (.block 0 (.loop (.seq (.ops [⟨(some 19),.ar .i64 .lss (.tmp 18) (.tmp 17),none⟩])
 (.seq (.cond (.tmp 19) .skip
 (.exit 0))
 (.seq (.block 1 (.seq (.ops [⟨(some 20),.idxS 1 (.tmp 16) (.tmp 18),none⟩,
 ⟨(some 21),.load1 (.tmp 20),none⟩,
 ⟨(some 7),.mov (.tmp 21),none⟩])
 (.ops [⟨(some 22),.mov (.tmp 5),none⟩,
 ⟨(some 23),.mov (.tmp 7),none⟩,
 ⟨(some 24),.idxS 1 (.tmp 22) (.tmp 23),none⟩,
 ⟨none,.store 1 (.tmp 24) (.const (.bool true)),none⟩])))
 (.ops [⟨(some 25),.ar .i64 .add (.tmp 18) (.const (.int .i64 1)),none⟩,
 ⟨(some 18),.mov (.tmp 25),none⟩])))))))
 (.seq (.ops [⟨(some 26),.mov (.tmp 1),none⟩,
 ⟨(some 27),.call 71 [(.tmp 26)],none⟩,
 ⟨(some 8),.mov (.tmp 27),none⟩])
 (.seq (.seq (.ops [⟨(some 9),.mov (.const (.int .i64 0)),none⟩])
 (.block 2 (.loop (.seq (.seq (.ops [⟨(some 28),.mov (.tmp 9),none⟩,
 ⟨(some 29),.mov (.tmp 8),none⟩,
 ⟨(some 30),.lenS (.tmp 29),none⟩,
 ⟨(some 31),.ar .i64 .lss (.tmp 28) (.tmp 30),none⟩])
 (.cond (.tmp 31) .skip
 (.exit 2)))
 (.seq (.block 3 (.seq (.ops [⟨(some 34),.fldA 1 (.tmp 2),none⟩,
 ⟨(some 35),.load1 (.tmp 34),none⟩,
 ⟨(some 36),.mov (.tmp 8),none⟩,
 ⟨(some 37),.mov (.tmp 9),none⟩,
 ⟨(some 38),.idxS 1 (.tmp 36) (.tmp 37),none⟩,
 ⟨(some 39),.load1 (.tmp 38),none⟩,
 ⟨(some 40),.idxS 1 (.tmp 35) (.tmp 39),none⟩,
 ⟨(some 41),.load1 (.tmp 40),none⟩,
 ⟨(some 42),.lenS (.tmp 41),none⟩,
 ⟨(some 43),.mov (.const (.int .i64 0)),none⟩])
 (.block 4 (.loop (.seq (.ops [⟨(some 44),.ar .i64 .lss (.tmp 43) (.tmp 42),none⟩])
 (.seq (.cond (.tmp 44) .skip
 (.exit 4))
 (.seq (.block 5 (.seq (.ops [⟨(some 45),.idxS 1 (.tmp 41) (.tmp 43),none⟩,
 ⟨(some 46),.load1 (.tmp 45),none⟩,
 ⟨(some 11),.mov (.tmp 46),none⟩])
 (.seq (.ops [⟨(some 47),.mov (.tmp 5),none⟩,
 ⟨(some 48),.mov (.tmp 11),none⟩,
 ⟨(some 49),.idxS 1 (.tmp 47) (.tmp 48),none⟩,
 ⟨(some 50),.load1 (.tmp 49),none⟩,
 ⟨(some 51),.not (.tmp 50),none⟩])
 (.cond (.tmp 51) (.seq (.ops [⟨(some 52),.mov (.tmp 5),none⟩,
 ⟨(some 53),.mov (.tmp 11),none⟩,
 ⟨(some 54),.idxS 1 (.tmp 52) (.tmp 53),none⟩,
 ⟨none,.store 1 (.tmp 54) (.const (.bool true)),none⟩])
 (.ops [⟨(some 55),.mov (.tmp 8),none⟩,
 ⟨(some 56),.mov (.tmp 11),none⟩,
 ⟨(some 57),.slit 3 1 [(.int .i64 0)] [(0,1,(.tmp 56))],none⟩,
 ⟨(some 58),.append 3 1 8 (.tmp 55) (.tmp 57),none⟩,
 ⟨(some 8),.mov (.tmp 58),none⟩]))
 .skip))))
 (.ops [⟨(some 59),.ar .i64 .add (.tmp 43) (.const (.int .i64 1)),none⟩,
 ⟨(some 43),.mov (.tmp 59),none⟩]))))))))
 (.ops [⟨(some 32),.mov (.tmp 9),none⟩,
 ⟨(some 33),.ar .i64 .add (.tmp 32) (.const (.int .i64 1)),none⟩,
 ⟨(some 9),.mov (.tmp 33),none⟩]))))))
 (.seq (.ops [⟨(some 60),.mov (.tmp 5),none⟩,
 ⟨(some 4),.mov (.tmp 60),none⟩])
 .ret))))))
theorem enter92 {xs : List Value} {h : Hp} {Q : Value → Hp → Prop} (hl : xs.length ≤ 61) (w : wq E 61 none c92 (frameOf xs) h [] (leaveQ E [.tmp 4] Q)) : CallP E 92 xs h Q :=
  CallP.enterQ (fn := Try.f92) (fn_get Try.func92) (code := Try.f92.body.get rfl) rfl rfl rfl (by kernel_rfl) rfl (fun _ => rfl) hl w
theorem can92 : callable E 92 = true := callable_get Try.func92 rfl rfl
def c93 : C := (.seq (.ops [⟨(some 3),.box 25 (.tmp 0),none⟩,
 ⟨(some 4),.box 104 (.tmp 1),none⟩,
 ⟨(some 6),.mov (.const (.slice none 0 0)),none⟩])
 (.seq (.ops [⟨(some 7),.mov (.const (.slice none 0 0)),none⟩])
 (.seq (.seq (.ops [⟨(some 13),.fldA 0 (.tmp 4),none⟩,
 ⟨(some 14),.load1 (.tmp 13),none⟩,
 ⟨(some 15),.lenS (.tmp 14),none⟩,
 ⟨(some 16),.mov (.const (.int .i64 0)),none⟩])
 (.block 0 (.loop (.seq (.ops [⟨(some 17),.ar .i64 .lss (.tmp 16) (.tmp 15),none⟩])
 (.seq (.cond (.tmp 17) .skip
 (.exit 0))
 (.seq (.block 1 (.seq (.ops [⟨(some 18),.mov (.tmp 16),none⟩,
 ⟨(some 19),.idxS 5 (.tmp 14) (.tmp 16),none⟩,
 ⟨(some 20),.loadN 5 (.tmp 19),none⟩,
 ⟨(some 9),.alloc 107 [(.int .i64 0),(.int .i64 0),(.int .i64 0),(.int .i64 0),(.int .i64 0)],none⟩,
 ⟨(some 8),.mov (.tmp 18),none⟩,
 ⟨none,.store 5 (.tmp 9) (.tmp 20),none⟩])
 (.seq (.ops [⟨(some 21),.loadN 4 (.tmp 3),none⟩,
 ⟨(some 22),.loadN 5 (.tmp 9),none⟩,
 ⟨(some 23),.mov (.tmp 2),none⟩,
 ⟨(some 24),.call 107 [(.tmp 21),(.tmp 22),(.tmp 23)],none⟩,
 ⟨(some 25),.not (.tmp 24),none⟩])
 (.cond (.tmp 25) (.ops [⟨(some 26),.mov (.tmp 7),none⟩,
 ⟨(some 27),.mov (.tmp 8),none⟩,
 ⟨(some 28),.slit 3 1 [(.int .i64 0)] [(0,1,(.tmp 27))],none⟩,
 ⟨(some 29),.append 3 1 8 (.tmp 26) (.tmp 28),none⟩,
 ⟨(some 7),.mov (.tmp 29),none⟩])
 .skip))))
 (.ops [⟨(some 30),.ar .i64 .add (.tmp 16) (.const (.int .i64 1)),none⟩,
 ⟨(some 16),.mov (.tmp 30),none⟩])))))))
 (.seq (.ops [⟨(some 10),.mov (.const (.slice none 0 0)),none⟩])
 (.seq (.seq (.ops [⟨(some 31),.loadN 2 (.tmp 4),none⟩,
 ⟨(some 32),.mov (.tmp 7),none⟩,
 ⟨(some 33),.call 92 [(.tmp 31),(.tmp 32)],none⟩,
 ⟨(some 34),.lenS (.tmp 33),none⟩,
 ⟨(some 35),.mov (.const (.int .i64 0)),none⟩])
 (.block 2 (.loop (.seq (.ops [⟨(some 36),.ar .i64 .lss (.tmp 35) (.tmp 34),none⟩])
 (.seq (.cond (.tmp 36) .skip
 (.exit 2))
 (.seq (.block 3 (.seq (.ops [⟨(some 37),.mov (.tmp 35),none⟩,
 ⟨(some 38),.idxS 1 (.tmp 33) (.tmp 35),none⟩,
 ⟨(some 39),.load1 (.tmp 38),none⟩,
 ⟨(some 11),.mov (.tmp 37),none⟩,
 ⟨(some 12),.mov (.tmp 39),none⟩])
 (.seq (.ops [⟨(some 40),.mov (.tmp 12),none⟩,
 ⟨(some 41),.not (.tmp 40),none⟩])
 (.cond (.tmp 41) (.ops [⟨(some 42),.mov (.tmp 10),none⟩,
 ⟨(some 43),.mov (.tmp 11),none⟩,
 ⟨(some 44),.slit 3 1 [(.int .i64 0)] [(0,1,(.tmp 43))],none⟩,
 ⟨(some 45),.append 3 1 8 (.tmp 42) (.tmp 44),none⟩,
 ⟨(some 10),.mov (.tmp 45),none⟩])
 .skip))))
 (.ops [⟨(some 46),.ar .i64 .add (.tmp 35) (.const (.int .i64 1)),none⟩,
 ⟨(some 35),.mov (.tmp 46),none⟩])))))))
 (.seq (.ops [⟨(some 47),.mov (.tmp 10),none⟩,
 ⟨(some 6),.mov (.tmp 47),none⟩])
 .ret))))))
theorem enter93 {xs : List Value} {h : Hp} {Q : Value → Hp → Prop} (hl : xs.length ≤ 48) (w : wq E 48 none c93 (frameOf xs) h [] (leaveQ E [.tmp 6] Q)) : CallP E 93 xs h Q :=
  CallP.enterQ (fn := Try.f93) (fn_get Try.func93) (code := Try.f93.body.get rfl) rfl rfl rfl (by kernel_rfl) rfl (fun _ => rfl) hl w
theorem can93 : callable E 93 = true := callable_get Try.func93 rfl rfl
def c94 : C := (.seq (.ops [⟨(some 3),.box 107 (.tmp 0),none⟩,
 ⟨(some 4),.mov (.const (.int .i64 0)),none⟩])
 (.seq (.ops [⟨(some 8),.load1 (.tmp 1),none⟩,
 ⟨(some 9),.loadN 5 (.tmp 3),none⟩,
 ⟨(some 10),.raw (.lookup 137 (.tmp 8) (.tmp 9) true) 119,none⟩,
 ⟨(some 7),.mov (.tmp 10),none⟩,
 ⟨(some 11),.ext (.tmp 7) 0,none⟩,
 ⟨(some 12),.ext (.tmp 7) 1,none⟩,
 ⟨(some 5),.mov (.tmp 11),none⟩,
 ⟨(some 6),.mov (.tmp 12),none⟩])
 (.seq (.seq (.ops [⟨(some 13),.mov (.tmp 6),none⟩,
 ⟨(some 14),.not (.tmp 13),none⟩])
 (.cond (.tmp 14) (.seq (.ops [⟨(some 15),.fldA 0 (.tmp 2),none⟩,
 ⟨(some 16),.load1 (.tmp 15),none⟩,
 ⟨(some 17),.lenS (.tmp 16),none⟩,
 ⟨(some 5),.mov (.tmp 17),none⟩])
 (.seq (.ops [⟨(some 18),.load1 (.tmp 1),none⟩,
 ⟨(some 19),.loadN 5 (.tmp 3),none⟩,
 ⟨(some 20),.mov (.tmp 5),none⟩,
 ⟨none,.raw (.mapUpdate 137 (.tmp 18) (.tmp 19) (.tmp 20)) 0,none⟩])
 (.seq (.ops [⟨(some 21),.fldA 0 (.tmp 2),none⟩,
 ⟨(some 22),.load1 (.tmp 21),none⟩,
 ⟨(some 23),.loadN 5 (.tmp 3),none⟩,
 ⟨(some 24),.slit 107 1 [(.int .i64 0),(.int .i64 0),(.int .i64 0),(.int .i64 0),(.int .i64 0)] [(0,5,(.tmp 23))],none⟩,
 ⟨(some 25),.append 107 5 40 (.tmp 22) (.tmp 24),none⟩,
 ⟨(some 26),.fldA 0 (.tmp 2),none⟩,
 ⟨none,.store 1 (.tmp 26) (.tmp 25),none⟩])
 (.ops [⟨(some 27),.fldA 1 (.tmp 2),none⟩,
 ⟨(some 28),.load1 (.tmp 27),none⟩,
 ⟨(some 29),.slit 22 1 [(.slice none 0 0)] [(0,1,(.const (.slice none 0 0)))],none⟩,
 ⟨(some 30),.append 22 1 24 (.tmp 28) (.tmp 29),none⟩,
 ⟨(some 31),.fldA 1 (.tmp 2),none⟩,
 ⟨none,.store 1 (.tmp 31) (.tmp 30),none⟩]))))
 .skip))
 (.seq (.ops [⟨(some 32),.mov (.tmp 5),none⟩,
 ⟨(some 4),.mov (.tmp 32),none⟩])
 .ret))))
theorem enter94 {xs : List Value} {h : Hp} {Q : Value → Hp → Prop} (hl : xs.length ≤ 33) (w : wq E 33 none c94 (frameOf xs) h [] (leaveQ E [.tmp 4] Q)) : CallP E 94 xs h Q :=
  CallP.enterQ (fn := Try.f94) (fn_get Try.func94) (code := Try.f94.body.get rfl) rfl rfl rfl (by kernel_rfl) rfl (fun _ => rfl) hl w
theorem can94 : callable E 94 = true := callable_get Try.func94 rfl rfl
def c95 : C := (.seq (.ops [⟨(some 2),.box 25 (.tmp 0),none⟩,
 ⟨(some 3),.box 107 (.tmp 1),none⟩,
 ⟨(some 4),.mov (.const .nilFunc),none⟩])
 (.seq (.ops [⟨(some 5),.func (.func 108) [] [(.tmp 2),(.tmp 3)],none⟩,
 ⟨(some 4),.mov (.tmp 5),none⟩])
 .ret))
theorem enter95 {xs : List Value} {h : Hp} {Q : Value → Hp → Prop} (hl : xs.length ≤ 6) (w : wq E 6 none c95 (frameOf xs) h [] (leaveQ E [.tmp 4] Q)) : CallP E 95 xs h Q :=
  CallP.enterQ (fn := Try.f95) (fn_get Try.func95) (code := Try.f95.body.get rfl) rfl rfl rfl (by kernel_rfl) rfl (fun _ => rfl) hl w
theorem can95 : callable E 95 = true := callable_get Try.func95 rfl rfl
def c99 : C := (.seq (.ops [⟨(some 2),.mov (.const (.bool false)),none⟩])
 (.seq (.ops [⟨(some 3),.mov (.tmp 0),none⟩,
 ⟨(some 4),.ar .i64 .lss (.tmp 3) (.const (.int .i64 0)),none⟩,
 ⟨(some 5),.mov (.tmp 4),none⟩,
 ⟨(some 6),.mov (.tmp 0),(some (5,false))⟩,
 ⟨(some 7),.ar .i64 .gtr (.tmp 6) (.const (.int .i64 9)),(some (5,false))⟩,
 ⟨(some 8),.pick (.tmp 5) (.const (.bool true)) (.tmp 7),none⟩,
 ⟨(some 2),.mov (.tmp 8),none⟩])
 .ret))
theorem enter99 {xs : List Value} {h : Hp} {Q : Value → Hp → Prop} (hl : xs.length ≤ 9) (w : wq E 9 none c99 (frameOf xs) h [] (leaveQ E [.tmp 2] Q)) : CallP E 99 xs h Q :=
  CallP.enterQ (fn := Try.f99) (fn_get Try.func99) (code := Try.f99.body.get rfl) rfl rfl rfl (by kernel_rfl) rfl (fun _ => rfl) hl w
theorem can99 : callable E 99 = true := callable_get Try.func99 rfl rfl
def c100 : C := (.seq (.ops [⟨(some 4),.mov (.const (.bool false)),none⟩])
 (.seq (.ops [⟨(some 5),.mov (.tmp 0),none⟩,
 ⟨(some 6),.mov (.tmp 1),none⟩,
 ⟨(some 7),.call 112 [(.tmp 5),(.tmp 6)],none⟩,
 ⟨(some 8),.ar .i64 .geq (.tmp 7) (.const (.int .i64 0)),none⟩,
 ⟨(some 4),.mov (.tmp 8),none⟩])
 .ret))
theorem enter100 {xs : List Value} {h : Hp} {Q : Value → Hp → Prop} (hl : xs.length ≤ 9) (w : wq E 9 none c100 (frameOf xs) h [] (leaveQ E [.tmp 4] Q)) : CallP E 100 xs h Q :=
  CallP.enterQ (fn := Try.f100) (fn_get Try.func100) (code := Try.f100.body.get rfl) rfl rfl rfl (by kernel_rfl) rfl (fun _ => rfl) hl w
theorem can100 : callable E 100 = true := callable_get Try.func100 rfl rfl
def c101 : C := (.seq (.ops [⟨(some 2),.alloc 107 [(.int .i64 0),(.int .i64 0),(.int .i64 0),(.int .i64 0),(.int .i64 0)],none⟩])
 (.seq (.ops [⟨(some 3),.alloc 107 [(.int .i64 0),(.int .i64 0),(.int .i64 0),(.int .i64 0),(.int .i64 0)],none⟩])
 (.seq (.ops [⟨(some 4),.cutA 5 1 (.tmp 3) none none none,none⟩,
 ⟨(some 5),.mov (.tmp 0),none⟩,
 ⟨(some 6),.copy 1 (.tmp 4) (.tmp 5),none⟩])
 (.seq (.ops [⟨(some 7),.loadN 5 (.tmp 3),none⟩,
 ⟨none,.store 5 (.tmp 2) (.tmp 7),none⟩])
 .ret))))
theorem enter101 {xs : List Value} {h : Hp} {Q : Value → Hp → Prop} (hl : xs.length ≤ 8) (w : wq E 8 none c101 (frameOf xs) h [] (leaveQ E [.cell 2 107] Q)) : CallP E 101 xs h Q :=
  CallP.enterQ (fn := Try.f101) (fn_get Try.func101) (code := Try.f101.body.get rfl) rfl rfl rfl (by kernel_rfl) rfl (fun _ => rfl) hl w
theorem can101 : callable E 101 = true := callable_get Try.func101 rfl rfl
def c103 : C := (.seq (.ops [⟨(some 4),.mov (.const (.bool false)),none⟩])
 (.seq (.ops [⟨(some 5),.mov (.tmp 0),none⟩,
 ⟨(some 6),.mov (.tmp 1),none⟩,
 ⟨(some 7),.call 113 [(.tmp 5),(.tmp 6)],none⟩,
 ⟨(some 8),.ar .i64 .geq (.tmp 7) (.const (.int .i64 0)),none⟩,
 ⟨(some 4),.mov (.tmp 8),none⟩])
 .ret))
theorem enter103 {xs : List Value} {h : Hp} {Q : Value → Hp → Prop} (hl : xs.length ≤ 9) (w : wq E 9 none c103 (frameOf xs) h [] (leaveQ E [.tmp 4] Q)) : CallP E 103 xs h Q :=
  CallP.enterQ (fn := Try.f103) (fn_get Try.func103) (code := Try.f103.body.get rfl) rfl rfl rfl (by kernel_rfl) rfl (fun _ => rfl) hl w
theorem can103 : callable E 103 = true := callable_get Try.func103 rfl rfl
def c105 : C := (.seq (.ops [⟨(some 2),.mov (.const (.bool false)),none⟩])
 (.seq (.ops [⟨(some 3),.mov (.tmp 0),none⟩,
 ⟨(some 4),.mov (.tmp 0),none⟩,
 ⟨(some 5),.ar .i64 .neq (.tmp 3) (.tmp 4),none⟩,
 ⟨(some 2),.mov (.tmp 5),none⟩])
 .ret))
theorem enter105 {xs : List Value} {h : Hp} {Q : Value → Hp → Prop} (hl : xs.length ≤ 6) (w : wq E 6 none c105 (frameOf xs) h [] (leaveQ E [.tmp 2] Q)) : CallP E 105 xs h Q :=
  CallP.enterQ (fn := Try.f105) (fn_get Try.func105) (code := Try.f105.body.get rfl) rfl rfl rfl (by kernel_rfl) rfl (fun _ => rfl) hl w
theorem can105 : callable E 105 = true := callable_get Try.func105 rfl rfl
def c106 : C := (.seq (.ops [⟨(some 4),.mov (.const (.int .i64 0)),none⟩])
 (.seq (.seq (.ops [⟨(some 6),.mov (.tmp 0),none⟩,
 ⟨(some 7),.lenS (.tmp 6),none⟩,
 ⟨(some 8),.mov (.const (.int .i64 0)),none⟩])
 (.block 0 (.loop (.seq (.ops [⟨(some 9),.ar .i64 .lss (.tmp 8) (.tmp 7),none⟩])
 (.seq (.cond (.tmp 9) .skip
 (.exit 0))
 (.seq (.block 1 (.seq (.ops [⟨(some 10),.mov (.tmp 8),none⟩,
 ⟨(some 5),.mov (.tmp 10),none⟩])
 (.seq (.ops [⟨(some 11),.mov (.tmp 1),none⟩,
 ⟨(some 12),.mov (.tmp 0),none⟩,
 ⟨(some 13),.mov (.tmp 5),none⟩,
 ⟨(some 14),.idxS 1 (.tmp 12) (.tmp 13),none⟩,
 ⟨(some 15),.load1 (.tmp 14),none⟩,
 ⟨(some 16),.raw (.binOp .eql 4 (.tmp 11) (.tmp 15) 4) 4,none⟩])
 (.cond (.tmp 16) (.seq (.ops [⟨(some 17),.mov (.tmp 5),none⟩,
 ⟨(some 4),.mov (.tmp 17),none⟩])
 .ret)
 .skip))))
 (.ops [⟨(some 18),.ar .i64 .add (.tmp 8) (.const (.int .i64 1)),none⟩,
 ⟨(some 8),.mov (.tmp 18),none⟩])))))))
 (.seq (.ops [⟨(some 4),.mov (.const (.int .i64 (-1))),none⟩])
 .ret)))
theorem enter106 {xs : List Value} {h : Hp} {Q : Value → Hp → Prop} (hl : xs.length ≤ 19) (w : wq E 19 none c106 (frameOf xs) h [] (leaveQ E [.tmp 4] Q)) : CallP E 106 xs h Q :=
  CallP.enterQ (fn := Try.f106) (fn_get Try.func106) (code := Try.f106.body.get rfl) rfl rfl rfl (by kernel_rfl) rfl (fun _ => rfl) hl w
theorem can106 : callable E 106 = true := callable_get Try.func106 rfl rfl
def c107 : C := (.seq (.ops [⟨(some 3),.box 25 (.tmp 0),none⟩,
 ⟨(some 4),.box 107 (.tmp 1),none⟩,
 ⟨(some 6),.mov (.const (.bool false)),none⟩])
 (.seq (.seq (.ops [⟨(some 9),.fldA 1 (.tmp 3),none⟩,
 ⟨(some 10),.load1 (.tmp 9),none⟩,
 ⟨(some 11),.lenS (.tmp 10),none⟩,
 ⟨(some 12),.mov (.const (.int .i64 0)),none⟩])
 (.block 0 (.loop (.seq (.ops [⟨(some 13),.ar .i64 .lss (.tmp 12) (.tmp 11),none⟩])
 (.seq (.cond (.tmp 13) .skip
 (.exit 0))
 (.seq (.block 1 (.seq (.ops [⟨(some 14),.mov (.tmp 12),none⟩,
 ⟨(some 15),.idxS 1 (.tmp 10) (.tmp 12),none⟩,
 ⟨(some 16),.load1 (.tmp 15),none⟩,
 ⟨(some 7),.mov (.tmp 14),none⟩,
 ⟨(some 8),.mov (.tmp 16),none⟩])
 (.seq (.ops [⟨(some 17),.mov (.tmp 7),none⟩,
 ⟨(some 18),.idxA 5 1 (.tmp 4) (.tmp 17),none⟩,
 ⟨(some 19),.load1 (.tmp 18),none⟩,
 ⟨(some 20),.ar .i64 .gtr (.tmp 19) (.const (.int .i64 0)),none⟩,
 ⟨(some 21),.mov (.tmp 20),none⟩,
 ⟨(some 22),.mov (.tmp 8),(some (21,true))⟩,
 ⟨(some 23),.mov (.tmp 2),(some (21,true))⟩,
 ⟨(some 24),.ar .i64 .neq (.tmp 22) (.tmp 23),(some (21,true))⟩,
 ⟨(some 25),.pick (.tmp 21) (.tmp 24) (.const (.bool false)),none⟩])
 (.cond (.tmp 25) (.seq (.ops [⟨(some 6),.mov (.const (.bool false)),none⟩])
 .ret)
 .skip))))
 (.ops [⟨(some 26),.ar .i64 .add (.tmp 12) (.const (.int .i64 1)),none⟩,
 ⟨(some 12),.mov (.tmp 26),none⟩])))))))
 (.seq (.ops [⟨(some 6),.mov (.const (.bool true)),none⟩])
 .ret)))
theorem enter107 {xs : List Value} {h : Hp} {Q : Value → Hp → Prop} (hl : xs.length ≤ 27) (w : wq E 27 none c107 (frameOf xs) h [] (leaveQ E [.tmp 6] Q)) : CallP E 107 xs h Q :=
  CallP.enterQ (fn := Try.f107) (fn_get Try.func107) (code := Try.f107.body.get rfl) rfl rfl rfl (by kernel_rfl) rfl (fun _ => rfl) hl w
theorem can107 : callable E 107 = true := callable_get Try.func107 rfl rfl
def c108 : C := (.seq (.ops [⟨(some 6),.fldA 3 (.tmp 1),none⟩,
 ⟨(some 7),.load1 (.tmp 6),none⟩,
 ⟨(some 8),.loadN 5 (.tmp 2),none⟩,
 ⟨(some 9),.func (.func 74) [(.tmp 8)] [],none⟩,
 ⟨(some 10),.call 109 [(.tmp 7),(.tmp 9)],none⟩,
 ⟨(some 11),.lenS (.tmp 10),none⟩,
 ⟨(some 12),.mov (.const (.int .i64 0)),none⟩])
 (.block 0 (.loop (.seq (.ops [⟨(some 13),.ar .i64 .lss (.tmp 12) (.tmp 11),none⟩])
 (.seq (.cond (.tmp 13) .skip
 (.exit 0))
 (.seq (.block 1 (.seq (.ops [⟨(some 14),.idxS 1 (.tmp 10) (.tmp 12),none⟩,
 ⟨(some 15),.load1 (.tmp 14),none⟩,
 ⟨(some 5),.mov (.tmp 15),none⟩])
 (.seq (.draw [⟨(some 16),.mov (.tmp 0),none⟩,
 ⟨(some 17),.mov (.tmp 5),none⟩,
 ⟨(some 18),.loadN 5 (.tmp 2),none⟩,
 ⟨(some 19),.fldA 3 (.tmp 1),none⟩,
 ⟨(some 20),.load1 (.tmp 19),none⟩,
 ⟨(some 21),.mov (.tmp 5),none⟩,
 ⟨(some 22),.idxS 4 (.tmp 20) (.tmp 21),none⟩,
 ⟨(some 23),.loadN 4 (.tmp 22),none⟩,
 ⟨(some 24),.call 75 [(.tmp 18),(.tmp 23)],none⟩,
 ⟨(some 25),.callv (.tmp 16) [(.tmp 17),(.tmp 24)],none⟩,
 ⟨(some 26),.not (.tmp 25),none⟩]
 [⟨false,true,[false,false,false,false,false,false,false,false,false,false,false],[false,false,false,false,false,false,false,false,true,false,false]⟩,
 ⟨false,true,[false,false,false,false,false,false,false,false,false,false,false],[false,false,false,false,false,false,false,false,true,false,false]⟩,
 ⟨false,false,[false,false,false,false,false,false,false,false,false,false,false],[false,false,false,false,false,false,false,false,false,false,false]⟩,
 ⟨false,false,[false,false,false,false,false,false,false,false,false,false,false],[false,false,false,false,false,false,false,false,false,false,false]⟩,
 ⟨false,false,[false,false,false,false,false,false,false,false,false,false,false],[false,false,false,false,false,false,false,false,false,false,false]⟩,
 ⟨false,false,[false,false,false,false,false,false,false,false,false,false,false],[false,false,false,false,false,false,false,false,false,false,false]⟩,
 ⟨false,false,[false,false,false,false,false,false,false,false,false,false,false],[false,false,false,false,false,false,false,false,false,false,false]⟩,
 ⟨false,false,[false,false,false,false,false,false,false,false,false,false,false],[false,false,false,false,false,false,false,false,false,false,false]⟩,
 ⟨true,false,[false,false,false,false,false,false,false,false,false,false,false],[false,false,false,false,false,false,false,false,true,false,false]⟩,
 ⟨true,false,[false,false,false,false,false,false,false,false,true,false,false],[false,false,false,false,false,false,false,false,true,true,false]⟩,
 ⟨false,false,[false,false,false,false,false,false,false,false,true,true,false],[false,false,false,false,false,false,false,false,true,true,false]⟩])
 (.cond (.tmp 26) .ret
 .skip))))
 (.ops [⟨(some 27),.ar .i64 .add (.tmp 12) (.const (.int .i64 1)),none⟩,
 ⟨(some 12),.mov (.tmp 27),none⟩])))))))
theorem enter108 {xs : List Value} {h : Hp} {Q : Value → Hp → Prop} (hl : xs.length ≤ 28) (w : wq E 28 none c108 (frameOf xs) h [] (leaveQ E [] Q)) : CallP E 108 xs h Q :=
  CallP.enterQ (fn := Try.f108) (fn_get Try.func108) (code := Try.f108.body.get rfl) rfl rfl rfl (by kernel_rfl) rfl (fun _ => rfl) hl w
theorem can108 : callable E 108 = true := callable_get Try.func108 rfl rfl
def c109 : C := (.seq (.ops [⟨(some 4),.mov (.const (.slice none 0 0)),none⟩])
 (.seq (.ops [⟨(some 5),.mov (.const (.slice none 0 0)),none⟩])
 (.seq (.seq (.ops [⟨(some 8),.mov (.tmp 0),none⟩,
 ⟨(some 9),.lenS (.tmp 8),none⟩,
 ⟨(some 10),.mov (.const (.int .i64 0)),none⟩])
 (.block 0 (.loop (.seq (.ops [⟨(some 11),.ar .i64 .lss (.tmp 10) (.tmp 9),none⟩])
 (.seq (.cond (.tmp 11) .skip
 (.exit 0))
 (.seq (.block 1 (.seq (.ops [⟨(some 12),.mov (.tmp 10),none⟩,
 ⟨(some 13),.idxS 4 (.tmp 8) (.tmp 10),none⟩,
 ⟨(some 14),.loadN 4 (.tmp 13),none⟩,
 ⟨(some 7),.alloc 96 [(.int .i64 0),(.int .i64 0),(.int .i64 0),(.int .i64 0)],none⟩,
 ⟨(some 6),.mov (.tmp 12),none⟩,
 ⟨none,.store 4 (.tmp 7) (.tmp 14),none⟩])
 (.seq (.ops [⟨(some 15),.mov (.tmp 1),none⟩,
 ⟨(some 16),.loadN 4 (.tmp 7),none⟩,
 ⟨(some 17),.callv (.tmp 15) [(.tmp 16)],none⟩])
 (.cond (.tmp 17) (.ops [⟨(some 18),.mov (.tmp 5),none⟩,
 ⟨(some 19),.mov (.tmp 6),none⟩,
 ⟨(some 20),.slit 3 1 [(.int .i64 0)] [(0,1,(.tmp 19))],none⟩,
 ⟨(some 21),.append 3 1 8 (.tmp 18) (.tmp 20),none⟩,
 ⟨(some 5),.mov (.tmp 21),none⟩])
 .skip))))
 (.ops [⟨(some 22),.ar .i64 .add (.tmp 10) (.const (.int .i64 1)),none⟩,
 ⟨(some 10),.mov (.tmp 22),none⟩])))))))
 (.seq (.ops [⟨(some 23),.mov (.tmp 5),none⟩,
 ⟨(some 4),.mov (.tmp 23),none⟩])
 .ret))))
theorem enter109 {xs : List Value} {h : Hp} {Q : Value → Hp → Prop} (hl : xs.length ≤ 24) (w : wq E 24 none c109 (frameOf xs) h [] (leaveQ E [.tmp 4] Q)) : CallP E 109 xs h Q :=
  CallP.enterQ (fn := Try.f109) (fn_get Try.func109) (code := Try.f109.body.get rfl) rfl rfl rfl (by kernel_rfl) rfl (fun _ => rfl) hl w
theorem can109 : callable E 109 = true := callable_get Try.func109 rfl rfl
def c112 : C := (.seq (.ops [⟨(some 4),.mov (.const (.int .i64 0)),none⟩])
 (.seq (.seq (.ops [⟨(some 6),.mov (.tmp 0),none⟩,
 ⟨(some 7),.lenS (.tmp 6),none⟩,
 ⟨(some 8),.mov (.const (.int .i64 0)),none⟩])
 (.block 0 (.loop (.seq (.ops [⟨(some 9),.ar .i64 .lss (.tmp 8) (.tmp 7),none⟩])
 (.seq (.cond (.tmp 9) .skip
 (.exit 0))
 (.seq (.block 1 (.seq (.ops [⟨(some 10),.mov (.tmp 8),none⟩,
 ⟨(some 5),.mov (.tmp 10),none⟩])
 (.seq (.ops [⟨(some 11),.mov (.tmp 1),none⟩,
 ⟨(some 12),.mov (.tmp 0),none⟩,
 ⟨(some 13),.mov (.tmp 5),none⟩,
 ⟨(some 14),.idxS 1 (.tmp 12) (.tmp 13),none⟩,
 ⟨(some 15),.load1 (.tmp 14),none⟩,
 ⟨(some 16),.callv (.tmp 11) [(.tmp 15)],none⟩])
 (.cond (.tmp 16) (.seq (.ops [⟨(some 17),.mov (.tmp 5),none⟩,
 ⟨(some 4),.mov (.tmp 17),none⟩])
 .ret)
 .skip))))
 (.ops [⟨(some 18),.ar .i64 .add (.tmp 8) (.const (.int .i64 1)),none⟩,
 ⟨(some 8),.mov (.tmp 18),none⟩])))))))
 (.seq (.ops [⟨(some 4),.mov (.const (.int .i64 (-1))),none⟩])
 .ret)))
theorem enter112 {xs : List Value} {h : Hp} {Q : Value → Hp → Prop} (hl : xs.length ≤ 19) (w : wq E 19 none c112 (frameOf xs) h [] (leaveQ E [.tmp 4] Q)) : CallP E 112 xs h Q :=
  CallP.enterQ (fn := Try.f112) (fn_get Try.func112) (code := Try.f112.body.get rfl) rfl rfl rfl (by kernel_rfl) rfl (fun _ => rfl) hl w
theorem can112 : callable E 112 = true := callable_get Try.func112 rfl rfl
def c113 : C := (.seq (.ops [⟨(some 4),.mov (.const (.int .i64 0)),none⟩])
 (.seq (.seq (.ops [⟨(some 6),.mov (.tmp 0),none⟩,
 ⟨(some 7),.lenS (.tmp 6),none⟩,
 ⟨(some 8),.mov (.const (.int .i64 0)),none⟩])
 (.block 0 (.loop (.seq (.ops [⟨(some 9),.ar .i64 .lss (.tmp 8) (.tmp 7),none⟩])
 (.seq (.cond (.tmp 9) .skip
 (.exit 0))
 (.seq (.block 1 (.seq (.ops [⟨(some 10),.mov (.tmp 8),none⟩,
 ⟨(some 5),.mov (.tmp 10),none⟩])
 (.seq (.ops [⟨(some 11),.mov (.tmp 1),none⟩,
 ⟨(some 12),.mov (.tmp 0),none⟩,
 ⟨(some 13),.mov (.tmp 5),none⟩,
 ⟨(some 14),.idxS 1 (.tmp 12) (.tmp 13),none⟩,
 ⟨(some 15),.load1 (.tmp 14),none⟩,
 ⟨(some 16),.ar .i64 .eql (.tmp 11) (.tmp 15),none⟩])
 (.cond (.tmp 16) (.seq (.ops [⟨(some 17),.mov (.tmp 5),none⟩,
 ⟨(some 4),.mov (.tmp 17),none⟩])
 .ret)
 .skip))))
 (.ops [⟨(some 18),.ar .i64 .add (.tmp 8) (.const (.int .i64 1)),none⟩,
 ⟨(some 8),.mov (.tmp 18),none⟩])))))))
 (.seq (.ops [⟨(some 4),.mov (.const (.int .i64 (-1))),none⟩])
 .ret)))
theorem enter113 {xs : List Value} {h : Hp} {Q : Value → Hp → Prop} (hl : xs.length ≤ 19) (w : wq E 19 none c113 (frameOf xs) h [] (leaveQ E [.tmp 4] Q)) : CallP E 113 xs h Q :=
  CallP.enterQ (fn := Try.f113) (fn_get Try.func113) (code := Try.f113.body.get rfl) rfl rfl rfl (by kernel_rfl) rfl (fun _ => rfl) hl w
theorem can113 : callable E 113 = true := callable_get Try.func113 rfl rfl
end
end Go.Proofs.Ytpiplaicnbapbaa
