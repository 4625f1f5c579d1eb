/- The code of the functions that PKE comes to. -/
import Derived.Test.YtpiplaicnbapbaaTypesC
set_option maxRecDepth 100000
set_option linter.unusedSectionVars false
set_option linter.unusedVariables false
namespace Go.Proofs.Ytpiplaicnbapbaa
open Go.Rx Go.RowKit
noncomputable section
variable [Unknowns]
def c11 : C := (.seq (.ops [⟨(some 5),.box 86 (.tmp 2),none⟩,
 ⟨(some 6),.mov (.const (.bool false)),none⟩])
 (.seq (.ops [⟨(some 19),.idxA 3 1 (.tmp 5) (.const (.int .i64 1)),none⟩,
 ⟨(some 20),.load1 (.tmp 19),none⟩,
 ⟨(some 21),.cint .u64 (.tmp 20),none⟩,
 ⟨(some 22),.ar .u64 .rem (.tmp 21) (.const (.int .u64 9)),none⟩,
 ⟨(some 23),.cint .i64 (.tmp 22),none⟩,
 ⟨(some 24),.ar .i64 .add (.const (.int .i64 1)) (.tmp 23),none⟩,
 ⟨(some 25),.slit 3 1 [(.int .i64 0)] [(0,1,(.tmp 24))],none⟩,
 ⟨(some 7),.mov (.tmp 25),none⟩])
 (.seq (.seq (.ops [⟨(some 8),.mov (.const (.int .i64 0)),none⟩])
 (.block 0 (.loop (.seq (.seq (.ops [⟨(some 26),.mov (.tmp 8),none⟩,
 ⟨(some 27),.ar .i64 .lss (.tmp 26) (.const (.int .i64 2)),none⟩])
 (.cond (.tmp 27) .skip
 (.exit 0)))
 (.seq (.block 1 (.seq (.ops [⟨(some 31),.mov (.tmp 0),none⟩,
 ⟨(some 32),.call 56 [(.tmp 31)],none⟩,
 ⟨(some 30),.mov (.tmp 32),none⟩,
 ⟨(some 33),.ext (.tmp 30) 0,none⟩,
 ⟨(some 34),.ext (.tmp 30) 1,none⟩,
 ⟨(some 9),.alloc 25 [(.int .i64 0),(.slice none 0 0),(.slice none 0 0),(.slice none 0 0)],none⟩,
 ⟨none,.store 4 (.tmp 9) (.tmp 33),none⟩,
 ⟨(some 10),.mov (.tmp 34),none⟩])
 (.seq (.seq (.ops [⟨(some 35),.mov (.tmp 0),none⟩,
 ⟨(some 36),.ar .i64 .lss (.tmp 35) (.const (.int .i64 1)),none⟩,
 ⟨(some 37),.mov (.tmp 36),none⟩,
 ⟨(some 38),.mov (.tmp 0),(some (37,false))⟩,
 ⟨(some 39),.ar .i64 .gtr (.tmp 38) (.const (.int .i64 4)),(some (37,false))⟩,
 ⟨(some 40),.pick (.tmp 37) (.const (.bool true)) (.tmp 39),none⟩])
 (.cond (.tmp 40) (.seq (.ops [⟨(some 41),.mov (.tmp 10),none⟩,
 ⟨(some 42),.ar .i64 .neq (.tmp 41) (.const (.int .i64 1)),none⟩,
 ⟨(some 43),.mov (.tmp 42),none⟩,
 ⟨(some 44),.fldA 0 (.tmp 9),(some (43,false))⟩,
 ⟨(some 45),.load1 (.tmp 44),(some (43,false))⟩,
 ⟨(some 46),.ar .i64 .neq (.tmp 45) (.const (.int .i64 0)),(some (43,false))⟩,
 ⟨(some 47),.pick (.tmp 43) (.const (.bool true)) (.tmp 46),none⟩,
 ⟨(some 48),.mov (.tmp 47),none⟩,
 ⟨(some 49),.fldA 1 (.tmp 9),(some (48,false))⟩,
 ⟨(some 50),.load1 (.tmp 49),(some (48,false))⟩,
 ⟨(some 51),.lenS (.tmp 50),(some (48,false))⟩,
 ⟨(some 52),.fldA 2 (.tmp 9),(some (48,false))⟩,
 ⟨(some 53),.load1 (.tmp 52),(some (48,false))⟩,
 ⟨(some 54),.lenS (.tmp 53),(some (48,false))⟩,
 ⟨(some 55),.ar .i64 .add (.tmp 51) (.tmp 54),(some (48,false))⟩,
 ⟨(some 56),.fldA 3 (.tmp 9),(some (48,false))⟩,
 ⟨(some 57),.load1 (.tmp 56),(some (48,false))⟩,
 ⟨(some 58),.lenS (.tmp 57),(some (48,false))⟩,
 ⟨(some 59),.ar .i64 .add (.tmp 55) (.tmp 58),(some (48,false))⟩,
 ⟨(some 60),.ar .i64 .neq (.tmp 59) (.const (.int .i64 0)),(some (48,false))⟩,
 ⟨(some 61),.pick (.tmp 48) (.const (.bool true)) (.tmp 60),none⟩])
 (.cond (.tmp 61) (.seq (.ops [⟨(some 6),.mov (.const (.bool false)),none⟩])
 .ret)
 .skip))
 (.seq (.ops [⟨(some 62),.loadN 4 (.tmp 9),none⟩,
 ⟨(some 63),.call 17 [(.tmp 62)],none⟩,
 ⟨(some 11),.alloc 26 [(.int .i64 0),(.slice none 0 0),(.slice none 0 0),(.slice none 0 0)],none⟩,
 ⟨none,.store 4 (.tmp 11) (.tmp 63),none⟩])
 (.seq (.ops [⟨(some 64),.mov (.tmp 10),none⟩,
 ⟨(some 65),.ar .i64 .neq (.tmp 64) (.const (.int .i64 0)),none⟩,
 ⟨(some 66),.mov (.tmp 65),none⟩,
 ⟨(some 67),.loadN 4 (.tmp 11),(some (66,false))⟩,
 ⟨(some 68),.call 20 [(.tmp 67)],(some (66,false))⟩,
 ⟨(some 69),.not (.tmp 68),(some (66,false))⟩,
 ⟨(some 70),.pick (.tmp 66) (.const (.bool true)) (.tmp 69),none⟩,
 ⟨(some 71),.mov (.tmp 70),none⟩,
 ⟨(some 72),.fldA 2 (.tmp 9),(some (71,false))⟩,
 ⟨(some 73),.load1 (.tmp 72),(some (71,false))⟩,
 ⟨(some 74),.lenS (.tmp 73),(some (71,false))⟩,
 ⟨(some 75),.ar .i64 .neq (.tmp 74) (.const (.int .i64 1)),(some (71,false))⟩,
 ⟨(some 76),.pick (.tmp 71) (.const (.bool true)) (.tmp 75),none⟩,
 ⟨(some 77),.mov (.tmp 76),none⟩,
 ⟨(some 78),.loadN 4 (.tmp 11),(some (77,false))⟩,
 ⟨(some 79),.slit 3 1 [(.int .i64 0)] [(0,1,(.const (.int .i64 1)))],(some (77,false))⟩,
 ⟨(some 80),.mov (.tmp 0),(some (77,false))⟩,
 ⟨(some 81),.aggr [(.slice none 0 0),(.int .i64 0),(.int .i64 0)] [(0,1,(.tmp 79)),(1,1,(.tmp 80))],(some (77,false))⟩,
 ⟨(some 82),.mov (.tmp 7),(some (77,false))⟩,
 ⟨(some 83),.call 49 [(.tmp 78),(.tmp 81),(.tmp 82)],(some (77,false))⟩,
 ⟨(some 84),.not (.tmp 83),(some (77,false))⟩,
 ⟨(some 85),.pick (.tmp 77) (.const (.bool true)) (.tmp 84),none⟩])
 (.cond (.tmp 85) (.seq (.ops [⟨(some 6),.mov (.const (.bool false)),none⟩])
 .ret)
 .skip)))))
 (.seq (.ops [⟨(some 86),.idxA 3 1 (.tmp 5) (.const (.int .i64 0)),none⟩,
 ⟨(some 87),.load1 (.tmp 86),none⟩,
 ⟨(some 12),.mov (.tmp 87),none⟩])
 (.seq (.ops [⟨(some 89),.mov (.tmp 1),none⟩,
 ⟨(some 90),.mov (.tmp 12),none⟩,
 ⟨(some 91),.call 57 [(.tmp 89),(.tmp 90)],none⟩,
 ⟨(some 88),.mov (.tmp 91),none⟩,
 ⟨(some 92),.ext (.tmp 88) 0,none⟩,
 ⟨(some 93),.ext (.tmp 88) 1,none⟩,
 ⟨(some 13),.alloc 25 [(.int .i64 0),(.slice none 0 0),(.slice none 0 0),(.slice none 0 0)],none⟩,
 ⟨none,.store 4 (.tmp 13) (.tmp 92),none⟩,
 ⟨(some 14),.mov (.tmp 93),none⟩])
 (.seq (.seq (.ops [⟨(some 94),.mov (.tmp 1),none⟩,
 ⟨(some 95),.ar .i64 .lss (.tmp 94) (.const (.int .i64 1)),none⟩,
 ⟨(some 96),.mov (.tmp 95),none⟩,
 ⟨(some 97),.mov (.tmp 1),(some (96,false))⟩,
 ⟨(some 98),.ar .i64 .gtr (.tmp 97) (.const (.int .i64 3)),(some (96,false))⟩,
 ⟨(some 99),.pick (.tmp 96) (.const (.bool true)) (.tmp 98),none⟩,
 ⟨(some 100),.mov (.tmp 99),none⟩,
 ⟨(some 101),.mov (.tmp 12),(some (100,false))⟩,
 ⟨(some 102),.ar .i64 .lss (.tmp 101) (.const (.int .i64 0)),(some (100,false))⟩,
 ⟨(some 103),.pick (.tmp 100) (.const (.bool true)) (.tmp 102),none⟩,
 ⟨(some 104),.mov (.tmp 103),none⟩,
 ⟨(some 105),.mov (.tmp 12),(some (104,false))⟩,
 ⟨(some 106),.mov (.tmp 1),(some (104,false))⟩,
 ⟨(some 107),.ar .i64 .geq (.tmp 105) (.tmp 106),(some (104,false))⟩,
 ⟨(some 108),.pick (.tmp 104) (.const (.bool true)) (.tmp 107),none⟩])
 (.cond (.tmp 108) (.seq (.ops [⟨(some 109),.mov (.tmp 14),none⟩,
 ⟨(some 110),.ar .i64 .neq (.tmp 109) (.const (.int .i64 1)),none⟩,
 ⟨(some 111),.mov (.tmp 110),none⟩,
 ⟨(some 112),.fldA 0 (.tmp 13),(some (111,false))⟩,
 ⟨(some 113),.load1 (.tmp 112),(some (111,false))⟩,
 ⟨(some 114),.ar .i64 .neq (.tmp 113) (.const (.int .i64 0)),(some (111,false))⟩,
 ⟨(some 115),.pick (.tmp 111) (.const (.bool true)) (.tmp 114),none⟩,
 ⟨(some 116),.mov (.tmp 115),none⟩,
 ⟨(some 117),.fldA 1 (.tmp 13),(some (116,false))⟩,
 ⟨(some 118),.load1 (.tmp 117),(some (116,false))⟩,
 ⟨(some 119),.lenS (.tmp 118),(some (116,false))⟩,
 ⟨(some 120),.fldA 2 (.tmp 13),(some (116,false))⟩,
 ⟨(some 121),.load1 (.tmp 120),(some (116,false))⟩,
 ⟨(some 122),.lenS (.tmp 121),(some (116,false))⟩,
 ⟨(some 123),.ar .i64 .add (.tmp 119) (.tmp 122),(some (116,false))⟩,
 ⟨(some 124),.fldA 3 (.tmp 13),(some (116,false))⟩,
 ⟨(some 125),.load1 (.tmp 124),(some (116,false))⟩,
 ⟨(some 126),.lenS (.tmp 125),(some (116,false))⟩,
 ⟨(some 127),.ar .i64 .add (.tmp 123) (.tmp 126),(some (116,false))⟩,
 ⟨(some 128),.ar .i64 .neq (.tmp 127) (.const (.int .i64 0)),(some (116,false))⟩,
 ⟨(some 129),.pick (.tmp 116) (.const (.bool true)) (.tmp 128),none⟩])
 (.cond (.tmp 129) (.seq (.ops [⟨(some 6),.mov (.const (.bool false)),none⟩])
 .ret)
 .skip))
 (.seq (.ops [⟨(some 130),.loadN 4 (.tmp 13),none⟩,
 ⟨(some 131),.call 17 [(.tmp 130)],none⟩,
 ⟨(some 15),.alloc 26 [(.int .i64 0),(.slice none 0 0),(.slice none 0 0),(.slice none 0 0)],none⟩,
 ⟨none,.store 4 (.tmp 15) (.tmp 131),none⟩])
 (.seq (.ops [⟨(some 132),.mov (.tmp 14),none⟩,
 ⟨(some 133),.ar .i64 .neq (.tmp 132) (.const (.int .i64 0)),none⟩,
 ⟨(some 134),.mov (.tmp 133),none⟩,
 ⟨(some 135),.loadN 4 (.tmp 15),(some (134,false))⟩,
 ⟨(some 136),.call 20 [(.tmp 135)],(some (134,false))⟩,
 ⟨(some 137),.not (.tmp 136),(some (134,false))⟩,
 ⟨(some 138),.pick (.tmp 134) (.const (.bool true)) (.tmp 137),none⟩,
 ⟨(some 139),.mov (.tmp 138),none⟩,
 ⟨(some 140),.fldA 2 (.tmp 13),(some (139,false))⟩,
 ⟨(some 141),.load1 (.tmp 140),(some (139,false))⟩,
 ⟨(some 142),.lenS (.tmp 141),(some (139,false))⟩,
 ⟨(some 143),.ar .i64 .neq (.tmp 142) (.const (.int .i64 1)),(some (139,false))⟩,
 ⟨(some 144),.pick (.tmp 139) (.const (.bool true)) (.tmp 143),none⟩,
 ⟨(some 145),.mov (.tmp 144),none⟩,
 ⟨(some 146),.loadN 4 (.tmp 15),(some (145,false))⟩,
 ⟨(some 147),.slit 3 1 [(.int .i64 0)] [(0,1,(.const (.int .i64 1)))],(some (145,false))⟩,
 ⟨(some 148),.mov (.tmp 12),(some (145,false))⟩,
 ⟨(some 149),.mov (.tmp 1),(some (145,false))⟩,
 ⟨(some 150),.aggr [(.slice none 0 0),(.int .i64 0),(.int .i64 0)] [(0,1,(.tmp 147)),(1,1,(.tmp 148)),(2,1,(.tmp 149))],(some (145,false))⟩,
 ⟨(some 151),.mov (.tmp 7),(some (145,false))⟩,
 ⟨(some 152),.call 49 [(.tmp 146),(.tmp 150),(.tmp 151)],(some (145,false))⟩,
 ⟨(some 153),.not (.tmp 152),(some (145,false))⟩,
 ⟨(some 154),.pick (.tmp 145) (.const (.bool true)) (.tmp 153),none⟩])
 (.cond (.tmp 154) (.seq (.ops [⟨(some 6),.mov (.const (.bool false)),none⟩])
 .ret)
 .skip)))))
 (.seq (.ops [⟨(some 155),.mov (.tmp 0),none⟩,
 ⟨(some 156),.cint .u64 (.tmp 155),none⟩,
 ⟨(some 157),.ar .u64 .rem (.tmp 156) (.const (.int .u64 4)),none⟩,
 ⟨(some 158),.cint .i64 (.tmp 157),none⟩,
 ⟨(some 159),.ar .i64 .add (.const (.int .i64 1)) (.tmp 158),none⟩,
 ⟨(some 0),.mov (.tmp 159),none⟩])
 (.seq (.ops [⟨(some 160),.mov (.tmp 1),none⟩,
 ⟨(some 161),.cint .u64 (.tmp 160),none⟩,
 ⟨(some 162),.ar .u64 .rem (.tmp 161) (.const (.int .u64 3)),none⟩,
 ⟨(some 163),.cint .i64 (.tmp 162),none⟩,
 ⟨(some 164),.ar .i64 .add (.const (.int .i64 1)) (.tmp 163),none⟩,
 ⟨(some 1),.mov (.tmp 164),none⟩])
 (.ops [⟨(some 165),.idxA 3 1 (.tmp 5) (.const (.int .i64 0)),none⟩,
 ⟨(some 166),.load1 (.tmp 165),none⟩,
 ⟨(some 167),.cint .u64 (.tmp 166),none⟩,
 ⟨(some 168),.mov (.tmp 1),none⟩,
 ⟨(some 169),.cint .u64 (.tmp 168),none⟩,
 ⟨(some 170),.ar .u64 .rem (.tmp 167) (.tmp 169),none⟩,
 ⟨(some 171),.cint .i64 (.tmp 170),none⟩,
 ⟨(some 172),.idxA 3 1 (.tmp 5) (.const (.int .i64 0)),none⟩,
 ⟨none,.store 1 (.tmp 172) (.tmp 171),none⟩])))))))))
 (.ops [⟨(some 28),.mov (.tmp 8),none⟩,
 ⟨(some 29),.ar .i64 .add (.tmp 28) (.const (.int .i64 1)),none⟩,
 ⟨(some 8),.mov (.tmp 29),none⟩]))))))
 (.seq (.ops [⟨(some 173),.idxA 3 1 (.tmp 5) (.const (.int .i64 1)),none⟩,
 ⟨(some 174),.load1 (.tmp 173),none⟩,
 ⟨(some 175),.idxA 3 1 (.tmp 5) (.const (.int .i64 2)),none⟩,
 ⟨(some 176),.load1 (.tmp 175),none⟩,
 ⟨(some 177),.slit 3 2 [(.int .i64 0),(.int .i64 0)] [(0,1,(.tmp 174)),(1,1,(.tmp 176))],none⟩,
 ⟨(some 178),.call 35 [(.tmp 177),(.const (.int .i64 2)),(.const (.int .i64 9))],none⟩,
 ⟨(some 16),.mov (.tmp 178),none⟩])
 (.seq (.ops [⟨(some 179),.call 58 [],none⟩,
 ⟨(some 17),.alloc 25 [(.int .i64 0),(.slice none 0 0),(.slice none 0 0),(.slice none 0 0)],none⟩,
 ⟨none,.store 4 (.tmp 17) (.tmp 179),none⟩])
 (.seq (.ops [⟨(some 180),.loadN 4 (.tmp 17),none⟩,
 ⟨(some 181),.call 17 [(.tmp 180)],none⟩,
 ⟨(some 18),.alloc 26 [(.int .i64 0),(.slice none 0 0),(.slice none 0 0),(.slice none 0 0)],none⟩,
 ⟨none,.store 4 (.tmp 18) (.tmp 181),none⟩])
 (.seq (.ops [⟨(some 182),.loadN 4 (.tmp 18),none⟩,
 ⟨(some 183),.call 20 [(.tmp 182)],none⟩,
 ⟨(some 184),.mov (.tmp 183),none⟩,
 ⟨(some 185),.fldA 2 (.tmp 17),(some (184,true))⟩,
 ⟨(some 186),.load1 (.tmp 185),(some (184,true))⟩,
 ⟨(some 187),.lenS (.tmp 186),(some (184,true))⟩,
 ⟨(some 188),.ar .i64 .eql (.tmp 187) (.const (.int .i64 2)),(some (184,true))⟩,
 ⟨(some 189),.pick (.tmp 184) (.tmp 188) (.const (.bool false)),none⟩,
 ⟨(some 190),.mov (.tmp 189),none⟩,
 ⟨(some 191),.loadN 4 (.tmp 18),(some (190,true))⟩,
 ⟨(some 192),.slit 3 2 [(.int .i64 0),(.int .i64 0)] [(0,1,(.const (.int .i64 1))),(1,1,(.const (.int .i64 (-1))))],(some (190,true))⟩,
 ⟨(some 193),.aggr [(.slice none 0 0),(.int .i64 0),(.int .i64 0)] [(0,1,(.tmp 192)),(1,1,(.const (.int .i64 1)))],(some (190,true))⟩,
 ⟨(some 194),.mov (.tmp 16),(some (190,true))⟩,
 ⟨(some 195),.call 49 [(.tmp 191),(.tmp 193),(.tmp 194)],(some (190,true))⟩,
 ⟨(some 196),.pick (.tmp 190) (.tmp 195) (.const (.bool false)),none⟩,
 ⟨(some 197),.mov (.tmp 196),none⟩,
 ⟨(some 198),.call 27 [],(some (197,true))⟩,
 ⟨(some 199),.pick (.tmp 197) (.tmp 198) (.const (.bool false)),none⟩,
 ⟨(some 6),.mov (.tmp 199),none⟩])
 .ret)))))))
theorem enter11 {xs : List Value} {h : Hp} {Q : Value → Hp → Prop} (hl : xs.length ≤ 200) (w : wq E 200 none c11 (frameOf xs) h [] (leaveQ E [.tmp 6] Q)) : CallP E 11 xs h Q :=
  CallP.enterQ (fn := Try.f11) (fn_get Try.func11) (code := Try.f11.body.get rfl) rfl rfl rfl (by kernel_rfl) rfl (fun _ => rfl) hl w
theorem can11 : callable E 11 = true := callable_get Try.func11 rfl rfl
def c17 : C := (.seq (.ops [⟨(some 1),.box 25 (.tmp 0),none⟩,
 ⟨(some 2),.alloc 26 [(.int .i64 0),(.slice none 0 0),(.slice none 0 0),(.slice none 0 0)],none⟩])
 (.seq (.ops [⟨(some 3),.mov (.const (.slice none 0 0)),none⟩])
 (.seq (.draw [⟨(some 4),.fldA 0 (.tmp 1),none⟩,
 ⟨(some 5),.load1 (.tmp 4),none⟩,
 ⟨(some 6),.fldA 1 (.tmp 1),none⟩,
 ⟨(some 7),.load1 (.tmp 6),none⟩,
 ⟨(some 8),.call 19 [(.tmp 7),(.const (.int .i64 6))],none⟩,
 ⟨(some 9),.fldA 2 (.tmp 1),none⟩,
 ⟨(some 10),.load1 (.tmp 9),none⟩,
 ⟨(some 11),.call 19 [(.tmp 10),(.const (.int .i64 3))],none⟩,
 ⟨(some 12),.mov (.tmp 3),none⟩,
 ⟨(some 13),.fldA 3 (.tmp 1),none⟩,
 ⟨(some 14),.load1 (.tmp 13),none⟩,
 ⟨(some 15),.fldA 3 (.tmp 1),none⟩,
 ⟨(some 16),.load1 (.tmp 15),none⟩,
 ⟨(some 17),.lenS (.tmp 16),none⟩,
 ⟨(some 18),.raw (.call ⟨.builtin .min,⟨[(.tmp 17),(.const (.int .i64 16))]⟩,⟨[3,3]⟩⟩) 3,none⟩,
 ⟨(some 19),.cutS 4 (.tmp 14) none (some (.tmp 18)) none,none⟩,
 ⟨(some 20),.append 96 4 32 (.tmp 12) (.tmp 19),none⟩,
 ⟨(some 21),.aggr [(.int .i64 0),(.slice none 0 0),(.slice none 0 0),(.slice none 0 0)] [(0,1,(.tmp 5)),(1,1,(.tmp 8)),(2,1,(.tmp 11)),(3,1,(.tmp 20))],none⟩,
 ⟨none,.store 4 (.tmp 2) (.tmp 21),none⟩]
 [⟨false,true,[false,false,false,false,false,false,false,false,false,false,false,false,false,false,false,false,false,false,false],[false,false,false,false,true,false,false,true,false,false,false,false,false,false,false,false,true,false,false]⟩,
 ⟨false,true,[false,false,false,false,false,false,false,false,false,false,false,false,false,false,false,false,false,false,false],[false,false,false,false,true,false,false,true,false,false,false,false,false,false,false,false,true,false,false]⟩,
 ⟨false,false,[false,false,false,false,false,false,false,false,false,false,false,false,false,false,false,false,false,false,false],[false,false,false,false,false,false,false,false,false,false,false,false,false,false,false,false,false,false,false]⟩,
 ⟨false,false,[false,false,false,false,false,false,false,false,false,false,false,false,false,false,false,false,false,false,false],[false,false,false,false,false,false,false,false,false,false,false,false,false,false,false,false,false,false,false]⟩,
 ⟨true,false,[false,false,false,false,false,false,false,false,false,false,false,false,false,false,false,false,false,false,false],[false,false,false,false,true,false,false,false,false,false,false,false,false,false,false,false,false,false,false]⟩,
 ⟨false,true,[false,false,false,false,false,false,false,false,false,false,false,false,false,false,false,false,false,false,false],[false,false,false,false,true,false,false,false,false,false,false,false,false,false,false,false,false,false,false]⟩,
 ⟨false,true,[false,false,false,false,false,false,false,false,false,false,false,false,false,false,false,false,false,false,false],[false,false,false,false,true,false,false,false,false,false,false,false,false,false,false,false,false,false,false]⟩,
 ⟨true,false,[false,false,false,false,true,false,false,false,false,false,false,false,false,false,false,false,false,false,false],[false,false,false,false,true,false,false,true,false,false,false,false,false,false,false,false,false,false,false]⟩,
 ⟨false,true,[false,false,false,false,false,false,false,false,false,false,false,false,false,false,false,false,false,false,false],[false,false,false,false,true,false,false,true,false,false,false,false,false,false,false,false,false,false,false]⟩,
 ⟨false,true,[false,false,false,false,false,false,false,false,false,false,false,false,false,false,false,false,false,false,false],[false,false,false,false,true,false,false,true,false,false,false,false,false,false,false,false,false,false,false]⟩,
 ⟨false,true,[false,false,false,false,false,false,false,false,false,false,false,false,false,false,false,false,false,false,false],[false,false,false,false,true,false,false,true,false,false,false,false,false,false,false,false,false,false,false]⟩,
 ⟨false,true,[false,false,false,false,false,false,false,false,false,false,false,false,false,false,false,false,false,false,false],[false,false,false,false,true,false,false,true,false,false,false,false,false,false,false,false,false,false,false]⟩,
 ⟨false,true,[false,false,false,false,false,false,false,false,false,false,false,false,false,false,false,false,false,false,false],[false,false,false,false,true,false,false,true,false,false,false,false,false,false,false,false,false,false,false]⟩,
 ⟨false,true,[false,false,false,false,false,false,false,false,false,false,false,false,false,false,false,false,false,false,false],[false,false,false,false,true,false,false,true,false,false,false,false,false,false,false,false,false,false,false]⟩,
 ⟨false,true,[false,false,false,false,false,false,false,false,false,false,false,false,false,false,false,false,false,false,false],[false,false,false,false,true,false,false,true,false,false,false,false,false,false,false,false,false,false,false]⟩,
 ⟨false,true,[false,false,false,false,false,false,false,false,false,false,false,false,false,false,false,false,false,false,false],[false,false,false,false,true,false,false,true,false,false,false,false,false,false,false,false,false,false,false]⟩,
 ⟨true,false,[false,false,false,false,true,false,false,true,false,false,false,false,false,false,false,false,false,false,false],[false,false,false,false,true,false,false,true,false,false,false,false,false,false,false,false,true,false,false]⟩,
 ⟨false,false,[false,false,false,false,true,false,false,true,false,false,false,false,false,false,false,false,true,false,false],[false,false,false,false,true,false,false,true,false,false,false,false,false,false,false,false,true,false,false]⟩,
 ⟨true,false,[false,false,false,false,true,false,false,true,false,false,false,false,false,false,false,false,true,false,false],[false,false,false,false,true,false,false,true,false,false,false,false,false,false,false,false,true,false,true]⟩])
 .ret)))
theorem enter17 {xs : List Value} {h : Hp} {Q : Value → Hp → Prop} (hl : xs.length ≤ 22) (w : wq E 22 none c17 (frameOf xs) h [] (leaveQ E [.cell 2 26] Q)) : CallP E 17 xs h Q :=
  CallP.enterQ (fn := Try.f17) (fn_get Try.func17) (code := Try.f17.body.get rfl) rfl rfl rfl (by kernel_rfl) rfl (fun _ => rfl) hl w
theorem can17 : callable E 17 = true := callable_get Try.func17 rfl rfl
def c19 : C := (.seq (.ops [⟨(some 4),.mov (.const (.slice none 0 0)),none⟩])
 (.seq (.ops [⟨(some 5),.mov (.const (.slice none 0 0)),none⟩])
 (.seq (.ops [⟨(some 6),.mov (.tmp 5),none⟩,
 ⟨(some 7),.mov (.tmp 0),none⟩,
 ⟨(some 8),.mov (.tmp 0),none⟩,
 ⟨(some 9),.lenS (.tmp 8),none⟩,
 ⟨(some 10),.mov (.tmp 1),none⟩,
 ⟨(some 11),.raw (.call ⟨.builtin .min,⟨[(.tmp 9),(.tmp 10)]⟩,⟨[3,3]⟩⟩) 3,none⟩,
 ⟨(some 12),.cutS 1 (.tmp 7) none (some (.tmp 11)) none,none⟩,
 ⟨(some 13),.append 3 1 8 (.tmp 6) (.tmp 12),none⟩,
 ⟨(some 4),.mov (.tmp 13),none⟩])
 .ret)))
theorem enter19 {xs : List Value} {h : Hp} {Q : Value → Hp → Prop} (hl : xs.length ≤ 14) (w : wq E 14 none c19 (frameOf xs) h [] (leaveQ E [.tmp 4] Q)) : CallP E 19 xs h Q :=
  CallP.enterQ (fn := Try.f19) (fn_get Try.func19) (code := Try.f19.body.get rfl) rfl rfl rfl (by kernel_rfl) rfl (fun _ => rfl) hl w
theorem can19 : callable E 19 = true := callable_get Try.func19 rfl rfl
def c20 : C := (.seq (.ops [⟨(some 1),.box 26 (.tmp 0),none⟩,
 ⟨(some 2),.mov (.const (.bool false)),none⟩])
 (.seq (.ops [⟨(some 10),.fldA 0 (.tmp 1),none⟩,
 ⟨(some 11),.load1 (.tmp 10),none⟩,
 ⟨(some 3),.mov (.tmp 11),none⟩])
 (.seq (.seq (.ops [⟨(some 12),.mov (.tmp 3),none⟩,
 ⟨(some 13),.ar .i64 .lss (.tmp 12) (.const (.int .i64 1)),none⟩,
 ⟨(some 14),.mov (.tmp 13),none⟩,
 ⟨(some 15),.mov (.tmp 3),(some (14,false))⟩,
 ⟨(some 16),.ar .i64 .gtr (.tmp 15) (.const (.int .i64 5)),(some (14,false))⟩,
 ⟨(some 17),.pick (.tmp 14) (.const (.bool true)) (.tmp 16),none⟩,
 ⟨(some 18),.mov (.tmp 17),none⟩,
 ⟨(some 19),.fldA 1 (.tmp 1),(some (18,false))⟩,
 ⟨(some 20),.load1 (.tmp 19),(some (18,false))⟩,
 ⟨(some 21),.lenS (.tmp 20),(some (18,false))⟩,
 ⟨(some 22),.mov (.tmp 3),(some (18,false))⟩,
 ⟨(some 23),.ar .i64 .neq (.tmp 21) (.tmp 22),(some (18,false))⟩,
 ⟨(some 24),.pick (.tmp 18) (.const (.bool true)) (.tmp 23),none⟩,
 ⟨(some 25),.mov (.tmp 24),none⟩,
 ⟨(some 26),.fldA 2 (.tmp 1),(some (25,false))⟩,
 ⟨(some 27),.load1 (.tmp 26),(some (25,false))⟩,
 ⟨(some 28),.lenS (.tmp 27),(some (25,false))⟩,
 ⟨(some 29),.ar .i64 .lss (.tmp 28) (.const (.int .i64 1)),(some (25,false))⟩,
 ⟨(some 30),.pick (.tmp 25) (.const (.bool true)) (.tmp 29),none⟩,
 ⟨(some 31),.mov (.tmp 30),none⟩,
 ⟨(some 32),.fldA 2 (.tmp 1),(some (31,false))⟩,
 ⟨(some 33),.load1 (.tmp 32),(some (31,false))⟩,
 ⟨(some 34),.lenS (.tmp 33),(some (31,false))⟩,
 ⟨(some 35),.ar .i64 .gtr (.tmp 34) (.const (.int .i64 2)),(some (31,false))⟩,
 ⟨(some 36),.pick (.tmp 31) (.const (.bool true)) (.tmp 35),none⟩,
 ⟨(some 37),.mov (.tmp 36),none⟩,
 ⟨(some 38),.fldA 3 (.tmp 1),(some (37,false))⟩,
 ⟨(some 39),.load1 (.tmp 38),(some (37,false))⟩,
 ⟨(some 40),.lenS (.tmp 39),(some (37,false))⟩,
 ⟨(some 41),.ar .i64 .gtr (.tmp 40) (.const (.int .i64 15)),(some (37,false))⟩,
 ⟨(some 42),.pick (.tmp 37) (.const (.bool true)) (.tmp 41),none⟩])
 (.cond (.tmp 42) (.seq (.ops [⟨(some 2),.mov (.const (.bool false)),none⟩])
 .ret)
 .skip))
 (.seq (.seq (.ops [⟨(some 4),.mov (.const (.int .i64 0)),none⟩])
 (.block 0 (.loop (.seq (.seq (.ops [⟨(some 43),.mov (.tmp 4),none⟩,
 ⟨(some 44),.mov (.tmp 3),none⟩,
 ⟨(some 45),.ar .i64 .lss (.tmp 43) (.tmp 44),none⟩])
 (.cond (.tmp 45) .skip
 (.exit 0)))
 (.seq (.block 1 (.seq (.ops [⟨(some 48),.fldA 1 (.tmp 1),none⟩,
 ⟨(some 49),.load1 (.tmp 48),none⟩,
 ⟨(some 50),.mov (.tmp 4),none⟩,
 ⟨(some 51),.idxS 1 (.tmp 49) (.tmp 50),none⟩,
 ⟨(some 52),.load1 (.tmp 51),none⟩,
 ⟨(some 53),.ar .i64 .neq (.tmp 52) (.const (.int .i64 0)),none⟩,
 ⟨(some 54),.mov (.tmp 53),none⟩,
 ⟨(some 55),.fldA 1 (.tmp 1),(some (54,true))⟩,
 ⟨(some 56),.load1 (.tmp 55),(some (54,true))⟩,
 ⟨(some 57),.mov (.tmp 4),(some (54,true))⟩,
 ⟨(some 58),.idxS 1 (.tmp 56) (.tmp 57),(some (54,true))⟩,
 ⟨(some 59),.load1 (.tmp 58),(some (54,true))⟩,
 ⟨(some 60),.ar .i64 .neq (.tmp 59) (.const (.int .i64 1)),(some (54,true))⟩,
 ⟨(some 61),.pick (.tmp 54) (.tmp 60) (.const (.bool false)),none⟩])
 (.cond (.tmp 61) (.seq (.ops [⟨(some 2),.mov (.const (.bool false)),none⟩])
 .ret)
 .skip)))
 (.ops [⟨(some 46),.mov (.tmp 4),none⟩,
 ⟨(some 47),.ar .i64 .add (.tmp 46) (.const (.int .i64 1)),none⟩,
 ⟨(some 4),.mov (.tmp 47),none⟩]))))))
 (.seq (.seq (.ops [⟨(some 5),.mov (.const (.int .i64 0)),none⟩])
 (.block 2 (.loop (.seq (.seq (.ops [⟨(some 62),.mov (.tmp 5),none⟩,
 ⟨(some 63),.fldA 2 (.tmp 1),none⟩,
 ⟨(some 64),.load1 (.tmp 63),none⟩,
 ⟨(some 65),.lenS (.tmp 64),none⟩,
 ⟨(some 66),.ar .i64 .lss (.tmp 62) (.tmp 65),none⟩])
 (.cond (.tmp 66) .skip
 (.exit 2)))
 (.seq (.block 3 (.seq (.ops [⟨(some 69),.fldA 2 (.tmp 1),none⟩,
 ⟨(some 70),.load1 (.tmp 69),none⟩,
 ⟨(some 71),.mov (.tmp 5),none⟩,
 ⟨(some 72),.idxS 1 (.tmp 70) (.tmp 71),none⟩,
 ⟨(some 73),.load1 (.tmp 72),none⟩,
 ⟨(some 74),.ar .i64 .lss (.tmp 73) (.const (.int .i64 0)),none⟩,
 ⟨(some 75),.mov (.tmp 74),none⟩,
 ⟨(some 76),.fldA 2 (.tmp 1),(some (75,false))⟩,
 ⟨(some 77),.load1 (.tmp 76),(some (75,false))⟩,
 ⟨(some 78),.mov (.tmp 5),(some (75,false))⟩,
 ⟨(some 79),.idxS 1 (.tmp 77) (.tmp 78),(some (75,false))⟩,
 ⟨(some 80),.load1 (.tmp 79),(some (75,false))⟩,
 ⟨(some 81),.mov (.tmp 3),(some (75,false))⟩,
 ⟨(some 82),.ar .i64 .geq (.tmp 80) (.tmp 81),(some (75,false))⟩,
 ⟨(some 83),.pick (.tmp 75) (.const (.bool true)) (.tmp 82),none⟩])
 (.cond (.tmp 83) (.seq (.ops [⟨(some 2),.mov (.const (.bool false)),none⟩])
 .ret)
 .skip)))
 (.ops [⟨(some 67),.mov (.tmp 5),none⟩,
 ⟨(some 68),.ar .i64 .add (.tmp 67) (.const (.int .i64 1)),none⟩,
 ⟨(some 5),.mov (.tmp 68),none⟩]))))))
 (.seq (.seq (.ops [⟨(some 6),.mov (.const (.int .i64 0)),none⟩])
 (.block 4 (.loop (.seq (.seq (.ops [⟨(some 84),.mov (.tmp 6),none⟩,
 ⟨(some 85),.fldA 3 (.tmp 1),none⟩,
 ⟨(some 86),.load1 (.tmp 85),none⟩,
 ⟨(some 87),.lenS (.tmp 86),none⟩,
 ⟨(some 88),.ar .i64 .lss (.tmp 84) (.tmp 87),none⟩])
 (.cond (.tmp 88) .skip
 (.exit 4)))
 (.seq (.block 5 (.seq (.ops [⟨(some 91),.fldA 3 (.tmp 1),none⟩,
 ⟨(some 92),.load1 (.tmp 91),none⟩,
 ⟨(some 93),.mov (.tmp 6),none⟩,
 ⟨(some 94),.idxS 4 (.tmp 92) (.tmp 93),none⟩,
 ⟨(some 95),.loadN 4 (.tmp 94),none⟩,
 ⟨(some 7),.alloc 96 [(.int .i64 0),(.int .i64 0),(.int .i64 0),(.int .i64 0)],none⟩,
 ⟨none,.store 4 (.tmp 7) (.tmp 95),none⟩])
 (.seq (.seq (.ops [⟨(some 8),.mov (.const (.int .i64 0)),none⟩])
 (.block 6 (.loop (.seq (.seq (.ops [⟨(some 96),.mov (.tmp 8),none⟩,
 ⟨(some 97),.ar .i64 .lss (.tmp 96) (.const (.int .i64 4)),none⟩])
 (.cond (.tmp 97) .skip
 (.exit 6)))
 (.seq (.block 7 (.seq (.ops [⟨(some 100),.mov (.tmp 8),none⟩,
 ⟨(some 101),.idxA 4 1 (.tmp 7) (.tmp 100),none⟩,
 ⟨(some 102),.load1 (.tmp 101),none⟩,
 ⟨(some 103),.ar .i64 .lss (.tmp 102) (.const (.int .i64 0)),none⟩,
 ⟨(some 104),.mov (.tmp 103),none⟩,
 ⟨(some 105),.mov (.tmp 8),(some (104,false))⟩,
 ⟨(some 106),.idxA 4 1 (.tmp 7) (.tmp 105),(some (104,false))⟩,
 ⟨(some 107),.load1 (.tmp 106),(some (104,false))⟩,
 ⟨(some 108),.mov (.tmp 3),(some (104,false))⟩,
 ⟨(some 109),.ar .i64 .geq (.tmp 107) (.tmp 108),(some (104,false))⟩,
 ⟨(some 110),.pick (.tmp 104) (.const (.bool true)) (.tmp 109),none⟩])
 (.cond (.tmp 110) (.seq (.ops [⟨(some 2),.mov (.const (.bool false)),none⟩])
 .ret)
 .skip)))
 (.ops [⟨(some 98),.mov (.tmp 8),none⟩,
 ⟨(some 99),.ar .i64 .add (.tmp 98) (.const (.int .i64 1)),none⟩,
 ⟨(some 8),.mov (.tmp 99),none⟩]))))))
 (.seq (.seq (.ops [⟨(some 111),.idxA 4 1 (.tmp 7) (.const (.int .i64 0)),none⟩,
 ⟨(some 112),.load1 (.tmp 111),none⟩,
 ⟨(some 113),.idxA 4 1 (.tmp 7) (.const (.int .i64 1)),none⟩,
 ⟨(some 114),.load1 (.tmp 113),none⟩,
 ⟨(some 115),.ar .i64 .gtr (.tmp 112) (.tmp 114),none⟩])
 (.cond (.tmp 115) (.seq (.ops [⟨(some 2),.mov (.const (.bool false)),none⟩])
 .ret)
 .skip))
 (.seq (.ops [⟨(some 116),.mov (.tmp 6),none⟩,
 ⟨(some 117),.ar .i64 .gtr (.tmp 116) (.const (.int .i64 0)),none⟩])
 (.cond (.tmp 117) (.seq (.ops [⟨(some 118),.fldA 3 (.tmp 1),none⟩,
 ⟨(some 119),.load1 (.tmp 118),none⟩,
 ⟨(some 120),.mov (.tmp 6),none⟩,
 ⟨(some 121),.ar .i64 .sub (.tmp 120) (.const (.int .i64 1)),none⟩,
 ⟨(some 122),.idxS 4 (.tmp 119) (.tmp 121),none⟩,
 ⟨(some 123),.loadN 4 (.tmp 122),none⟩,
 ⟨(some 9),.alloc 96 [(.int .i64 0),(.int .i64 0),(.int .i64 0),(.int .i64 0)],none⟩,
 ⟨none,.store 4 (.tmp 9) (.tmp 123),none⟩])
 (.seq (.ops [⟨(some 124),.idxA 4 1 (.tmp 9) (.const (.int .i64 0)),none⟩,
 ⟨(some 125),.load1 (.tmp 124),none⟩,
 ⟨(some 126),.idxA 4 1 (.tmp 7) (.const (.int .i64 0)),none⟩,
 ⟨(some 127),.load1 (.tmp 126),none⟩,
 ⟨(some 128),.ar .i64 .gtr (.tmp 125) (.tmp 127),none⟩,
 ⟨(some 129),.mov (.tmp 128),none⟩,
 ⟨(some 130),.idxA 4 1 (.tmp 9) (.const (.int .i64 0)),(some (129,false))⟩,
 ⟨(some 131),.load1 (.tmp 130),(some (129,false))⟩,
 ⟨(some 132),.idxA 4 1 (.tmp 7) (.const (.int .i64 0)),(some (129,false))⟩,
 ⟨(some 133),.load1 (.tmp 132),(some (129,false))⟩,
 ⟨(some 134),.ar .i64 .eql (.tmp 131) (.tmp 133),(some (129,false))⟩,
 ⟨(some 135),.mov (.tmp 134),(some (129,false))⟩,
 ⟨(some 136),.idxA 4 1 (.tmp 9) (.const (.int .i64 1)),(some (135,true))⟩,
 ⟨(some 137),.load1 (.tmp 136),(some (135,true))⟩,
 ⟨(some 138),.idxA 4 1 (.tmp 7) (.const (.int .i64 1)),(some (135,true))⟩,
 ⟨(some 139),.load1 (.tmp 138),(some (135,true))⟩,
 ⟨(some 140),.ar .i64 .geq (.tmp 137) (.tmp 139),(some (135,true))⟩,
 ⟨(some 141),.pick (.tmp 135) (.tmp 140) (.const (.bool false)),(some (129,false))⟩,
 ⟨(some 142),.pick (.tmp 129) (.const (.bool true)) (.tmp 141),none⟩])
 (.cond (.tmp 142) (.seq (.ops [⟨(some 2),.mov (.const (.bool false)),none⟩])
 .ret)
 .skip)))
 .skip))))))
 (.ops [⟨(some 89),.mov (.tmp 6),none⟩,
 ⟨(some 90),.ar .i64 .add (.tmp 89) (.const (.int .i64 1)),none⟩,
 ⟨(some 6),.mov (.tmp 90),none⟩]))))))
 (.seq (.ops [⟨(some 2),.mov (.const (.bool true)),none⟩])
 .ret)))))))
theorem enter20 {xs : List Value} {h : Hp} {Q : Value → Hp → Prop} (hl : xs.length ≤ 143) (w : wq E 143 none c20 (frameOf xs) h [] (leaveQ E [.tmp 2] Q)) : CallP E 20 xs h Q :=
  CallP.enterQ (fn := Try.f20) (fn_get Try.func20) (code := Try.f20.body.get rfl) rfl rfl rfl (by kernel_rfl) rfl (fun _ => rfl) hl w
theorem can20 : callable E 20 = true := callable_get Try.func20 rfl rfl
theorem memo27 {h : Hp} {Q : Value → Hp → Prop} (q : Q (.bool true) h) : CallP E 27 [] h Q := CallP.memo rfl q
def c35 : C := (.seq (.ops [⟨(some 6),.mov (.const (.slice none 0 0)),none⟩])
 (.seq (.ops [⟨(some 7),.mov (.const (.slice none 0 0)),none⟩])
 (.seq (.ops [⟨(some 11),.mov (.tmp 2),none⟩,
 ⟨(some 8),.mov (.tmp 11),none⟩])
 (.seq (.seq (.ops [⟨(some 9),.mov (.const (.int .i64 0)),none⟩])
 (.block 0 (.loop (.seq (.seq (.ops [⟨(some 12),.mov (.tmp 9),none⟩,
 ⟨(some 13),.mov (.tmp 1),none⟩,
 ⟨(some 14),.ar .i64 .lss (.tmp 12) (.tmp 13),none⟩])
 (.cond (.tmp 14) .skip
 (.exit 0)))
 (.seq (.block 1 (.seq (.ops [⟨(some 10),.mov (.const (.int .i64 0)),none⟩])
 (.seq (.seq (.ops [⟨(some 17),.mov (.tmp 9),none⟩,
 ⟨(some 18),.mov (.tmp 0),none⟩,
 ⟨(some 19),.lenS (.tmp 18),none⟩,
 ⟨(some 20),.ar .i64 .lss (.tmp 17) (.tmp 19),none⟩])
 (.cond (.tmp 20) (.ops [⟨(some 21),.mov (.tmp 0),none⟩,
 ⟨(some 22),.mov (.tmp 9),none⟩,
 ⟨(some 23),.idxS 1 (.tmp 21) (.tmp 22),none⟩,
 ⟨(some 24),.load1 (.tmp 23),none⟩,
 ⟨(some 25),.cint .u64 (.tmp 24),none⟩,
 ⟨(some 26),.mov (.tmp 8),none⟩,
 ⟨(some 27),.ar .i64 .add (.tmp 26) (.const (.int .i64 1)),none⟩,
 ⟨(some 28),.cint .u64 (.tmp 27),none⟩,
 ⟨(some 29),.ar .u64 .rem (.tmp 25) (.tmp 28),none⟩,
 ⟨(some 30),.cint .i64 (.tmp 29),none⟩,
 ⟨(some 10),.mov (.tmp 30),none⟩])
 .skip))
 (.seq (.ops [⟨(some 31),.mov (.tmp 8),none⟩,
 ⟨(some 32),.mov (.tmp 10),none⟩,
 ⟨(some 33),.ar .i64 .sub (.tmp 31) (.tmp 32),none⟩,
 ⟨(some 8),.mov (.tmp 33),none⟩])
 (.ops [⟨(some 34),.mov (.tmp 7),none⟩,
 ⟨(some 35),.mov (.tmp 10),none⟩,
 ⟨(some 36),.slit 3 1 [(.int .i64 0)] [(0,1,(.tmp 35))],none⟩,
 ⟨(some 37),.append 3 1 8 (.tmp 34) (.tmp 36),none⟩,
 ⟨(some 7),.mov (.tmp 37),none⟩])))))
 (.ops [⟨(some 15),.mov (.tmp 9),none⟩,
 ⟨(some 16),.ar .i64 .add (.tmp 15) (.const (.int .i64 1)),none⟩,
 ⟨(some 9),.mov (.tmp 16),none⟩]))))))
 (.seq (.seq (.ops [⟨(some 38),.mov (.tmp 8),none⟩,
 ⟨(some 39),.mov (.tmp 2),none⟩,
 ⟨(some 40),.ar .i64 .eql (.tmp 38) (.tmp 39),none⟩])
 (.cond (.tmp 40) (.ops [⟨(some 41),.mov (.tmp 7),none⟩,
 ⟨(some 42),.idxS 1 (.tmp 41) (.const (.int .i64 0)),none⟩,
 ⟨none,.store 1 (.tmp 42) (.const (.int .i64 1)),none⟩])
 .skip))
 (.seq (.ops [⟨(some 43),.mov (.tmp 7),none⟩,
 ⟨(some 6),.mov (.tmp 43),none⟩])
 .ret))))))
theorem enter35 {xs : List Value} {h : Hp} {Q : Value → Hp → Prop} (hl : xs.length ≤ 44) (w : wq E 44 none c35 (frameOf xs) h [] (leaveQ E [.tmp 6] Q)) : CallP E 35 xs h Q :=
  CallP.enterQ (fn := Try.f35) (fn_get Try.func35) (code := Try.f35.body.get rfl) rfl rfl rfl (by kernel_rfl) rfl (fun _ => rfl) hl w
theorem can35 : callable E 35 = true := callable_get Try.func35 rfl rfl
def c38 : C := (.seq (.ops [⟨(some 3),.box 26 (.tmp 0),none⟩,
 ⟨(some 6),.mov (.const (.slice none 0 0)),none⟩,
 ⟨(some 7),.mov (.const (.bool false)),none⟩])
 (.seq (.seq (.ops [⟨(some 10),.mov (.tmp 2),none⟩,
 ⟨(some 11),.ar .i64 .lss (.tmp 10) (.const (.int .i64 0)),none⟩,
 ⟨(some 12),.mov (.tmp 11),none⟩,
 ⟨(some 13),.mov (.tmp 2),(some (12,false))⟩,
 ⟨(some 14),.fldA 3 (.tmp 3),(some (12,false))⟩,
 ⟨(some 15),.load1 (.tmp 14),(some (12,false))⟩,
 ⟨(some 16),.lenS (.tmp 15),(some (12,false))⟩,
 ⟨(some 17),.ar .i64 .geq (.tmp 13) (.tmp 16),(some (12,false))⟩,
 ⟨(some 18),.pick (.tmp 12) (.const (.bool true)) (.tmp 17),none⟩])
 (.cond (.tmp 18) (.seq (.ops [⟨(some 19),.mov (.tmp 1),none⟩,
 ⟨(some 6),.mov (.tmp 19),none⟩,
 ⟨(some 7),.mov (.const (.bool false)),none⟩])
 .ret)
 .skip))
 (.seq (.ops [⟨(some 20),.fldA 3 (.tmp 3),none⟩,
 ⟨(some 21),.load1 (.tmp 20),none⟩,
 ⟨(some 22),.mov (.tmp 2),none⟩,
 ⟨(some 23),.idxS 4 (.tmp 21) (.tmp 22),none⟩,
 ⟨(some 24),.loadN 4 (.tmp 23),none⟩,
 ⟨(some 8),.alloc 96 [(.int .i64 0),(.int .i64 0),(.int .i64 0),(.int .i64 0)],none⟩,
 ⟨none,.store 4 (.tmp 8) (.tmp 24),none⟩])
 (.seq (.ops [⟨(some 9),.mov (.const (.slice none 0 0)),none⟩])
 (.seq (.ops [⟨(some 25),.mov (.tmp 9),none⟩,
 ⟨(some 26),.mov (.tmp 1),none⟩,
 ⟨(some 27),.append 3 1 8 (.tmp 25) (.tmp 26),none⟩,
 ⟨(some 9),.mov (.tmp 27),none⟩])
 (.seq (.ops [⟨(some 28),.mov (.tmp 9),none⟩,
 ⟨(some 29),.idxA 4 1 (.tmp 8) (.const (.int .i64 0)),none⟩,
 ⟨(some 30),.load1 (.tmp 29),none⟩,
 ⟨(some 31),.idxS 1 (.tmp 28) (.tmp 30),none⟩,
 ⟨(some 32),.load1 (.tmp 31),none⟩,
 ⟨(some 33),.ar .i64 .sub (.tmp 32) (.const (.int .i64 1)),none⟩,
 ⟨(some 34),.idxS 1 (.tmp 28) (.tmp 30),none⟩,
 ⟨none,.store 1 (.tmp 34) (.tmp 33),none⟩])
 (.seq (.ops [⟨(some 35),.mov (.tmp 9),none⟩,
 ⟨(some 36),.idxA 4 1 (.tmp 8) (.const (.int .i64 1)),none⟩,
 ⟨(some 37),.load1 (.tmp 36),none⟩,
 ⟨(some 38),.idxS 1 (.tmp 35) (.tmp 37),none⟩,
 ⟨(some 39),.load1 (.tmp 38),none⟩,
 ⟨(some 40),.ar .i64 .sub (.tmp 39) (.const (.int .i64 1)),none⟩,
 ⟨(some 41),.idxS 1 (.tmp 35) (.tmp 37),none⟩,
 ⟨none,.store 1 (.tmp 41) (.tmp 40),none⟩])
 (.seq (.seq (.ops [⟨(some 42),.mov (.tmp 9),none⟩,
 ⟨(some 43),.idxA 4 1 (.tmp 8) (.const (.int .i64 0)),none⟩,
 ⟨(some 44),.load1 (.tmp 43),none⟩,
 ⟨(some 45),.idxS 1 (.tmp 42) (.tmp 44),none⟩,
 ⟨(some 46),.load1 (.tmp 45),none⟩,
 ⟨(some 47),.ar .i64 .lss (.tmp 46) (.const (.int .i64 0)),none⟩,
 ⟨(some 48),.mov (.tmp 47),none⟩,
 ⟨(some 49),.mov (.tmp 9),(some (48,false))⟩,
 ⟨(some 50),.idxA 4 1 (.tmp 8) (.const (.int .i64 1)),(some (48,false))⟩,
 ⟨(some 51),.load1 (.tmp 50),(some (48,false))⟩,
 ⟨(some 52),.idxS 1 (.tmp 49) (.tmp 51),(some (48,false))⟩,
 ⟨(some 53),.load1 (.tmp 52),(some (48,false))⟩,
 ⟨(some 54),.ar .i64 .lss (.tmp 53) (.const (.int .i64 0)),(some (48,false))⟩,
 ⟨(some 55),.pick (.tmp 48) (.const (.bool true)) (.tmp 54),none⟩])
 (.cond (.tmp 55) (.seq (.ops [⟨(some 56),.mov (.tmp 1),none⟩,
 ⟨(some 6),.mov (.tmp 56),none⟩,
 ⟨(some 7),.mov (.const (.bool false)),none⟩])
 .ret)
 .skip))
 (.seq (.ops [⟨(some 57),.mov (.tmp 9),none⟩,
 ⟨(some 58),.idxA 4 1 (.tmp 8) (.const (.int .i64 2)),none⟩,
 ⟨(some 59),.load1 (.tmp 58),none⟩,
 ⟨(some 60),.idxS 1 (.tmp 57) (.tmp 59),none⟩,
 ⟨(some 61),.load1 (.tmp 60),none⟩,
 ⟨(some 62),.ar .i64 .add (.tmp 61) (.const (.int .i64 1)),none⟩,
 ⟨(some 63),.idxS 1 (.tmp 57) (.tmp 59),none⟩,
 ⟨none,.store 1 (.tmp 63) (.tmp 62),none⟩])
 (.seq (.ops [⟨(some 64),.mov (.tmp 9),none⟩,
 ⟨(some 65),.idxA 4 1 (.tmp 8) (.const (.int .i64 3)),none⟩,
 ⟨(some 66),.load1 (.tmp 65),none⟩,
 ⟨(some 67),.idxS 1 (.tmp 64) (.tmp 66),none⟩,
 ⟨(some 68),.load1 (.tmp 67),none⟩,
 ⟨(some 69),.ar .i64 .add (.tmp 68) (.const (.int .i64 1)),none⟩,
 ⟨(some 70),.idxS 1 (.tmp 64) (.tmp 66),none⟩,
 ⟨none,.store 1 (.tmp 70) (.tmp 69),none⟩])
 (.seq (.ops [⟨(some 71),.mov (.tmp 9),none⟩,
 ⟨(some 6),.mov (.tmp 71),none⟩,
 ⟨(some 7),.mov (.const (.bool true)),none⟩])
 .ret)))))))))))
theorem enter38 {xs : List Value} {h : Hp} {Q : Value → Hp → Prop} (hl : xs.length ≤ 72) (w : wq E 72 none c38 (frameOf xs) h [] (leaveQ E [.tmp 6,.tmp 7] Q)) : CallP E 38 xs h Q :=
  CallP.enterQ (fn := Try.f38) (fn_get Try.func38) (code := Try.f38.body.get rfl) rfl rfl rfl (by kernel_rfl) rfl (fun _ => rfl) hl w
theorem can38 : callable E 38 = true := callable_get Try.func38 rfl rfl
def c39 : C := (.seq (.ops [⟨(some 2),.box 26 (.tmp 0),none⟩,
 ⟨(some 4),.alloc 64 [(.slice none 0 0),(.slice none 0 0),(.slice none 0 0)],none⟩])
 (.seq (.ops [⟨(some 17),.mov (.tmp 1),none⟩,
 ⟨(some 18),.slit 22 1 [(.slice none 0 0)] [(0,1,(.tmp 17))],none⟩,
 ⟨(some 19),.slit 3 1 [(.int .i64 0)] [(0,1,(.const (.int .i64 0)))],none⟩,
 ⟨(some 5),.mov (.tmp 18),none⟩,
 ⟨(some 6),.mov (.tmp 19),none⟩])
 (.seq (.ops [⟨(some 20),.newMap,none⟩,
 ⟨(some 21),.mov (.tmp 1),none⟩,
 ⟨(some 22),.call 81 [(.tmp 21)],none⟩,
 ⟨none,.raw (.insert 122 (.tmp 20) (.tmp 22) (.const (.int .i64 0))) 0,none⟩,
 ⟨(some 23),.mov (.tmp 20),none⟩,
 ⟨(some 7),.mov (.tmp 23),none⟩])
 (.seq (.ops [⟨(some 8),.alloc 64 [(.slice none 0 0),(.slice none 0 0),(.slice none 0 0)],none⟩])
 (.seq (.seq (.ops [⟨(some 9),.mov (.const (.int .i64 0)),none⟩])
 (.block 0 (.loop (.seq (.seq (.ops [⟨(some 24),.mov (.tmp 9),none⟩,
 ⟨(some 25),.mov (.tmp 5),none⟩,
 ⟨(some 26),.lenS (.tmp 25),none⟩,
 ⟨(some 27),.ar .i64 .lss (.tmp 24) (.tmp 26),none⟩])
 (.cond (.tmp 27) .skip
 (.exit 0)))
 (.seq (.block 1 (.seq (.ops [⟨(some 10),.mov (.const (.slice none 0 0)),none⟩])
 (.seq (.seq (.ops [⟨(some 11),.mov (.const (.int .i64 0)),none⟩])
 (.block 2 (.loop (.seq (.seq (.ops [⟨(some 30),.mov (.tmp 11),none⟩,
 ⟨(some 31),.fldA 3 (.tmp 2),none⟩,
 ⟨(some 32),.load1 (.tmp 31),none⟩,
 ⟨(some 33),.lenS (.tmp 32),none⟩,
 ⟨(some 34),.ar .i64 .lss (.tmp 30) (.tmp 33),none⟩])
 (.cond (.tmp 34) .skip
 (.exit 2)))
 (.seq (.block 3 (.seq (.ops [⟨(some 38),.loadN 4 (.tmp 2),none⟩,
 ⟨(some 39),.mov (.tmp 5),none⟩,
 ⟨(some 40),.mov (.tmp 9),none⟩,
 ⟨(some 41),.idxS 1 (.tmp 39) (.tmp 40),none⟩,
 ⟨(some 42),.load1 (.tmp 41),none⟩,
 ⟨(some 43),.mov (.tmp 11),none⟩,
 ⟨(some 44),.call 38 [(.tmp 38),(.tmp 42),(.tmp 43)],none⟩,
 ⟨(some 37),.mov (.tmp 44),none⟩,
 ⟨(some 45),.ext (.tmp 37) 0,none⟩,
 ⟨(some 46),.ext (.tmp 37) 1,none⟩,
 ⟨(some 12),.mov (.tmp 45),none⟩,
 ⟨(some 13),.mov (.tmp 46),none⟩])
 (.seq (.seq (.ops [⟨(some 47),.mov (.tmp 13),none⟩,
 ⟨(some 48),.not (.tmp 47),none⟩])
 (.cond (.tmp 48) (.exit 3)
 .skip))
 (.seq (.ops [⟨(some 50),.mov (.tmp 7),none⟩,
 ⟨(some 51),.mov (.tmp 12),none⟩,
 ⟨(some 52),.call 81 [(.tmp 51)],none⟩,
 ⟨(some 53),.raw (.lookup 122 (.tmp 50) (.tmp 52) true) 119,none⟩,
 ⟨(some 49),.mov (.tmp 53),none⟩,
 ⟨(some 54),.ext (.tmp 49) 0,none⟩,
 ⟨(some 55),.ext (.tmp 49) 1,none⟩,
 ⟨(some 14),.mov (.tmp 54),none⟩,
 ⟨(some 15),.mov (.tmp 55),none⟩])
 (.seq (.seq (.ops [⟨(some 56),.mov (.tmp 15),none⟩,
 ⟨(some 57),.not (.tmp 56),none⟩])
 (.cond (.tmp 57) (.seq (.ops [⟨(some 58),.mov (.tmp 5),none⟩,
 ⟨(some 59),.lenS (.tmp 58),none⟩,
 ⟨(some 14),.mov (.tmp 59),none⟩])
 (.seq (.ops [⟨(some 60),.mov (.tmp 7),none⟩,
 ⟨(some 61),.mov (.tmp 12),none⟩,
 ⟨(some 62),.call 81 [(.tmp 61)],none⟩,
 ⟨(some 63),.mov (.tmp 14),none⟩,
 ⟨none,.raw (.mapUpdate 122 (.tmp 60) (.tmp 62) (.tmp 63)) 0,none⟩])
 (.seq (.ops [⟨(some 64),.mov (.tmp 5),none⟩,
 ⟨(some 65),.mov (.tmp 12),none⟩,
 ⟨(some 66),.slit 22 1 [(.slice none 0 0)] [(0,1,(.tmp 65))],none⟩,
 ⟨(some 67),.append 22 1 24 (.tmp 64) (.tmp 66),none⟩,
 ⟨(some 5),.mov (.tmp 67),none⟩])
 (.ops [⟨(some 68),.mov (.tmp 6),none⟩,
 ⟨(some 69),.mov (.tmp 6),none⟩,
 ⟨(some 70),.mov (.tmp 9),none⟩,
 ⟨(some 71),.idxS 1 (.tmp 69) (.tmp 70),none⟩,
 ⟨(some 72),.load1 (.tmp 71),none⟩,
 ⟨(some 73),.ar .i64 .add (.tmp 72) (.const (.int .i64 1)),none⟩,
 ⟨(some 74),.slit 3 1 [(.int .i64 0)] [(0,1,(.tmp 73))],none⟩,
 ⟨(some 75),.append 3 1 8 (.tmp 68) (.tmp 74),none⟩,
 ⟨(some 6),.mov (.tmp 75),none⟩]))))
 .skip))
 (.ops [⟨(some 76),.mov (.tmp 10),none⟩,
 ⟨(some 77),.mov (.tmp 14),none⟩,
 ⟨(some 78),.slit 3 1 [(.int .i64 0)] [(0,1,(.tmp 77))],none⟩,
 ⟨(some 79),.append 3 1 8 (.tmp 76) (.tmp 78),none⟩,
 ⟨(some 10),.mov (.tmp 79),none⟩]))))))
 (.ops [⟨(some 35),.mov (.tmp 11),none⟩,
 ⟨(some 36),.ar .i64 .add (.tmp 35) (.const (.int .i64 1)),none⟩,
 ⟨(some 11),.mov (.tmp 36),none⟩]))))))
 (.seq (.ops [⟨(some 80),.fldA 2 (.tmp 8),none⟩,
 ⟨(some 81),.load1 (.tmp 80),none⟩,
 ⟨(some 16),.mov (.tmp 81),none⟩])
 (.ops [⟨(some 82),.mov (.tmp 16),none⟩,
 ⟨(some 83),.mov (.tmp 10),none⟩,
 ⟨(some 84),.slit 22 1 [(.slice none 0 0)] [(0,1,(.tmp 83))],none⟩,
 ⟨(some 85),.append 22 1 24 (.tmp 82) (.tmp 84),none⟩,
 ⟨(some 86),.fldA 2 (.tmp 8),none⟩,
 ⟨none,.store 1 (.tmp 86) (.tmp 85),none⟩])))))
 (.ops [⟨(some 28),.mov (.tmp 9),none⟩,
 ⟨(some 29),.ar .i64 .add (.tmp 28) (.const (.int .i64 1)),none⟩,
 ⟨(some 9),.mov (.tmp 29),none⟩]))))))
 (.seq (.ops [⟨(some 87),.mov (.tmp 5),none⟩,
 ⟨(some 88),.fldA 0 (.tmp 8),none⟩,
 ⟨none,.store 1 (.tmp 88) (.tmp 87),none⟩])
 (.seq (.ops [⟨(some 89),.mov (.tmp 6),none⟩,
 ⟨(some 90),.fldA 1 (.tmp 8),none⟩,
 ⟨none,.store 1 (.tmp 90) (.tmp 89),none⟩])
 (.seq (.ops [⟨(some 91),.loadN 3 (.tmp 8),none⟩,
 ⟨none,.store 3 (.tmp 4) (.tmp 91),none⟩])
 .ret))))))))
theorem enter39 {xs : List Value} {h : Hp} {Q : Value → Hp → Prop} (hl : xs.length ≤ 92) (w : wq E 92 none c39 (frameOf xs) h [] (leaveQ E [.cell 4 64] Q)) : CallP E 39 xs h Q :=
  CallP.enterQ (fn := Try.f39) (fn_get Try.func39) (code := Try.f39.body.get rfl) rfl rfl rfl (by kernel_rfl) rfl (fun _ => rfl) hl w
theorem can39 : callable E 39 = true := callable_get Try.func39 rfl rfl
def c42 : C := (.seq (.ops [⟨(some 2),.box 26 (.tmp 0),none⟩,
 ⟨(some 4),.mov (.const (.int .i64 0)),none⟩])
 (.seq (.ops [⟨(some 10),.loadN 4 (.tmp 2),none⟩,
 ⟨(some 11),.mov (.tmp 1),none⟩,
 ⟨(some 12),.call 39 [(.tmp 10),(.tmp 11)],none⟩,
 ⟨(some 5),.alloc 64 [(.slice none 0 0),(.slice none 0 0),(.slice none 0 0)],none⟩,
 ⟨none,.store 3 (.tmp 5) (.tmp 12),none⟩])
 (.seq (.seq (.ops [⟨(some 6),.mov (.const (.int .i64 0)),none⟩])
 (.block 0 (.loop (.seq (.seq (.ops [⟨(some 13),.mov (.tmp 6),none⟩,
 ⟨(some 14),.ar .i64 .lss (.tmp 13) (.const (.int .i64 2)),none⟩])
 (.cond (.tmp 14) .skip
 (.exit 0)))
 (.seq (.block 1 (.seq (.draw [⟨(some 17),.loadN 3 (.tmp 5),none⟩,
 ⟨(some 18),.loadN 4 (.tmp 2),none⟩,
 ⟨(some 19),.loadN 3 (.tmp 5),none⟩,
 ⟨(some 20),.mov (.tmp 6),none⟩,
 ⟨(some 21),.call 82 [(.tmp 18),(.tmp 19),(.tmp 20)],none⟩,
 ⟨(some 22),.call 83 [(.tmp 17),(.tmp 21)],none⟩,
 ⟨(some 7),.mov (.tmp 22),none⟩]
 [⟨false,true,[false,false,false,false,false,false,false],[false,false,false,false,true,false,false]⟩,
 ⟨false,false,[false,false,false,false,false,false,false],[false,false,false,false,false,false,false]⟩,
 ⟨false,false,[false,false,false,false,false,false,false],[false,false,false,false,false,false,false]⟩,
 ⟨false,false,[false,false,false,false,false,false,false],[false,false,false,false,false,false,false]⟩,
 ⟨true,false,[false,false,false,false,false,false,false],[false,false,false,false,true,false,false]⟩,
 ⟨true,false,[false,false,false,false,true,false,false],[false,false,false,false,true,true,false]⟩,
 ⟨false,false,[false,false,false,false,true,true,false],[false,false,false,false,true,true,false]⟩])
 (.seq (.ops [⟨(some 8),.mov (.const (.bool true)),none⟩])
 (.seq (.seq (.ops [⟨(some 9),.mov (.const (.int .i64 0)),none⟩])
 (.block 2 (.loop (.seq (.seq (.ops [⟨(some 23),.mov (.tmp 9),none⟩,
 ⟨(some 24),.mov (.tmp 7),none⟩,
 ⟨(some 25),.lenS (.tmp 24),none⟩,
 ⟨(some 26),.ar .i64 .lss (.tmp 23) (.tmp 25),none⟩])
 (.cond (.tmp 26) .skip
 (.exit 2)))
 (.seq (.block 3 (.ops [⟨(some 29),.mov (.tmp 8),none⟩,
 ⟨(some 30),.mov (.tmp 29),none⟩,
 ⟨(some 31),.mov (.tmp 7),(some (30,true))⟩,
 ⟨(some 32),.mov (.tmp 9),(some (30,true))⟩,
 ⟨(some 33),.idxS 1 (.tmp 31) (.tmp 32),(some (30,true))⟩,
 ⟨(some 34),.load1 (.tmp 33),(some (30,true))⟩,
 ⟨(some 35),.pick (.tmp 30) (.tmp 34) (.const (.bool false)),none⟩,
 ⟨(some 8),.mov (.tmp 35),none⟩]))
 (.ops [⟨(some 27),.mov (.tmp 9),none⟩,
 ⟨(some 28),.ar .i64 .add (.tmp 27) (.const (.int .i64 1)),none⟩,
 ⟨(some 9),.mov (.tmp 28),none⟩]))))))
 (.seq (.ops [⟨(some 36),.mov (.tmp 8),none⟩])
 (.cond (.tmp 36) (.seq (.ops [⟨(some 37),.mov (.tmp 6),none⟩,
 ⟨(some 4),.mov (.tmp 37),none⟩])
 .ret)
 .skip))))))
 (.ops [⟨(some 15),.mov (.tmp 6),none⟩,
 ⟨(some 16),.ar .i64 .add (.tmp 15) (.const (.int .i64 1)),none⟩,
 ⟨(some 6),.mov (.tmp 16),none⟩]))))))
 (.seq (.ops [⟨(some 4),.mov (.const (.int .i64 (-1))),none⟩])
 .ret))))
theorem enter42 {xs : List Value} {h : Hp} {Q : Value → Hp → Prop} (hl : xs.length ≤ 38) (w : wq E 38 none c42 (frameOf xs) h [] (leaveQ E [.tmp 4] Q)) : CallP E 42 xs h Q :=
  CallP.enterQ (fn := Try.f42) (fn_get Try.func42) (code := Try.f42.body.get rfl) rfl rfl rfl (by kernel_rfl) rfl (fun _ => rfl) hl w
theorem can42 : callable E 42 = true := callable_get Try.func42 rfl rfl
def c45 : C := (.seq (.ops [⟨(some 2),.box 69 (.tmp 0),none⟩,
 ⟨(some 4),.mov (.const (.bool false)),none⟩])
 (.seq (.ops [⟨(some 5),.mov (.const (.int .i64 0)),none⟩])
 (.seq (.seq (.ops [⟨(some 6),.mov (.const (.int .i64 0)),none⟩])
 (.block 0 (.loop (.seq (.seq (.ops [⟨(some 7),.mov (.tmp 6),none⟩,
 ⟨(some 8),.mov (.tmp 1),none⟩,
 ⟨(some 9),.lenS (.tmp 8),none⟩,
 ⟨(some 10),.ar .i64 .lss (.tmp 7) (.tmp 9),none⟩])
 (.cond (.tmp 10) .skip
 (.exit 0)))
 (.seq (.block 1 (.ops [⟨(some 13),.mov (.tmp 5),none⟩,
 ⟨(some 14),.fldA 0 (.tmp 2),none⟩,
 ⟨(some 15),.load1 (.tmp 14),none⟩,
 ⟨(some 16),.mov (.tmp 6),none⟩,
 ⟨(some 17),.idxS 1 (.tmp 15) (.tmp 16),none⟩,
 ⟨(some 18),.load1 (.tmp 17),none⟩,
 ⟨(some 19),.mov (.tmp 1),none⟩,
 ⟨(some 20),.mov (.tmp 6),none⟩,
 ⟨(some 21),.idxS 1 (.tmp 19) (.tmp 20),none⟩,
 ⟨(some 22),.load1 (.tmp 21),none⟩,
 ⟨(some 23),.ar .i64 .mul (.tmp 18) (.tmp 22),none⟩,
 ⟨(some 24),.ar .i64 .add (.tmp 13) (.tmp 23),none⟩,
 ⟨(some 5),.mov (.tmp 24),none⟩]))
 (.ops [⟨(some 11),.mov (.tmp 6),none⟩,
 ⟨(some 12),.ar .i64 .add (.tmp 11) (.const (.int .i64 1)),none⟩,
 ⟨(some 6),.mov (.tmp 12),none⟩]))))))
 (.seq (.seq (.ops [⟨(some 25),.fldA 2 (.tmp 2),none⟩,
 ⟨(some 26),.load1 (.tmp 25),none⟩,
 ⟨(some 27),.ar .i64 .eql (.tmp 26) (.const (.int .i64 0)),none⟩])
 (.cond (.tmp 27) (.seq (.ops [⟨(some 28),.mov (.tmp 5),none⟩,
 ⟨(some 29),.fldA 1 (.tmp 2),none⟩,
 ⟨(some 30),.load1 (.tmp 29),none⟩,
 ⟨(some 31),.ar .i64 .geq (.tmp 28) (.tmp 30),none⟩,
 ⟨(some 4),.mov (.tmp 31),none⟩])
 .ret)
 .skip))
 (.seq (.ops [⟨(some 32),.mov (.tmp 5),none⟩,
 ⟨(some 33),.fldA 1 (.tmp 2),none⟩,
 ⟨(some 34),.load1 (.tmp 33),none⟩,
 ⟨(some 35),.ar .i64 .sub (.tmp 32) (.tmp 34),none⟩,
 ⟨(some 36),.fldA 2 (.tmp 2),none⟩,
 ⟨(some 37),.load1 (.tmp 36),none⟩,
 ⟨(some 38),.ar .i64 .rem (.tmp 35) (.tmp 37),none⟩,
 ⟨(some 39),.ar .i64 .eql (.tmp 38) (.const (.int .i64 0)),none⟩,
 ⟨(some 4),.mov (.tmp 39),none⟩])
 .ret)))))
theorem enter45 {xs : List Value} {h : Hp} {Q : Value → Hp → Prop} (hl : xs.length ≤ 40) (w : wq E 40 none c45 (frameOf xs) h [] (leaveQ E [.tmp 4] Q)) : CallP E 45 xs h Q :=
  CallP.enterQ (fn := Try.f45) (fn_get Try.func45) (code := Try.f45.body.get rfl) rfl rfl rfl (by kernel_rfl) rfl (fun _ => rfl) hl w
theorem can45 : callable E 45 = true := callable_get Try.func45 rfl rfl
def c47 : C := (.seq (.ops [⟨(some 2),.box 26 (.tmp 0),none⟩,
 ⟨(some 4),.mov (.const (.slice none 0 0)),none⟩])
 (.seq (.ops [⟨(some 7),.fldA 0 (.tmp 2),none⟩,
 ⟨(some 8),.load1 (.tmp 7),none⟩,
 ⟨(some 9),.make 3 [(.int .i64 0)] 8 (.tmp 8) (.tmp 8),none⟩,
 ⟨(some 5),.mov (.tmp 9),none⟩])
 (.seq (.seq (.ops [⟨(some 6),.mov (.const (.int .i64 0)),none⟩])
 (.block 0 (.loop (.seq (.seq (.ops [⟨(some 10),.mov (.tmp 6),none⟩,
 ⟨(some 11),.mov (.tmp 1),none⟩,
 ⟨(some 12),.lenS (.tmp 11),none⟩,
 ⟨(some 13),.ar .i64 .lss (.tmp 10) (.tmp 12),none⟩])
 (.cond (.tmp 13) .skip
 (.exit 0)))
 (.seq (.block 1 (.ops [⟨(some 16),.mov (.tmp 5),none⟩,
 ⟨(some 17),.fldA 2 (.tmp 2),none⟩,
 ⟨(some 18),.load1 (.tmp 17),none⟩,
 ⟨(some 19),.mov (.tmp 6),none⟩,
 ⟨(some 20),.idxS 1 (.tmp 18) (.tmp 19),none⟩,
 ⟨(some 21),.load1 (.tmp 20),none⟩,
 ⟨(some 22),.mov (.tmp 5),none⟩,
 ⟨(some 23),.fldA 2 (.tmp 2),none⟩,
 ⟨(some 24),.load1 (.tmp 23),none⟩,
 ⟨(some 25),.mov (.tmp 6),none⟩,
 ⟨(some 26),.idxS 1 (.tmp 24) (.tmp 25),none⟩,
 ⟨(some 27),.load1 (.tmp 26),none⟩,
 ⟨(some 28),.idxS 1 (.tmp 22) (.tmp 27),none⟩,
 ⟨(some 29),.load1 (.tmp 28),none⟩,
 ⟨(some 30),.mov (.tmp 1),none⟩,
 ⟨(some 31),.mov (.tmp 6),none⟩,
 ⟨(some 32),.idxS 1 (.tmp 30) (.tmp 31),none⟩,
 ⟨(some 33),.load1 (.tmp 32),none⟩,
 ⟨(some 34),.ar .i64 .add (.tmp 29) (.tmp 33),none⟩,
 ⟨(some 35),.idxS 1 (.tmp 16) (.tmp 21),none⟩,
 ⟨none,.store 1 (.tmp 35) (.tmp 34),none⟩]))
 (.ops [⟨(some 14),.mov (.tmp 6),none⟩,
 ⟨(some 15),.ar .i64 .add (.tmp 14) (.const (.int .i64 1)),none⟩,
 ⟨(some 6),.mov (.tmp 15),none⟩]))))))
 (.seq (.ops [⟨(some 36),.mov (.tmp 5),none⟩,
 ⟨(some 4),.mov (.tmp 36),none⟩])
 .ret))))
theorem enter47 {xs : List Value} {h : Hp} {Q : Value → Hp → Prop} (hl : xs.length ≤ 37) (w : wq E 37 none c47 (frameOf xs) h [] (leaveQ E [.tmp 4] Q)) : CallP E 47 xs h Q :=
  CallP.enterQ (fn := Try.f47) (fn_get Try.func47) (code := Try.f47.body.get rfl) rfl rfl rfl (by kernel_rfl) rfl (fun _ => rfl) hl w
theorem can47 : callable E 47 = true := callable_get Try.func47 rfl rfl
def c49 : C := (.seq (.ops [⟨(some 3),.box 26 (.tmp 0),none⟩,
 ⟨(some 4),.box 69 (.tmp 1),none⟩,
 ⟨(some 6),.mov (.const (.bool false)),none⟩])
 (.seq (.ops [⟨(some 7),.mov (.const (.int .i64 0)),none⟩])
 (.seq (.seq (.ops [⟨(some 8),.loadN 3 (.tmp 4),none⟩,
 ⟨(some 9),.mov (.tmp 2),none⟩,
 ⟨(some 10),.call 45 [(.tmp 8),(.tmp 9)],none⟩])
 (.cond (.tmp 10) (.ops [⟨(some 7),.mov (.const (.int .i64 1)),none⟩])
 .skip))
 (.seq (.draw [⟨(some 11),.loadN 4 (.tmp 3),none⟩,
 ⟨(some 12),.loadN 4 (.tmp 3),none⟩,
 ⟨(some 13),.mov (.tmp 2),none⟩,
 ⟨(some 14),.call 47 [(.tmp 12),(.tmp 13)],none⟩,
 ⟨(some 15),.call 42 [(.tmp 11),(.tmp 14)],none⟩,
 ⟨(some 16),.mov (.tmp 7),none⟩,
 ⟨(some 17),.ar .i64 .eql (.tmp 15) (.tmp 16),none⟩,
 ⟨(some 6),.mov (.tmp 17),none⟩]
 [⟨false,true,[false,false,false,false,false,false,false,false],[false,false,false,true,false,false,false,false]⟩,
 ⟨false,false,[false,false,false,false,false,false,false,false],[false,false,false,false,false,false,false,false]⟩,
 ⟨false,false,[false,false,false,false,false,false,false,false],[false,false,false,false,false,false,false,false]⟩,
 ⟨true,false,[false,false,false,false,false,false,false,false],[false,false,false,true,false,false,false,false]⟩,
 ⟨true,false,[false,false,false,true,false,false,false,false],[false,false,false,true,true,false,false,false]⟩,
 ⟨false,true,[false,false,false,false,false,false,false,false],[false,false,false,true,true,false,false,false]⟩,
 ⟨false,false,[false,false,false,true,true,false,false,false],[false,false,false,true,true,false,false,false]⟩,
 ⟨false,false,[false,false,false,true,true,false,false,false],[false,false,false,true,true,false,false,false]⟩])
 .ret))))
theorem enter49 {xs : List Value} {h : Hp} {Q : Value → Hp → Prop} (hl : xs.length ≤ 18) (w : wq E 18 none c49 (frameOf xs) h [] (leaveQ E [.tmp 6] Q)) : CallP E 49 xs h Q :=
  CallP.enterQ (fn := Try.f49) (fn_get Try.func49) (code := Try.f49.body.get rfl) rfl rfl rfl (by kernel_rfl) rfl (fun _ => rfl) hl w
theorem can49 : callable E 49 = true := callable_get Try.func49 rfl rfl
def c56 : C := (.seq (.ops [⟨(some 2),.alloc 25 [(.int .i64 0),(.slice none 0 0),(.slice none 0 0),(.slice none 0 0)],none⟩,
 ⟨(some 3),.mov (.const (.int .i64 0)),none⟩])
 (.seq (.seq (.ops [⟨(some 4),.mov (.tmp 0),none⟩,
 ⟨(some 5),.slit 3 1 [(.int .i64 0)] [(0,1,(.tmp 4))],none⟩,
 ⟨(some 6),.call 60 [(.const (.int .i64 1)),(.const (.int .i64 4)),(.tmp 5)],none⟩,
 ⟨(some 7),.not (.tmp 6),none⟩])
 (.cond (.tmp 7) (.seq (.ops [⟨(some 8),.aggr [(.int .i64 0),(.slice none 0 0),(.slice none 0 0),(.slice none 0 0)] [],none⟩,
 ⟨none,.store 4 (.tmp 2) (.tmp 8),none⟩,
 ⟨(some 3),.mov (.const (.int .i64 1)),none⟩])
 .ret)
 .skip))
 (.seq (.ops [⟨(some 9),.mov (.tmp 0),none⟩,
 ⟨(some 10),.call 87 [(.tmp 9)],none⟩,
 ⟨none,.store 4 (.tmp 2) (.tmp 10),none⟩,
 ⟨(some 3),.mov (.const (.int .i64 0)),none⟩])
 .ret)))
theorem enter56 {xs : List Value} {h : Hp} {Q : Value → Hp → Prop} (hl : xs.length ≤ 11) (w : wq E 11 none c56 (frameOf xs) h [] (leaveQ E [.cell 2 25,.tmp 3] Q)) : CallP E 56 xs h Q :=
  CallP.enterQ (fn := Try.f56) (fn_get Try.func56) (code := Try.f56.body.get rfl) rfl rfl rfl (by kernel_rfl) rfl (fun _ => rfl) hl w
theorem can56 : callable E 56 = true := callable_get Try.func56 rfl rfl
def c57 : C := (.seq (.ops [⟨(some 4),.alloc 25 [(.int .i64 0),(.slice none 0 0),(.slice none 0 0),(.slice none 0 0)],none⟩,
 ⟨(some 5),.mov (.const (.int .i64 0)),none⟩])
 (.seq (.seq (.ops [⟨(some 6),.mov (.tmp 0),none⟩,
 ⟨(some 7),.slit 3 1 [(.int .i64 0)] [(0,1,(.tmp 6))],none⟩,
 ⟨(some 8),.call 60 [(.const (.int .i64 1)),(.const (.int .i64 3)),(.tmp 7)],none⟩,
 ⟨(some 9),.not (.tmp 8),none⟩,
 ⟨(some 10),.mov (.tmp 9),none⟩,
 ⟨(some 11),.mov (.tmp 0),(some (10,false))⟩,
 ⟨(some 12),.ar .i64 .sub (.tmp 11) (.const (.int .i64 1)),(some (10,false))⟩,
 ⟨(some 13),.mov (.tmp 1),(some (10,false))⟩,
 ⟨(some 14),.slit 3 1 [(.int .i64 0)] [(0,1,(.tmp 13))],(some (10,false))⟩,
 ⟨(some 15),.call 60 [(.const (.int .i64 0)),(.tmp 12),(.tmp 14)],(some (10,false))⟩,
 ⟨(some 16),.not (.tmp 15),(some (10,false))⟩,
 ⟨(some 17),.pick (.tmp 10) (.const (.bool true)) (.tmp 16),none⟩])
 (.cond (.tmp 17) (.seq (.ops [⟨(some 18),.aggr [(.int .i64 0),(.slice none 0 0),(.slice none 0 0),(.slice none 0 0)] [],none⟩,
 ⟨none,.store 4 (.tmp 4) (.tmp 18),none⟩,
 ⟨(some 5),.mov (.const (.int .i64 1)),none⟩])
 .ret)
 .skip))
 (.seq (.ops [⟨(some 19),.mov (.tmp 0),none⟩,
 ⟨(some 20),.mov (.tmp 1),none⟩,
 ⟨(some 21),.call 88 [(.tmp 19),(.tmp 20)],none⟩,
 ⟨none,.store 4 (.tmp 4) (.tmp 21),none⟩,
 ⟨(some 5),.mov (.const (.int .i64 0)),none⟩])
 .ret)))
theorem enter57 {xs : List Value} {h : Hp} {Q : Value → Hp → Prop} (hl : xs.length ≤ 22) (w : wq E 22 none c57 (frameOf xs) h [] (leaveQ E [.cell 4 25,.tmp 5] Q)) : CallP E 57 xs h Q :=
  CallP.enterQ (fn := Try.f57) (fn_get Try.func57) (code := Try.f57.body.get rfl) rfl rfl rfl (by kernel_rfl) rfl (fun _ => rfl) hl w
theorem can57 : callable E 57 = true := callable_get Try.func57 rfl rfl
def c58 : C := (.seq (.ops [⟨(some 0),.alloc 25 [(.int .i64 0),(.slice none 0 0),(.slice none 0 0),(.slice none 0 0)],none⟩])
 (.seq (.ops [⟨(some 1),.slit 3 4 [(.int .i64 0),(.int .i64 0),(.int .i64 0),(.int .i64 0)] [(0,1,(.const (.int .i64 1))),(1,1,(.const (.int .i64 0))),(2,1,(.const (.int .i64 1))),(3,1,(.const (.int .i64 0)))],none⟩,
 ⟨(some 2),.slit 3 2 [(.int .i64 0),(.int .i64 0)] [(0,1,(.const (.int .i64 0))),(1,1,(.const (.int .i64 1)))],none⟩,
 ⟨(some 3),.aggr [(.int .i64 0),(.int .i64 0),(.int .i64 0),(.int .i64 0)] [(0,1,(.const (.int .i64 0))),(1,1,(.const (.int .i64 1))),(2,1,(.const (.int .i64 3))),(3,1,(.const (.int .i64 3)))],none⟩,
 ⟨(some 4),.aggr [(.int .i64 0),(.int .i64 0),(.int .i64 0),(.int .i64 0)] [(0,1,(.const (.int .i64 0))),(1,1,(.const (.int .i64 3))),(2,1,(.const (.int .i64 0))),(3,1,(.const (.int .i64 2)))],none⟩,
 ⟨(some 5),.aggr [(.int .i64 0),(.int .i64 0),(.int .i64 0),(.int .i64 0)] [(0,1,(.const (.int .i64 1))),(1,1,(.const (.int .i64 2))),(2,1,(.const (.int .i64 1))),(3,1,(.const (.int .i64 3)))],none⟩,
 ⟨(some 6),.aggr [(.int .i64 0),(.int .i64 0),(.int .i64 0),(.int .i64 0)] [(0,1,(.const (.int .i64 2))),(1,1,(.const (.int .i64 3))),(2,1,(.const (.int .i64 3))),(3,1,(.const (.int .i64 3)))],none⟩,
 ⟨(some 7),.slit 96 4 [(.int .i64 0),(.int .i64 0),(.int .i64 0),(.int .i64 0),(.int .i64 0),(.int .i64 0),(.int .i64 0),(.int .i64 0),(.int .i64 0),(.int .i64 0),(.int .i64 0),(.int .i64 0),(.int .i64 0),(.int .i64 0),(.int .i64 0),(.int .i64 0)] [(0,4,(.tmp 3)),(4,4,(.tmp 4)),(8,4,(.tmp 5)),(12,4,(.tmp 6))],none⟩,
 ⟨(some 8),.aggr [(.int .i64 0),(.slice none 0 0),(.slice none 0 0),(.slice none 0 0)] [(0,1,(.const (.int .i64 4))),(1,1,(.tmp 1)),(2,1,(.tmp 2)),(3,1,(.tmp 7))],none⟩,
 ⟨none,.store 4 (.tmp 0) (.tmp 8),none⟩])
 .ret))
theorem enter58 {xs : List Value} {h : Hp} {Q : Value → Hp → Prop} (hl : xs.length ≤ 9) (w : wq E 9 none c58 (frameOf xs) h [] (leaveQ E [.cell 0 25] Q)) : CallP E 58 xs h Q :=
  CallP.enterQ (fn := Try.f58) (fn_get Try.func58) (code := Try.f58.body.get rfl) rfl rfl rfl (by kernel_rfl) rfl (fun _ => rfl) hl w
theorem can58 : callable E 58 = true := callable_get Try.func58 rfl rfl
def c60 : C := (.seq (.ops [⟨(some 6),.mov (.const (.bool false)),none⟩])
 (.seq (.seq (.ops [⟨(some 9),.mov (.tmp 2),none⟩,
 ⟨(some 10),.lenS (.tmp 9),none⟩,
 ⟨(some 11),.mov (.const (.int .i64 0)),none⟩])
 (.block 0 (.loop (.seq (.ops [⟨(some 12),.ar .i64 .lss (.tmp 11) (.tmp 10),none⟩])
 (.seq (.cond (.tmp 12) .skip
 (.exit 0))
 (.seq (.block 1 (.seq (.ops [⟨(some 13),.idxS 1 (.tmp 9) (.tmp 11),none⟩,
 ⟨(some 14),.load1 (.tmp 13),none⟩,
 ⟨(some 8),.mov (.tmp 14),none⟩])
 (.seq (.ops [⟨(some 15),.mov (.tmp 8),none⟩,
 ⟨(some 16),.mov (.tmp 0),none⟩,
 ⟨(some 17),.ar .i64 .lss (.tmp 15) (.tmp 16),none⟩,
 ⟨(some 18),.mov (.tmp 17),none⟩,
 ⟨(some 19),.mov (.tmp 8),(some (18,false))⟩,
 ⟨(some 20),.mov (.tmp 1),(some (18,false))⟩,
 ⟨(some 21),.ar .i64 .gtr (.tmp 19) (.tmp 20),(some (18,false))⟩,
 ⟨(some 22),.pick (.tmp 18) (.const (.bool true)) (.tmp 21),none⟩])
 (.cond (.tmp 22) (.seq (.ops [⟨(some 6),.mov (.const (.bool false)),none⟩])
 .ret)
 .skip))))
 (.ops [⟨(some 23),.ar .i64 .add (.tmp 11) (.const (.int .i64 1)),none⟩,
 ⟨(some 11),.mov (.tmp 23),none⟩])))))))
 (.seq (.ops [⟨(some 6),.mov (.const (.bool true)),none⟩])
 .ret)))
theorem enter60 {xs : List Value} {h : Hp} {Q : Value → Hp → Prop} (hl : xs.length ≤ 24) (w : wq E 24 none c60 (frameOf xs) h [] (leaveQ E [.tmp 6] Q)) : CallP E 60 xs h Q :=
  CallP.enterQ (fn := Try.f60) (fn_get Try.func60) (code := Try.f60.body.get rfl) rfl rfl rfl (by kernel_rfl) rfl (fun _ => rfl) hl w
theorem can60 : callable E 60 = true := callable_get Try.func60 rfl rfl
def c81 : C := (.seq (.ops [⟨(some 2),.mov (.const (.int .i64 0)),none⟩])
 (.seq (.ops [⟨(some 3),.mov (.const (.int .i64 0)),none⟩])
 (.seq (.seq (.ops [⟨(some 4),.mov (.const (.int .i64 0)),none⟩])
 (.block 0 (.loop (.seq (.seq (.ops [⟨(some 5),.mov (.tmp 4),none⟩,
 ⟨(some 6),.mov (.tmp 0),none⟩,
 ⟨(some 7),.lenS (.tmp 6),none⟩,
 ⟨(some 8),.ar .i64 .lss (.tmp 5) (.tmp 7),none⟩])
 (.cond (.tmp 8) .skip
 (.exit 0)))
 (.seq (.block 1 (.ops [⟨(some 11),.mov (.tmp 3),none⟩,
 ⟨(some 12),.ar .i64 .mul (.const (.int .i64 10)) (.tmp 11),none⟩,
 ⟨(some 13),.mov (.tmp 0),none⟩,
 ⟨(some 14),.mov (.tmp 4),none⟩,
 ⟨(some 15),.idxS 1 (.tmp 13) (.tmp 14),none⟩,
 ⟨(some 16),.load1 (.tmp 15),none⟩,
 ⟨(some 17),.ar .i64 .add (.tmp 12) (.tmp 16),none⟩,
 ⟨(some 3),.mov (.tmp 17),none⟩]))
 (.ops [⟨(some 9),.mov (.tmp 4),none⟩,
 ⟨(some 10),.ar .i64 .add (.tmp 9) (.const (.int .i64 1)),none⟩,
 ⟨(some 4),.mov (.tmp 10),none⟩]))))))
 (.seq (.ops [⟨(some 18),.mov (.tmp 3),none⟩,
 ⟨(some 2),.mov (.tmp 18),none⟩])
 .ret))))
theorem enter81 {xs : List Value} {h : Hp} {Q : Value → Hp → Prop} (hl : xs.length ≤ 19) (w : wq E 19 none c81 (frameOf xs) h [] (leaveQ E [.tmp 2] Q)) : CallP E 81 xs h Q :=
  CallP.enterQ (fn := Try.f81) (fn_get Try.func81) (code := Try.f81.body.get rfl) rfl rfl rfl (by kernel_rfl) rfl (fun _ => rfl) hl w
theorem can81 : callable E 81 = true := callable_get Try.func81 rfl rfl
def c82 : C := (.seq (.ops [⟨(some 3),.box 26 (.tmp 0),none⟩,
 ⟨(some 4),.box 64 (.tmp 1),none⟩,
 ⟨(some 6),.mov (.const (.slice none 0 0)),none⟩])
 (.seq (.ops [⟨(some 12),.fldA 0 (.tmp 4),none⟩,
 ⟨(some 13),.load1 (.tmp 12),none⟩,
 ⟨(some 14),.lenS (.tmp 13),none⟩,
 ⟨(some 15),.make 4 [(.bool false)] 1 (.tmp 14) (.tmp 14),none⟩,
 ⟨(some 7),.mov (.tmp 15),none⟩])
 (.seq (.seq (.ops [⟨(some 8),.mov (.const (.int .i64 0)),none⟩])
 (.block 0 (.loop (.seq (.seq (.ops [⟨(some 16),.mov (.tmp 8),none⟩,
 ⟨(some 17),.fldA 0 (.tmp 4),none⟩,
 ⟨(some 18),.load1 (.tmp 17),none⟩,
 ⟨(some 19),.lenS (.tmp 18),none⟩,
 ⟨(some 20),.ar .i64 .lss (.tmp 16) (.tmp 19),none⟩])
 (.cond (.tmp 20) .skip
 (.exit 0)))
 (.seq (.block 1 (.seq (.ops [⟨(some 9),.mov (.const (.int .i64 0)),none⟩])
 (.block 2 (.loop (.seq (.seq (.ops [⟨(some 23),.mov (.tmp 9),none⟩,
 ⟨(some 24),.fldA 0 (.tmp 3),none⟩,
 ⟨(some 25),.load1 (.tmp 24),none⟩,
 ⟨(some 26),.ar .i64 .lss (.tmp 23) (.tmp 25),none⟩])
 (.cond (.tmp 26) .skip
 (.exit 2)))
 (.seq (.block 3 (.seq (.ops [⟨(some 29),.fldA 0 (.tmp 4),none⟩,
 ⟨(some 30),.load1 (.tmp 29),none⟩,
 ⟨(some 31),.mov (.tmp 8),none⟩,
 ⟨(some 32),.idxS 1 (.tmp 30) (.tmp 31),none⟩,
 ⟨(some 33),.load1 (.tmp 32),none⟩,
 ⟨(some 34),.mov (.tmp 9),none⟩,
 ⟨(some 35),.idxS 1 (.tmp 33) (.tmp 34),none⟩,
 ⟨(some 36),.load1 (.tmp 35),none⟩,
 ⟨(some 37),.ar .i64 .gtr (.tmp 36) (.const (.int .i64 0)),none⟩,
 ⟨(some 38),.mov (.tmp 37),none⟩,
 ⟨(some 39),.fldA 1 (.tmp 3),(some (38,true))⟩,
 ⟨(some 40),.load1 (.tmp 39),(some (38,true))⟩,
 ⟨(some 41),.mov (.tmp 9),(some (38,true))⟩,
 ⟨(some 42),.idxS 1 (.tmp 40) (.tmp 41),(some (38,true))⟩,
 ⟨(some 43),.load1 (.tmp 42),(some (38,true))⟩,
 ⟨(some 44),.mov (.tmp 2),(some (38,true))⟩,
 ⟨(some 45),.ar .i64 .neq (.tmp 43) (.tmp 44),(some (38,true))⟩,
 ⟨(some 46),.pick (.tmp 38) (.tmp 45) (.const (.bool false)),none⟩])
 (.cond (.tmp 46) (.ops [⟨(some 47),.mov (.tmp 7),none⟩,
 ⟨(some 48),.mov (.tmp 8),none⟩,
 ⟨(some 49),.idxS 1 (.tmp 47) (.tmp 48),none⟩,
 ⟨none,.store 1 (.tmp 49) (.const (.bool true)),none⟩])
 .skip)))
 (.ops [⟨(some 27),.mov (.tmp 9),none⟩,
 ⟨(some 28),.ar .i64 .add (.tmp 27) (.const (.int .i64 1)),none⟩,
 ⟨(some 9),.mov (.tmp 28),none⟩])))))))
 (.ops [⟨(some 21),.mov (.tmp 8),none⟩,
 ⟨(some 22),.ar .i64 .add (.tmp 21) (.const (.int .i64 1)),none⟩,
 ⟨(some 8),.mov (.tmp 22),none⟩]))))))
 (.seq (.ops [⟨(some 50),.loadN 3 (.tmp 4),none⟩,
 ⟨(some 51),.mov (.tmp 7),none⟩,
 ⟨(some 52),.call 83 [(.tmp 50),(.tmp 51)],none⟩,
 ⟨(some 10),.mov (.tmp 52),none⟩])
 (.seq (.seq (.ops [⟨(some 11),.mov (.const (.int .i64 0)),none⟩])
 (.block 4 (.loop (.seq (.seq (.ops [⟨(some 53),.mov (.tmp 11),none⟩,
 ⟨(some 54),.mov (.tmp 10),none⟩,
 ⟨(some 55),.lenS (.tmp 54),none⟩,
 ⟨(some 56),.ar .i64 .lss (.tmp 53) (.tmp 55),none⟩])
 (.cond (.tmp 56) .skip
 (.exit 4)))
 (.seq (.block 5 (.ops [⟨(some 59),.mov (.tmp 10),none⟩,
 ⟨(some 60),.mov (.tmp 11),none⟩,
 ⟨(some 61),.mov (.tmp 10),none⟩,
 ⟨(some 62),.mov (.tmp 11),none⟩,
 ⟨(some 63),.idxS 1 (.tmp 61) (.tmp 62),none⟩,
 ⟨(some 64),.load1 (.tmp 63),none⟩,
 ⟨(some 65),.not (.tmp 64),none⟩,
 ⟨(some 66),.idxS 1 (.tmp 59) (.tmp 60),none⟩,
 ⟨none,.store 1 (.tmp 66) (.tmp 65),none⟩]))
 (.ops [⟨(some 57),.mov (.tmp 11),none⟩,
 ⟨(some 58),.ar .i64 .add (.tmp 57) (.const (.int .i64 1)),none⟩,
 ⟨(some 11),.mov (.tmp 58),none⟩]))))))
 (.seq (.ops [⟨(some 67),.mov (.tmp 10),none⟩,
 ⟨(some 6),.mov (.tmp 67),none⟩])
 .ret))))))
theorem enter82 {xs : List Value} {h : Hp} {Q : Value → Hp → Prop} (hl : xs.length ≤ 68) (w : wq E 68 none c82 (frameOf xs) h [] (leaveQ E [.tmp 6] Q)) : CallP E 82 xs h Q :=
  CallP.enterQ (fn := Try.f82) (fn_get Try.func82) (code := Try.f82.body.get rfl) rfl rfl rfl (by kernel_rfl) rfl (fun _ => rfl) hl w
theorem can82 : callable E 82 = true := callable_get Try.func82 rfl rfl
def c83 : C := (.seq (.ops [⟨(some 2),.box 64 (.tmp 0),none⟩,
 ⟨(some 4),.mov (.const (.slice none 0 0)),none⟩])
 (.seq (.ops [⟨(some 5),.mov (.const (.slice none 0 0)),none⟩])
 (.seq (.ops [⟨(some 9),.mov (.tmp 5),none⟩,
 ⟨(some 10),.mov (.tmp 1),none⟩,
 ⟨(some 11),.append 4 1 1 (.tmp 9) (.tmp 10),none⟩,
 ⟨(some 5),.mov (.tmp 11),none⟩])
 (.seq (.seq (.ops [⟨(some 6),.mov (.const (.bool true)),none⟩])
 (.block 0 (.loop (.seq (.seq (.ops [⟨(some 12),.mov (.tmp 6),none⟩])
 (.cond (.tmp 12) .skip
 (.exit 0)))
 (.block 1 (.seq (.ops [⟨(some 6),.mov (.const (.bool false)),none⟩])
 (.seq (.ops [⟨(some 7),.mov (.const (.int .i64 0)),none⟩])
 (.block 2 (.loop (.seq (.seq (.ops [⟨(some 13),.mov (.tmp 7),none⟩,
 ⟨(some 14),.mov (.tmp 5),none⟩,
 ⟨(some 15),.lenS (.tmp 14),none⟩,
 ⟨(some 16),.ar .i64 .lss (.tmp 13) (.tmp 15),none⟩])
 (.cond (.tmp 16) .skip
 (.exit 2)))
 (.seq (.block 3 (.seq (.ops [⟨(some 8),.mov (.const (.int .i64 0)),none⟩])
 (.block 4 (.loop (.seq (.seq (.ops [⟨(some 19),.mov (.tmp 8),none⟩,
 ⟨(some 20),.fldA 2 (.tmp 2),none⟩,
 ⟨(some 21),.load1 (.tmp 20),none⟩,
 ⟨(some 22),.mov (.tmp 7),none⟩,
 ⟨(some 23),.idxS 1 (.tmp 21) (.tmp 22),none⟩,
 ⟨(some 24),.load1 (.tmp 23),none⟩,
 ⟨(some 25),.lenS (.tmp 24),none⟩,
 ⟨(some 26),.ar .i64 .lss (.tmp 19) (.tmp 25),none⟩,
 ⟨(some 27),.mov (.tmp 26),none⟩,
 ⟨(some 28),.mov (.tmp 5),(some (27,true))⟩,
 ⟨(some 29),.mov (.tmp 7),(some (27,true))⟩,
 ⟨(some 30),.idxS 1 (.tmp 28) (.tmp 29),(some (27,true))⟩,
 ⟨(some 31),.load1 (.tmp 30),(some (27,true))⟩,
 ⟨(some 32),.not (.tmp 31),(some (27,true))⟩,
 ⟨(some 33),.pick (.tmp 27) (.tmp 32) (.const (.bool false)),none⟩])
 (.cond (.tmp 33) .skip
 (.exit 4)))
 (.seq (.block 5 (.seq (.ops [⟨(some 36),.mov (.tmp 5),none⟩,
 ⟨(some 37),.fldA 2 (.tmp 2),none⟩,
 ⟨(some 38),.load1 (.tmp 37),none⟩,
 ⟨(some 39),.mov (.tmp 7),none⟩,
 ⟨(some 40),.idxS 1 (.tmp 38) (.tmp 39),none⟩,
 ⟨(some 41),.load1 (.tmp 40),none⟩,
 ⟨(some 42),.mov (.tmp 8),none⟩,
 ⟨(some 43),.idxS 1 (.tmp 41) (.tmp 42),none⟩,
 ⟨(some 44),.load1 (.tmp 43),none⟩,
 ⟨(some 45),.idxS 1 (.tmp 36) (.tmp 44),none⟩,
 ⟨(some 46),.load1 (.tmp 45),none⟩])
 (.cond (.tmp 46) (.seq (.ops [⟨(some 47),.mov (.tmp 5),none⟩,
 ⟨(some 48),.mov (.tmp 7),none⟩,
 ⟨(some 49),.idxS 1 (.tmp 47) (.tmp 48),none⟩,
 ⟨none,.store 1 (.tmp 49) (.const (.bool true)),none⟩])
 (.ops [⟨(some 6),.mov (.const (.bool true)),none⟩]))
 .skip)))
 (.ops [⟨(some 34),.mov (.tmp 8),none⟩,
 ⟨(some 35),.ar .i64 .add (.tmp 34) (.const (.int .i64 1)),none⟩,
 ⟨(some 8),.mov (.tmp 35),none⟩])))))))
 (.ops [⟨(some 17),.mov (.tmp 7),none⟩,
 ⟨(some 18),.ar .i64 .add (.tmp 17) (.const (.int .i64 1)),none⟩,
 ⟨(some 7),.mov (.tmp 18),none⟩]))))))))))))
 (.seq (.ops [⟨(some 50),.mov (.tmp 5),none⟩,
 ⟨(some 4),.mov (.tmp 50),none⟩])
 .ret)))))
theorem enter83 {xs : List Value} {h : Hp} {Q : Value → Hp → Prop} (hl : xs.length ≤ 51) (w : wq E 51 none c83 (frameOf xs) h [] (leaveQ E [.tmp 4] Q)) : CallP E 83 xs h Q :=
  CallP.enterQ (fn := Try.f83) (fn_get Try.func83) (code := Try.f83.body.get rfl) rfl rfl rfl (by kernel_rfl) rfl (fun _ => rfl) hl w
theorem can83 : callable E 83 = true := callable_get Try.func83 rfl rfl
def c87 : C := (.seq (.ops [⟨(some 2),.alloc 25 [(.int .i64 0),(.slice none 0 0),(.slice none 0 0),(.slice none 0 0)],none⟩])
 (.seq (.ops [⟨(some 7),.mov (.tmp 0),none⟩,
 ⟨(some 8),.ar .i64 .add (.tmp 7) (.const (.int .i64 1)),none⟩,
 ⟨(some 9),.mov (.tmp 0),none⟩,
 ⟨(some 10),.ar .i64 .add (.tmp 9) (.const (.int .i64 1)),none⟩,
 ⟨(some 11),.make 3 [(.int .i64 0)] 8 (.tmp 10) (.tmp 10),none⟩,
 ⟨(some 12),.slit 3 1 [(.int .i64 0)] [(0,1,(.const (.int .i64 1)))],none⟩,
 ⟨(some 13),.aggr [(.int .i64 0),(.slice none 0 0),(.slice none 0 0),(.slice none 0 0)] [(0,1,(.tmp 8)),(1,1,(.tmp 11)),(2,1,(.tmp 12))],none⟩,
 ⟨(some 3),.alloc 25 [(.int .i64 0),(.slice none 0 0),(.slice none 0 0),(.slice none 0 0)],none⟩,
 ⟨none,.store 4 (.tmp 3) (.tmp 13),none⟩])
 (.seq (.ops [⟨(some 14),.fldA 1 (.tmp 3),none⟩,
 ⟨(some 15),.load1 (.tmp 14),none⟩,
 ⟨(some 16),.mov (.tmp 0),none⟩,
 ⟨(some 17),.idxS 1 (.tmp 15) (.tmp 16),none⟩,
 ⟨none,.store 1 (.tmp 17) (.const (.int .i64 1)),none⟩])
 (.seq (.seq (.ops [⟨(some 18),.fldA 0 (.tmp 3),none⟩,
 ⟨(some 19),.load1 (.tmp 18),none⟩,
 ⟨(some 20),.mov (.const (.int .i64 0)),none⟩])
 (.block 0 (.loop (.seq (.ops [⟨(some 21),.ar .i64 .lss (.tmp 20) (.tmp 19),none⟩])
 (.seq (.cond (.tmp 21) .skip
 (.exit 0))
 (.seq (.block 1 (.seq (.ops [⟨(some 22),.mov (.tmp 20),none⟩,
 ⟨(some 4),.mov (.tmp 22),none⟩])
 (.seq (.ops [⟨(some 23),.mov (.tmp 4),none⟩,
 ⟨(some 5),.mov (.tmp 23),none⟩])
 (.block 2 (.loop (.seq (.seq (.ops [⟨(some 24),.mov (.tmp 5),none⟩,
 ⟨(some 25),.fldA 0 (.tmp 3),none⟩,
 ⟨(some 26),.load1 (.tmp 25),none⟩,
 ⟨(some 27),.ar .i64 .lss (.tmp 24) (.tmp 26),none⟩])
 (.cond (.tmp 27) .skip
 (.exit 2)))
 (.seq (.block 3 (.seq (.ops [⟨(some 30),.mov (.tmp 4),none⟩,
 ⟨(some 31),.mov (.tmp 5),none⟩,
 ⟨(some 32),.ar .i64 .add (.tmp 30) (.tmp 31),none⟩,
 ⟨(some 6),.mov (.tmp 32),none⟩])
 (.block 4 (.seq (.ops [⟨(some 34),.mov (.tmp 6),none⟩,
 ⟨(some 35),.mov (.tmp 0),none⟩,
 ⟨(some 36),.ar .i64 .geq (.tmp 34) (.tmp 35),none⟩,
 ⟨(some 33),.mov (.tmp 36),none⟩])
 (.cond (.tmp 33) (.ops [⟨(some 37),.fldA 3 (.tmp 3),none⟩,
 ⟨(some 38),.load1 (.tmp 37),none⟩,
 ⟨(some 39),.mov (.tmp 4),none⟩,
 ⟨(some 40),.mov (.tmp 5),none⟩,
 ⟨(some 41),.mov (.tmp 0),none⟩,
 ⟨(some 42),.mov (.tmp 0),none⟩,
 ⟨(some 43),.aggr [(.int .i64 0),(.int .i64 0),(.int .i64 0),(.int .i64 0)] [(0,1,(.tmp 39)),(1,1,(.tmp 40)),(2,1,(.tmp 41)),(3,1,(.tmp 42))],none⟩,
 ⟨(some 44),.slit 96 1 [(.int .i64 0),(.int .i64 0),(.int .i64 0),(.int .i64 0)] [(0,4,(.tmp 43))],none⟩,
 ⟨(some 45),.append 96 4 32 (.tmp 38) (.tmp 44),none⟩,
 ⟨(some 46),.fldA 3 (.tmp 3),none⟩,
 ⟨none,.store 1 (.tmp 46) (.tmp 45),none⟩])
 (.seq (.ops [⟨(some 48),.mov (.tmp 4),none⟩,
 ⟨(some 49),.ar .i64 .gtr (.tmp 48) (.const (.int .i64 0)),none⟩,
 ⟨(some 47),.mov (.tmp 49),none⟩])
 (.cond (.tmp 47) (.ops [⟨(some 50),.fldA 3 (.tmp 3),none⟩,
 ⟨(some 51),.load1 (.tmp 50),none⟩,
 ⟨(some 52),.mov (.tmp 4),none⟩,
 ⟨(some 53),.mov (.tmp 5),none⟩,
 ⟨(some 54),.mov (.tmp 6),none⟩,
 ⟨(some 55),.aggr [(.int .i64 0),(.int .i64 0),(.int .i64 0),(.int .i64 0)] [(0,1,(.tmp 52)),(1,1,(.tmp 53)),(2,1,(.tmp 54)),(3,1,(.const (.int .i64 0)))],none⟩,
 ⟨(some 56),.slit 96 1 [(.int .i64 0),(.int .i64 0),(.int .i64 0),(.int .i64 0)] [(0,4,(.tmp 55))],none⟩,
 ⟨(some 57),.append 96 4 32 (.tmp 51) (.tmp 56),none⟩,
 ⟨(some 58),.fldA 3 (.tmp 3),none⟩,
 ⟨none,.store 1 (.tmp 58) (.tmp 57),none⟩])
 .skip)))))))
 (.ops [⟨(some 28),.mov (.tmp 5),none⟩,
 ⟨(some 29),.ar .i64 .add (.tmp 28) (.const (.int .i64 1)),none⟩,
 ⟨(some 5),.mov (.tmp 29),none⟩]))))))))
 (.ops [⟨(some 59),.ar .i64 .add (.tmp 20) (.const (.int .i64 1)),none⟩,
 ⟨(some 20),.mov (.tmp 59),none⟩])))))))
 (.seq (.ops [⟨(some 60),.loadN 4 (.tmp 3),none⟩,
 ⟨none,.store 4 (.tmp 2) (.tmp 60),none⟩])
 .ret)))))
theorem enter87 {xs : List Value} {h : Hp} {Q : Value → Hp → Prop} (hl : xs.length ≤ 61) (w : wq E 61 none c87 (frameOf xs) h [] (leaveQ E [.cell 2 25] Q)) : CallP E 87 xs h Q :=
  CallP.enterQ (fn := Try.f87) (fn_get Try.func87) (code := Try.f87.body.get rfl) rfl rfl rfl (by kernel_rfl) rfl (fun _ => rfl) hl w
theorem can87 : callable E 87 = true := callable_get Try.func87 rfl rfl
def c88 : C := (.seq (.ops [⟨(some 4),.alloc 25 [(.int .i64 0),(.slice none 0 0),(.slice none 0 0),(.slice none 0 0)],none⟩])
 (.seq (.dry [⟨(some 11),.mov (.tmp 0),none⟩,
 ⟨(some 12),.ar .i64 .add (.tmp 11) (.const (.int .i64 2)),none⟩,
 ⟨(some 13),.mov (.tmp 0),none⟩,
 ⟨(some 14),.ar .i64 .add (.tmp 13) (.const (.int .i64 2)),none⟩,
 ⟨(some 15),.make 3 [(.int .i64 0)] 8 (.tmp 14) (.tmp 14),none⟩,
 ⟨(some 16),.mov (.tmp 0),none⟩,
 ⟨(some 17),.ar .i64 .rem (.const (.int .i64 1)) (.tmp 16),none⟩,
 ⟨(some 18),.slit 3 1 [(.int .i64 0)] [(0,1,(.tmp 17))],none⟩,
 ⟨(some 19),.aggr [(.int .i64 0),(.slice none 0 0),(.slice none 0 0),(.slice none 0 0)] [(0,1,(.tmp 12)),(1,1,(.tmp 15)),(2,1,(.tmp 18))],none⟩,
 ⟨(some 5),.alloc 25 [(.int .i64 0),(.slice none 0 0),(.slice none 0 0),(.slice none 0 0)],none⟩,
 ⟨none,.store 4 (.tmp 5) (.tmp 19),none⟩]
 [⟨false,true,[false,false,false,false,false,false,false,false,false,false,false],[false,false,false,false,true,false,false,true,false,true,false]⟩,
 ⟨false,true,[false,false,false,false,false,false,false,false,false,false,false],[false,false,false,false,true,false,false,true,false,true,false]⟩,
 ⟨false,true,[false,false,false,false,false,false,false,false,false,false,false],[false,false,false,false,false,false,false,true,false,true,false]⟩,
 ⟨false,true,[false,false,false,false,false,false,false,false,false,false,false],[false,false,false,false,false,false,false,true,false,true,false]⟩,
 ⟨true,false,[false,false,false,false,false,false,false,false,false,false,false],[false,false,false,false,true,false,false,true,false,true,false]⟩,
 ⟨false,true,[false,false,false,false,false,false,false,false,false,false,false],[false,false,false,false,true,false,false,false,false,true,false]⟩,
 ⟨false,true,[false,false,false,false,false,false,false,false,false,false,false],[false,false,false,false,true,false,false,false,false,true,false]⟩,
 ⟨true,false,[false,false,false,false,false,false,false,false,false,false,false],[false,false,false,false,true,false,false,true,false,true,false]⟩,
 ⟨false,true,[false,false,false,false,true,false,false,true,false,false,false],[false,false,false,false,true,false,false,true,false,true,false]⟩,
 ⟨true,false,[false,false,false,false,false,false,false,false,false,false,false],[false,false,false,false,true,false,false,true,false,true,false]⟩,
 ⟨true,false,[false,false,false,false,true,false,false,true,false,true,false],[false,false,false,false,true,false,false,true,false,true,true]⟩]
 [⟨false,false,[false,false,false,false,false,false,false,false,false,false,false],[false,false,false,false,false,false,false,false,false,false,false]⟩,
 ⟨false,false,[false,false,false,false,false,false,false,false,false,false,false],[false,false,false,false,false,false,false,false,false,false,false]⟩,
 ⟨false,false,[false,false,false,false,false,false,false,false,false,false,false],[false,false,false,false,false,false,false,false,false,false,false]⟩,
 ⟨false,false,[false,false,false,false,false,false,false,false,false,false,false],[false,false,false,false,false,false,false,false,false,false,false]⟩,
 ⟨false,false,[false,false,false,false,false,false,false,false,false,false,false],[false,false,false,false,false,false,false,false,false,false,false]⟩,
 ⟨false,false,[false,false,false,false,false,false,false,false,false,false,false],[false,false,false,false,false,false,false,false,false,false,false]⟩,
 ⟨false,false,[false,false,false,false,false,false,false,false,false,false,false],[false,false,false,false,false,false,false,false,false,false,false]⟩,
 ⟨false,false,[false,false,false,false,false,false,false,false,false,false,false],[false,false,false,false,false,false,false,false,false,false,false]⟩,
 ⟨false,false,[false,false,false,false,false,false,false,false,false,false,false],[false,false,false,false,false,false,false,false,false,false,false]⟩,
 ⟨false,false,[false,false,false,false,false,false,false,false,false,false,false],[false,false,false,false,false,false,false,false,false,false,false]⟩,
 ⟨true,false,[false,false,false,false,false,false,false,false,false,false,false],[false,false,false,false,false,false,false,false,false,false,true]⟩]
 [false,false,false,false,true,false,false,true,false,true,false])
 (.seq (.draw [⟨(some 20),.fldA 1 (.tmp 5),none⟩,
 ⟨(some 21),.load1 (.tmp 20),none⟩,
 ⟨(some 22),.mov (.tmp 1),none⟩,
 ⟨(some 23),.fldA 1 (.tmp 5),none⟩,
 ⟨(some 24),.load1 (.tmp 23),none⟩,
 ⟨(some 25),.mov (.tmp 0),none⟩,
 ⟨(some 26),.ar .i64 .add (.tmp 25) (.const (.int .i64 1)),none⟩,
 ⟨(some 27),.idxS 1 (.tmp 21) (.tmp 22),none⟩,
 ⟨none,.store 1 (.tmp 27) (.const (.int .i64 1)),none⟩,
 ⟨(some 28),.idxS 1 (.tmp 24) (.tmp 26),none⟩,
 ⟨none,.store 1 (.tmp 28) (.const (.int .i64 1)),none⟩]
 [⟨false,false,[false,false,false,false,false,false,false,false,false,false,false],[false,false,false,false,false,false,false,false,false,false,false]⟩,
 ⟨false,false,[false,false,false,false,false,false,false,false,false,false,false],[false,false,false,false,false,false,false,false,false,false,false]⟩,
 ⟨false,false,[false,false,false,false,false,false,false,false,false,false,false],[false,false,false,false,false,false,false,false,false,false,false]⟩,
 ⟨false,true,[false,false,false,false,false,false,false,false,false,false,false],[false,false,false,false,false,false,false,false,true,false,false]⟩,
 ⟨false,true,[false,false,false,false,false,false,false,false,false,false,false],[false,false,false,false,false,false,false,false,true,false,false]⟩,
 ⟨false,true,[false,false,false,false,false,false,false,false,false,false,false],[false,false,false,false,false,false,false,false,true,false,false]⟩,
 ⟨false,true,[false,false,false,false,false,false,false,false,false,false,false],[false,false,false,false,false,false,false,false,true,false,false]⟩,
 ⟨false,false,[false,false,false,false,false,false,false,false,false,false,false],[false,false,false,false,false,false,false,false,false,false,false]⟩,
 ⟨true,false,[false,false,false,false,false,false,false,false,false,false,false],[false,false,false,false,false,false,false,false,true,false,false]⟩,
 ⟨false,false,[false,false,false,false,false,false,false,false,true,false,false],[false,false,false,false,false,false,false,false,true,false,false]⟩,
 ⟨true,false,[false,false,false,false,false,false,false,false,true,false,false],[false,false,false,false,false,false,false,false,true,false,true]⟩])
 (.seq (.seq (.ops [⟨(some 29),.mov (.tmp 0),none⟩,
 ⟨(some 30),.mov (.const (.int .i64 0)),none⟩])
 (.block 0 (.loop (.seq (.ops [⟨(some 31),.ar .i64 .lss (.tmp 30) (.tmp 29),none⟩])
 (.seq (.cond (.tmp 31) .skip
 (.exit 0))
 (.seq (.block 1 (.seq (.ops [⟨(some 32),.mov (.tmp 30),none⟩,
 ⟨(some 6),.mov (.tmp 32),none⟩])
 (.seq (.seq (.ops [⟨(some 33),.mov (.tmp 6),none⟩,
 ⟨(some 7),.mov (.tmp 33),none⟩])
 (.block 2 (.loop (.seq (.seq (.ops [⟨(some 34),.mov (.tmp 7),none⟩,
 ⟨(some 35),.mov (.tmp 0),none⟩,
 ⟨(some 36),.ar .i64 .lss (.tmp 34) (.tmp 35),none⟩])
 (.cond (.tmp 36) .skip
 (.exit 2)))
 (.seq (.block 3 (.seq (.ops [⟨(some 39),.mov (.tmp 6),none⟩,
 ⟨(some 40),.mov (.tmp 7),none⟩,
 ⟨(some 41),.ar .i64 .add (.tmp 39) (.tmp 40),none⟩,
 ⟨(some 42),.mov (.tmp 0),none⟩,
 ⟨(some 43),.ar .i64 .rem (.tmp 41) (.tmp 42),none⟩,
 ⟨(some 8),.mov (.tmp 43),none⟩])
 (.draw [⟨(some 44),.fldA 3 (.tmp 5),none⟩,
 ⟨(some 45),.load1 (.tmp 44),none⟩,
 ⟨(some 46),.mov (.tmp 6),none⟩,
 ⟨(some 47),.mov (.tmp 7),none⟩,
 ⟨(some 48),.mov (.tmp 8),none⟩,
 ⟨(some 49),.mov (.tmp 0),none⟩,
 ⟨(some 50),.fldA 1 (.tmp 5),none⟩,
 ⟨(some 51),.load1 (.tmp 50),none⟩,
 ⟨(some 52),.mov (.tmp 8),none⟩,
 ⟨(some 53),.idxS 1 (.tmp 51) (.tmp 52),none⟩,
 ⟨(some 54),.load1 (.tmp 53),none⟩,
 ⟨(some 55),.ar .i64 .add (.tmp 49) (.tmp 54),none⟩,
 ⟨(some 56),.aggr [(.int .i64 0),(.int .i64 0),(.int .i64 0),(.int .i64 0)] [(0,1,(.tmp 46)),(1,1,(.tmp 47)),(2,1,(.tmp 48)),(3,1,(.tmp 55))],none⟩,
 ⟨(some 57),.slit 96 1 [(.int .i64 0),(.int .i64 0),(.int .i64 0),(.int .i64 0)] [(0,4,(.tmp 56))],none⟩,
 ⟨(some 58),.append 96 4 32 (.tmp 45) (.tmp 57),none⟩,
 ⟨(some 59),.fldA 3 (.tmp 5),none⟩,
 ⟨none,.store 1 (.tmp 59) (.tmp 58),none⟩]
 [⟨false,true,[false,false,false,false,false,false,false,false,false,false,false,false,false,false,false,false,false],[false,false,false,false,false,false,false,false,false,false,false,false,false,true,false,false,false]⟩,
 ⟨false,true,[false,false,false,false,false,false,false,false,false,false,false,false,false,false,false,false,false],[false,false,false,false,false,false,false,false,false,false,false,false,false,true,false,false,false]⟩,
 ⟨false,false,[false,false,false,false,false,false,false,false,false,false,false,false,false,false,false,false,false],[false,false,false,false,false,false,false,false,false,false,false,false,false,false,false,false,false]⟩,
 ⟨false,false,[false,false,false,false,false,false,false,false,false,false,false,false,false,false,false,false,false],[false,false,false,false,false,false,false,false,false,false,false,false,false,false,false,false,false]⟩,
 ⟨false,false,[false,false,false,false,false,false,false,false,false,false,false,false,false,false,false,false,false],[false,false,false,false,false,false,false,false,false,false,false,false,false,false,false,false,false]⟩,
 ⟨false,false,[false,false,false,false,false,false,false,false,false,false,false,false,false,false,false,false,false],[false,false,false,false,false,false,false,false,false,false,false,false,false,false,false,false,false]⟩,
 ⟨false,false,[false,false,false,false,false,false,false,false,false,false,false,false,false,false,false,false,false],[false,false,false,false,false,false,false,false,false,false,false,false,false,false,false,false,false]⟩,
 ⟨false,false,[false,false,false,false,false,false,false,false,false,false,false,false,false,false,false,false,false],[false,false,false,false,false,false,false,false,false,false,false,false,false,false,false,false,false]⟩,
 ⟨false,false,[false,false,false,false,false,false,false,false,false,false,false,false,false,false,false,false,false],[false,false,false,false,false,false,false,false,false,false,false,false,false,false,false,false,false]⟩,
 ⟨false,false,[false,false,false,false,false,false,false,false,false,false,false,false,false,false,false,false,false],[false,false,false,false,false,false,false,false,false,false,false,false,false,false,false,false,false]⟩,
 ⟨false,false,[false,false,false,false,false,false,false,false,false,false,false,false,false,false,false,false,false],[false,false,false,false,false,false,false,false,false,false,false,false,false,false,false,false,false]⟩,
 ⟨false,false,[false,false,false,false,false,false,false,false,false,false,false,false,false,false,false,false,false],[false,false,false,false,false,false,false,false,false,false,false,false,false,false,false,false,false]⟩,
 ⟨false,false,[false,false,false,false,false,false,false,false,false,false,false,false,false,false,false,false,false],[false,false,false,false,false,false,false,false,false,false,false,false,false,false,false,false,false]⟩,
 ⟨true,false,[false,false,false,false,false,false,false,false,false,false,false,false,false,false,false,false,false],[false,false,false,false,false,false,false,false,false,false,false,false,false,true,false,false,false]⟩,
 ⟨true,false,[false,false,false,false,false,false,false,false,false,false,false,false,false,true,false,false,false],[false,false,false,false,false,false,false,false,false,false,false,false,false,true,true,false,false]⟩,
 ⟨false,false,[false,false,false,false,false,false,false,false,false,false,false,false,false,true,true,false,false],[false,false,false,false,false,false,false,false,false,false,false,false,false,true,true,false,false]⟩,
 ⟨true,false,[false,false,false,false,false,false,false,false,false,false,false,false,false,true,true,false,false],[false,false,false,false,false,false,false,false,false,false,false,false,false,true,true,false,true]⟩])))
 (.ops [⟨(some 37),.mov (.tmp 7),none⟩,
 ⟨(some 38),.ar .i64 .add (.tmp 37) (.const (.int .i64 1)),none⟩,
 ⟨(some 7),.mov (.tmp 38),none⟩]))))))
 (.seq (.ops [⟨(some 60),.mov (.tmp 0),none⟩,
 ⟨(some 61),.ar .i64 .add (.tmp 60) (.const (.int .i64 1)),none⟩,
 ⟨(some 62),.fldA 1 (.tmp 5),none⟩,
 ⟨(some 63),.load1 (.tmp 62),none⟩,
 ⟨(some 64),.mov (.tmp 6),none⟩,
 ⟨(some 65),.idxS 1 (.tmp 63) (.tmp 64),none⟩,
 ⟨(some 66),.load1 (.tmp 65),none⟩,
 ⟨(some 67),.ar .i64 .sub (.tmp 61) (.tmp 66),none⟩,
 ⟨(some 68),.mov (.tmp 0),none⟩,
 ⟨(some 69),.fldA 1 (.tmp 5),none⟩,
 ⟨(some 70),.load1 (.tmp 69),none⟩,
 ⟨(some 71),.mov (.tmp 6),none⟩,
 ⟨(some 72),.idxS 1 (.tmp 70) (.tmp 71),none⟩,
 ⟨(some 73),.load1 (.tmp 72),none⟩,
 ⟨(some 74),.ar .i64 .add (.tmp 68) (.tmp 73),none⟩,
 ⟨(some 9),.mov (.tmp 67),none⟩,
 ⟨(some 10),.mov (.tmp 74),none⟩])
 (.ops [⟨(some 75),.fldA 3 (.tmp 5),none⟩,
 ⟨(some 76),.load1 (.tmp 75),none⟩,
 ⟨(some 77),.mov (.tmp 6),none⟩,
 ⟨(some 78),.mov (.tmp 9),none⟩,
 ⟨(some 79),.mov (.tmp 6),none⟩,
 ⟨(some 80),.mov (.tmp 10),none⟩,
 ⟨(some 81),.aggr [(.int .i64 0),(.int .i64 0),(.int .i64 0),(.int .i64 0)] [(0,1,(.tmp 77)),(1,1,(.tmp 78)),(2,1,(.tmp 79)),(3,1,(.tmp 80))],none⟩,
 ⟨(some 82),.slit 96 1 [(.int .i64 0),(.int .i64 0),(.int .i64 0),(.int .i64 0)] [(0,4,(.tmp 81))],none⟩,
 ⟨(some 83),.append 96 4 32 (.tmp 76) (.tmp 82),none⟩,
 ⟨(some 84),.fldA 3 (.tmp 5),none⟩,
 ⟨none,.store 1 (.tmp 84) (.tmp 83),none⟩])))))
 (.ops [⟨(some 85),.ar .i64 .add (.tmp 30) (.const (.int .i64 1)),none⟩,
 ⟨(some 30),.mov (.tmp 85),none⟩])))))))
 (.seq (.ops [⟨(some 86),.loadN 4 (.tmp 5),none⟩,
 ⟨none,.store 4 (.tmp 4) (.tmp 86),none⟩])
 .ret)))))
theorem enter88 {xs : List Value} {h : Hp} {Q : Value → Hp → Prop} (hl : xs.length ≤ 87) (w : wq E 87 none c88 (frameOf xs) h [] (leaveQ E [.cell 4 25] Q)) : CallP E 88 xs h Q :=
  CallP.enterQ (fn := Try.f88) (fn_get Try.func88) (code := Try.f88.body.get rfl) rfl rfl rfl (by kernel_rfl) rfl (fun _ => rfl) hl w
theorem can88 : callable E 88 = true := callable_get Try.func88 rfl rfl
end
end Go.Proofs.Ytpiplaicnbapbaa
