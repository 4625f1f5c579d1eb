/- The code of the functions that PME comes to. -/
import Derived.Test.YtpiplaicnbapbaaTypesC
set_option maxRecDepth 100000
set_option linter.unusedSectionVars false
set_option linter.unusedVariables false
namespace Go.Proofs.Ytpiplaicnbapbaa
open Go.Rx Go.RowKit
noncomputable section
variable [Unknowns]
def c12 : C := (.seq (.ops [⟨(some 6),.mov (.const (.bool false)),none⟩])
 (.seq (.ops [⟨(some 20),.mov (.tmp 0),none⟩,
 ⟨(some 21),.cint .u64 (.tmp 20),none⟩,
 ⟨(some 22),.ar .u64 .rem (.tmp 21) (.const (.int .u64 4)),none⟩,
 ⟨(some 23),.cint .i64 (.tmp 22),none⟩,
 ⟨(some 24),.ar .i64 .add (.const (.int .i64 1)) (.tmp 23),none⟩,
 ⟨(some 25),.mov (.tmp 1),none⟩,
 ⟨(some 26),.cint .u64 (.tmp 25),none⟩,
 ⟨(some 27),.ar .u64 .rem (.tmp 26) (.const (.int .u64 3)),none⟩,
 ⟨(some 28),.cint .i64 (.tmp 27),none⟩,
 ⟨(some 29),.ar .i64 .add (.const (.int .i64 1)) (.tmp 28),none⟩,
 ⟨(some 0),.mov (.tmp 24),none⟩,
 ⟨(some 1),.mov (.tmp 29),none⟩])
 (.seq (.ops [⟨(some 30),.mov (.tmp 2),none⟩,
 ⟨(some 31),.cint .u64 (.tmp 30),none⟩,
 ⟨(some 32),.mov (.tmp 1),none⟩,
 ⟨(some 33),.cint .u64 (.tmp 32),none⟩,
 ⟨(some 34),.ar .u64 .rem (.tmp 31) (.tmp 33),none⟩,
 ⟨(some 35),.cint .i64 (.tmp 34),none⟩,
 ⟨(some 2),.mov (.tmp 35),none⟩])
 (.seq (.ops [⟨(some 37),.mov (.tmp 0),none⟩,
 ⟨(some 38),.call 56 [(.tmp 37)],none⟩,
 ⟨(some 36),.mov (.tmp 38),none⟩,
 ⟨(some 39),.ext (.tmp 36) 0,none⟩,
 ⟨(some 40),.ext (.tmp 36) 1,none⟩,
 ⟨(some 7),.alloc 25 [(.int .i64 0),(.slice none 0 0),(.slice none 0 0),(.slice none 0 0)],none⟩,
 ⟨none,.store 4 (.tmp 7) (.tmp 39),none⟩,
 ⟨(some 8),.mov (.tmp 40),none⟩])
 (.seq (.ops [⟨(some 42),.mov (.tmp 1),none⟩,
 ⟨(some 43),.mov (.tmp 2),none⟩,
 ⟨(some 44),.call 57 [(.tmp 42),(.tmp 43)],none⟩,
 ⟨(some 41),.mov (.tmp 44),none⟩,
 ⟨(some 45),.ext (.tmp 41) 0,none⟩,
 ⟨(some 46),.ext (.tmp 41) 1,none⟩,
 ⟨(some 9),.alloc 25 [(.int .i64 0),(.slice none 0 0),(.slice none 0 0),(.slice none 0 0)],none⟩,
 ⟨none,.store 4 (.tmp 9) (.tmp 45),none⟩,
 ⟨(some 10),.mov (.tmp 46),none⟩])
 (.seq (.ops [⟨(some 48),.loadN 4 (.tmp 7),none⟩,
 ⟨(some 49),.slit 3 1 [(.int .i64 0)] [(0,1,(.const (.int .i64 1)))],none⟩,
 ⟨(some 50),.mov (.tmp 0),none⟩,
 ⟨(some 51),.aggr [(.slice none 0 0),(.int .i64 0),(.int .i64 0)] [(0,1,(.tmp 49)),(1,1,(.tmp 50))],none⟩,
 ⟨(some 52),.call 22 [(.tmp 48),(.tmp 51)],none⟩,
 ⟨(some 47),.mov (.tmp 52),none⟩,
 ⟨(some 53),.ext (.tmp 47) 0,none⟩,
 ⟨(some 54),.ext (.tmp 47) 1,none⟩,
 ⟨(some 55),.ext (.tmp 47) 2,none⟩,
 ⟨(some 11),.mov (.tmp 53),none⟩,
 ⟨(some 12),.mov (.tmp 54),none⟩,
 ⟨(some 13),.mov (.tmp 55),none⟩])
 (.seq (.ops [⟨(some 57),.loadN 4 (.tmp 9),none⟩,
 ⟨(some 58),.slit 3 1 [(.int .i64 0)] [(0,1,(.const (.int .i64 1)))],none⟩,
 ⟨(some 59),.mov (.tmp 2),none⟩,
 ⟨(some 60),.mov (.tmp 1),none⟩,
 ⟨(some 61),.aggr [(.slice none 0 0),(.int .i64 0),(.int .i64 0)] [(0,1,(.tmp 58)),(1,1,(.tmp 59)),(2,1,(.tmp 60))],none⟩,
 ⟨(some 62),.call 22 [(.tmp 57),(.tmp 61)],none⟩,
 ⟨(some 56),.mov (.tmp 62),none⟩,
 ⟨(some 63),.ext (.tmp 56) 0,none⟩,
 ⟨(some 64),.ext (.tmp 56) 1,none⟩,
 ⟨(some 65),.ext (.tmp 56) 2,none⟩,
 ⟨(some 14),.mov (.tmp 63),none⟩,
 ⟨(some 15),.mov (.tmp 64),none⟩,
 ⟨(some 16),.mov (.tmp 65),none⟩])
 (.seq (.ops [⟨(some 67),.call 58 [],none⟩,
 ⟨(some 68),.slit 3 2 [(.int .i64 0),(.int .i64 0)] [(0,1,(.const (.int .i64 1))),(1,1,(.const (.int .i64 (-1))))],none⟩,
 ⟨(some 69),.aggr [(.slice none 0 0),(.int .i64 0),(.int .i64 0)] [(0,1,(.tmp 68)),(1,1,(.const (.int .i64 1)))],none⟩,
 ⟨(some 70),.call 22 [(.tmp 67),(.tmp 69)],none⟩,
 ⟨(some 66),.mov (.tmp 70),none⟩,
 ⟨(some 71),.ext (.tmp 66) 0,none⟩,
 ⟨(some 72),.ext (.tmp 66) 1,none⟩,
 ⟨(some 73),.ext (.tmp 66) 2,none⟩,
 ⟨(some 17),.mov (.tmp 71),none⟩,
 ⟨(some 18),.mov (.tmp 72),none⟩,
 ⟨(some 19),.mov (.tmp 73),none⟩])
 (.seq (.ops [⟨(some 74),.mov (.tmp 8),none⟩,
 ⟨(some 75),.ar .i64 .eql (.tmp 74) (.const (.int .i64 0)),none⟩,
 ⟨(some 76),.mov (.tmp 75),none⟩,
 ⟨(some 77),.mov (.tmp 10),(some (76,true))⟩,
 ⟨(some 78),.ar .i64 .eql (.tmp 77) (.const (.int .i64 0)),(some (76,true))⟩,
 ⟨(some 79),.pick (.tmp 76) (.tmp 78) (.const (.bool false)),none⟩,
 ⟨(some 80),.mov (.tmp 79),none⟩,
 ⟨(some 81),.mov (.tmp 13),(some (80,true))⟩,
 ⟨(some 82),.ar .i64 .eql (.tmp 81) (.const (.int .i64 0)),(some (80,true))⟩,
 ⟨(some 83),.pick (.tmp 80) (.tmp 82) (.const (.bool false)),none⟩,
 ⟨(some 84),.mov (.tmp 83),none⟩,
 ⟨(some 85),.mov (.tmp 16),(some (84,true))⟩,
 ⟨(some 86),.ar .i64 .eql (.tmp 85) (.const (.int .i64 0)),(some (84,true))⟩,
 ⟨(some 87),.pick (.tmp 84) (.tmp 86) (.const (.bool false)),none⟩,
 ⟨(some 88),.mov (.tmp 87),none⟩,
 ⟨(some 89),.mov (.tmp 19),(some (88,true))⟩,
 ⟨(some 90),.ar .i64 .eql (.tmp 89) (.const (.int .i64 0)),(some (88,true))⟩,
 ⟨(some 91),.pick (.tmp 88) (.tmp 90) (.const (.bool false)),none⟩,
 ⟨(some 92),.mov (.tmp 91),none⟩,
 ⟨(some 93),.mov (.tmp 12),(some (92,true))⟩,
 ⟨(some 94),.pick (.tmp 92) (.tmp 93) (.const (.bool false)),none⟩,
 ⟨(some 95),.mov (.tmp 94),none⟩,
 ⟨(some 96),.mov (.tmp 15),(some (95,true))⟩,
 ⟨(some 97),.pick (.tmp 95) (.tmp 96) (.const (.bool false)),none⟩,
 ⟨(some 98),.mov (.tmp 97),none⟩,
 ⟨(some 99),.mov (.tmp 18),(some (98,true))⟩,
 ⟨(some 100),.pick (.tmp 98) (.tmp 99) (.const (.bool false)),none⟩,
 ⟨(some 101),.mov (.tmp 100),none⟩,
 ⟨(some 102),.mov (.tmp 11),(some (101,true))⟩,
 ⟨(some 103),.lenS (.tmp 102),(some (101,true))⟩,
 ⟨(some 104),.mov (.tmp 14),(some (101,true))⟩,
 ⟨(some 105),.lenS (.tmp 104),(some (101,true))⟩,
 ⟨(some 106),.ar .i64 .add (.tmp 103) (.tmp 105),(some (101,true))⟩,
 ⟨(some 107),.mov (.tmp 17),(some (101,true))⟩,
 ⟨(some 108),.lenS (.tmp 107),(some (101,true))⟩,
 ⟨(some 109),.ar .i64 .add (.tmp 106) (.tmp 108),(some (101,true))⟩,
 ⟨(some 110),.ar .i64 .eql (.tmp 109) (.const (.int .i64 0)),(some (101,true))⟩,
 ⟨(some 111),.pick (.tmp 101) (.tmp 110) (.const (.bool false)),none⟩,
 ⟨(some 112),.mov (.tmp 111),none⟩,
 ⟨(some 113),.call 27 [],(some (112,true))⟩,
 ⟨(some 114),.pick (.tmp 112) (.tmp 113) (.const (.bool false)),none⟩,
 ⟨(some 6),.mov (.tmp 114),none⟩])
 .ret)))))))))
theorem enter12 {xs : List Value} {h : Hp} {Q : Value → Hp → Prop} (hl : xs.length ≤ 115) (w : wq E 115 none c12 (frameOf xs) h [] (leaveQ E [.tmp 6] Q)) : CallP E 12 xs h Q :=
  CallP.enterQ (fn := Try.f12) (fn_get Try.func12) (code := Try.f12.body.get rfl) rfl rfl rfl (by kernel_rfl) rfl (fun _ => rfl) hl w
theorem can12 : callable E 12 = true := callable_get Try.func12 rfl rfl
def c21 : C := (.seq (.ops [⟨(some 1),.box 25 (.tmp 0),none⟩,
 ⟨(some 2),.mov (.const (.int .i64 0)),none⟩])
 (.seq (.seq (.ops [⟨(some 5),.fldA 0 (.tmp 1),none⟩,
 ⟨(some 6),.load1 (.tmp 5),none⟩,
 ⟨(some 7),.ar .i64 .lss (.tmp 6) (.const (.int .i64 1)),none⟩,
 ⟨(some 8),.mov (.tmp 7),none⟩,
 ⟨(some 9),.fldA 0 (.tmp 1),(some (8,false))⟩,
 ⟨(some 10),.load1 (.tmp 9),(some (8,false))⟩,
 ⟨(some 11),.ar .i64 .gtr (.tmp 10) (.const (.int .i64 5)),(some (8,false))⟩,
 ⟨(some 12),.pick (.tmp 8) (.const (.bool true)) (.tmp 11),none⟩,
 ⟨(some 13),.mov (.tmp 12),none⟩,
 ⟨(some 14),.fldA 1 (.tmp 1),(some (13,false))⟩,
 ⟨(some 15),.load1 (.tmp 14),(some (13,false))⟩,
 ⟨(some 16),.lenS (.tmp 15),(some (13,false))⟩,
 ⟨(some 17),.fldA 0 (.tmp 1),(some (13,false))⟩,
 ⟨(some 18),.load1 (.tmp 17),(some (13,false))⟩,
 ⟨(some 19),.ar .i64 .neq (.tmp 16) (.tmp 18),(some (13,false))⟩,
 ⟨(some 20),.pick (.tmp 13) (.const (.bool true)) (.tmp 19),none⟩,
 ⟨(some 21),.mov (.tmp 20),none⟩,
 ⟨(some 22),.fldA 1 (.tmp 1),(some (21,false))⟩,
 ⟨(some 23),.load1 (.tmp 22),(some (21,false))⟩,
 ⟨(some 24),.call 60 [(.const (.int .i64 0)),(.const (.int .i64 1)),(.tmp 23)],(some (21,false))⟩,
 ⟨(some 25),.not (.tmp 24),(some (21,false))⟩,
 ⟨(some 26),.pick (.tmp 21) (.const (.bool true)) (.tmp 25),none⟩])
 (.cond (.tmp 26) (.seq (.ops [⟨(some 2),.mov (.const (.int .i64 60)),none⟩])
 .ret)
 .skip))
 (.seq (.seq (.ops [⟨(some 27),.fldA 2 (.tmp 1),none⟩,
 ⟨(some 28),.load1 (.tmp 27),none⟩,
 ⟨(some 29),.lenS (.tmp 28),none⟩,
 ⟨(some 30),.ar .i64 .lss (.tmp 29) (.const (.int .i64 1)),none⟩,
 ⟨(some 31),.mov (.tmp 30),none⟩,
 ⟨(some 32),.fldA 2 (.tmp 1),(some (31,false))⟩,
 ⟨(some 33),.load1 (.tmp 32),(some (31,false))⟩,
 ⟨(some 34),.lenS (.tmp 33),(some (31,false))⟩,
 ⟨(some 35),.ar .i64 .gtr (.tmp 34) (.const (.int .i64 2)),(some (31,false))⟩,
 ⟨(some 36),.pick (.tmp 31) (.const (.bool true)) (.tmp 35),none⟩,
 ⟨(some 37),.mov (.tmp 36),none⟩,
 ⟨(some 38),.fldA 0 (.tmp 1),(some (37,false))⟩,
 ⟨(some 39),.load1 (.tmp 38),(some (37,false))⟩,
 ⟨(some 40),.ar .i64 .sub (.tmp 39) (.const (.int .i64 1)),(some (37,false))⟩,
 ⟨(some 41),.fldA 2 (.tmp 1),(some (37,false))⟩,
 ⟨(some 42),.load1 (.tmp 41),(some (37,false))⟩,
 ⟨(some 43),.call 60 [(.const (.int .i64 0)),(.tmp 40),(.tmp 42)],(some (37,false))⟩,
 ⟨(some 44),.not (.tmp 43),(some (37,false))⟩,
 ⟨(some 45),.pick (.tmp 37) (.const (.bool true)) (.tmp 44),none⟩,
 ⟨(some 46),.mov (.tmp 45),none⟩,
 ⟨(some 47),.fldA 3 (.tmp 1),(some (46,false))⟩,
 ⟨(some 48),.load1 (.tmp 47),(some (46,false))⟩,
 ⟨(some 49),.lenS (.tmp 48),(some (46,false))⟩,
 ⟨(some 50),.ar .i64 .gtr (.tmp 49) (.const (.int .i64 15)),(some (46,false))⟩,
 ⟨(some 51),.pick (.tmp 46) (.const (.bool true)) (.tmp 50),none⟩])
 (.cond (.tmp 51) (.seq (.ops [⟨(some 2),.mov (.const (.int .i64 60)),none⟩])
 .ret)
 .skip))
 (.seq (.seq (.ops [⟨(some 52),.fldA 3 (.tmp 1),none⟩,
 ⟨(some 53),.load1 (.tmp 52),none⟩,
 ⟨(some 54),.lenS (.tmp 53),none⟩,
 ⟨(some 55),.mov (.const (.int .i64 0)),none⟩])
 (.block 0 (.loop (.seq (.ops [⟨(some 56),.ar .i64 .lss (.tmp 55) (.tmp 54),none⟩])
 (.seq (.cond (.tmp 56) .skip
 (.exit 0))
 (.seq (.block 1 (.seq (.ops [⟨(some 57),.mov (.tmp 55),none⟩,
 ⟨(some 58),.idxS 4 (.tmp 53) (.tmp 55),none⟩,
 ⟨(some 59),.loadN 4 (.tmp 58),none⟩,
 ⟨(some 4),.alloc 96 [(.int .i64 0),(.int .i64 0),(.int .i64 0),(.int .i64 0)],none⟩,
 ⟨(some 3),.mov (.tmp 57),none⟩,
 ⟨none,.store 4 (.tmp 4) (.tmp 59),none⟩])
 (.seq (.seq (.ops [⟨(some 60),.fldA 0 (.tmp 1),none⟩,
 ⟨(some 61),.load1 (.tmp 60),none⟩,
 ⟨(some 62),.ar .i64 .sub (.tmp 61) (.const (.int .i64 1)),none⟩,
 ⟨(some 63),.cutA 4 1 (.tmp 4) none none none,none⟩,
 ⟨(some 64),.call 60 [(.const (.int .i64 0)),(.tmp 62),(.tmp 63)],none⟩,
 ⟨(some 65),.not (.tmp 64),none⟩,
 ⟨(some 66),.mov (.tmp 65),none⟩,
 ⟨(some 67),.idxA 4 1 (.tmp 4) (.const (.int .i64 0)),(some (66,false))⟩,
 ⟨(some 68),.load1 (.tmp 67),(some (66,false))⟩,
 ⟨(some 69),.idxA 4 1 (.tmp 4) (.const (.int .i64 1)),(some (66,false))⟩,
 ⟨(some 70),.load1 (.tmp 69),(some (66,false))⟩,
 ⟨(some 71),.ar .i64 .gtr (.tmp 68) (.tmp 70),(some (66,false))⟩,
 ⟨(some 72),.pick (.tmp 66) (.const (.bool true)) (.tmp 71),none⟩])
 (.cond (.tmp 72) (.seq (.ops [⟨(some 2),.mov (.const (.int .i64 60)),none⟩])
 .ret)
 .skip))
 (.seq (.ops [⟨(some 73),.mov (.tmp 3),none⟩,
 ⟨(some 74),.ar .i64 .gtr (.tmp 73) (.const (.int .i64 0)),none⟩,
 ⟨(some 75),.mov (.tmp 74),none⟩,
 ⟨(some 76),.fldA 3 (.tmp 1),(some (75,true))⟩,
 ⟨(some 77),.load1 (.tmp 76),(some (75,true))⟩,
 ⟨(some 78),.mov (.tmp 3),(some (75,true))⟩,
 ⟨(some 79),.ar .i64 .sub (.tmp 78) (.const (.int .i64 1)),(some (75,true))⟩,
 ⟨(some 80),.idxS 4 (.tmp 77) (.tmp 79),(some (75,true))⟩,
 ⟨(some 81),.cutA 4 1 (.tmp 80) none (some (.const (.int .i64 2))) none,(some (75,true))⟩,
 ⟨(some 82),.cutA 4 1 (.tmp 4) none (some (.const (.int .i64 2))) none,(some (75,true))⟩,
 ⟨(some 83),.call 61 [(.tmp 81),(.tmp 82)],(some (75,true))⟩,
 ⟨(some 84),.ar .i64 .geq (.tmp 83) (.const (.int .i64 0)),(some (75,true))⟩,
 ⟨(some 85),.pick (.tmp 75) (.tmp 84) (.const (.bool false)),none⟩])
 (.cond (.tmp 85) (.seq (.ops [⟨(some 2),.mov (.const (.int .i64 60)),none⟩])
 .ret)
 .skip)))))
 (.ops [⟨(some 86),.ar .i64 .add (.tmp 55) (.const (.int .i64 1)),none⟩,
 ⟨(some 55),.mov (.tmp 86),none⟩])))))))
 (.seq (.ops [⟨(some 2),.mov (.const (.int .i64 0)),none⟩])
 .ret)))))
theorem enter21 {xs : List Value} {h : Hp} {Q : Value → Hp → Prop} (hl : xs.length ≤ 87) (w : wq E 87 none c21 (frameOf xs) h [] (leaveQ E [.tmp 2] Q)) : CallP E 21 xs h Q :=
  CallP.enterQ (fn := Try.f21) (fn_get Try.func21) (code := Try.f21.body.get rfl) rfl rfl rfl (by kernel_rfl) rfl (fun _ => rfl) hl w
theorem can21 : callable E 21 = true := callable_get Try.func21 rfl rfl
def c22 : C := (.seq (.ops [⟨(some 2),.box 25 (.tmp 0),none⟩,
 ⟨(some 3),.box 36 (.tmp 1),none⟩,
 ⟨(some 4),.mov (.const (.slice none 0 0)),none⟩,
 ⟨(some 5),.mov (.const (.bool false)),none⟩,
 ⟨(some 6),.mov (.const (.int .i64 0)),none⟩])
 (.seq (.seq (.ops [⟨(some 11),.loadN 4 (.tmp 2),none⟩,
 ⟨(some 12),.call 21 [(.tmp 11)],none⟩,
 ⟨(some 7),.mov (.tmp 12),none⟩])
 (.seq (.ops [⟨(some 13),.mov (.tmp 7),none⟩,
 ⟨(some 14),.ar .i64 .neq (.tmp 13) (.const (.int .i64 0)),none⟩])
 (.cond (.tmp 14) (.seq (.ops [⟨(some 15),.mov (.tmp 7),none⟩,
 ⟨(some 4),.mov (.const (.slice none 0 0)),none⟩,
 ⟨(some 5),.mov (.const (.bool false)),none⟩,
 ⟨(some 6),.mov (.tmp 15),none⟩])
 .ret)
 .skip)))
 (.seq (.seq (.ops [⟨(some 16),.loadN 3 (.tmp 3),none⟩,
 ⟨(some 17),.call 62 [(.tmp 16)],none⟩,
 ⟨(some 18),.not (.tmp 17),none⟩,
 ⟨(some 19),.mov (.tmp 18),none⟩,
 ⟨(some 20),.fldA 0 (.tmp 3),(some (19,false))⟩,
 ⟨(some 21),.load1 (.tmp 20),(some (19,false))⟩,
 ⟨(some 22),.lenS (.tmp 21),(some (19,false))⟩,
 ⟨(some 23),.fldA 2 (.tmp 2),(some (19,false))⟩,
 ⟨(some 24),.load1 (.tmp 23),(some (19,false))⟩,
 ⟨(some 25),.lenS (.tmp 24),(some (19,false))⟩,
 ⟨(some 26),.ar .i64 .neq (.tmp 22) (.tmp 25),(some (19,false))⟩,
 ⟨(some 27),.pick (.tmp 19) (.const (.bool true)) (.tmp 26),none⟩])
 (.cond (.tmp 27) (.seq (.ops [⟨(some 4),.mov (.const (.slice none 0 0)),none⟩,
 ⟨(some 5),.mov (.const (.bool false)),none⟩,
 ⟨(some 6),.mov (.const (.int .i64 1)),none⟩])
 .ret)
 .skip))
 (.seq (.seq (.ops [⟨(some 28),.fldA 2 (.tmp 2),none⟩,
 ⟨(some 29),.load1 (.tmp 28),none⟩,
 ⟨(some 30),.lenS (.tmp 29),none⟩,
 ⟨(some 31),.call 63 [(.tmp 30)],none⟩,
 ⟨(some 32),.lenS (.tmp 31),none⟩,
 ⟨(some 33),.mov (.const (.int .i64 0)),none⟩])
 (.block 0 (.loop (.seq (.ops [⟨(some 34),.ar .i64 .lss (.tmp 33) (.tmp 32),none⟩])
 (.seq (.cond (.tmp 34) .skip
 (.exit 0))
 (.seq (.block 1 (.seq (.ops [⟨(some 35),.idxS 1 (.tmp 31) (.tmp 33),none⟩,
 ⟨(some 36),.load1 (.tmp 35),none⟩,
 ⟨(some 9),.mov (.tmp 36),none⟩])
 (.seq (.ops [⟨(some 10),.mov (.const (.int .i64 0)),none⟩])
 (.seq (.seq (.ops [⟨(some 37),.loadN 3 (.tmp 3),none⟩,
 ⟨(some 38),.mov (.tmp 9),none⟩,
 ⟨(some 39),.call 64 [(.tmp 37),(.tmp 38)],none⟩])
 (.cond (.tmp 39) (.ops [⟨(some 10),.mov (.const (.int .i64 1)),none⟩])
 .skip))
 (.seq (.draw [⟨(some 40),.loadN 4 (.tmp 2),none⟩,
 ⟨(some 41),.loadN 4 (.tmp 2),none⟩,
 ⟨(some 42),.loadN 4 (.tmp 2),none⟩,
 ⟨(some 43),.mov (.tmp 9),none⟩,
 ⟨(some 44),.call 67 [(.tmp 42),(.tmp 43)],none⟩,
 ⟨(some 45),.call 66 [(.tmp 41),(.tmp 44)],none⟩,
 ⟨(some 46),.mov (.tmp 10),none⟩,
 ⟨(some 47),.call 65 [(.tmp 40),(.tmp 45),(.tmp 46)],none⟩,
 ⟨(some 48),.not (.tmp 47),none⟩]
 [⟨false,true,[false,false,false,false,false,false,false,false,false],[false,false,false,false,true,true,false,false,false]⟩,
 ⟨false,true,[false,false,false,false,false,false,false,false,false],[false,false,false,false,true,false,false,false,false]⟩,
 ⟨false,false,[false,false,false,false,false,false,false,false,false],[false,false,false,false,false,false,false,false,false]⟩,
 ⟨false,false,[false,false,false,false,false,false,false,false,false],[false,false,false,false,false,false,false,false,false]⟩,
 ⟨true,false,[false,false,false,false,false,false,false,false,false],[false,false,false,false,true,false,false,false,false]⟩,
 ⟨true,false,[false,false,false,false,true,false,false,false,false],[false,false,false,false,true,true,false,false,false]⟩,
 ⟨false,true,[false,false,false,false,false,false,false,false,false],[false,false,false,false,true,true,false,false,false]⟩,
 ⟨true,false,[false,false,false,false,true,true,false,false,false],[false,false,false,false,true,true,false,true,false]⟩,
 ⟨false,false,[false,false,false,false,true,true,false,true,false],[false,false,false,false,true,true,false,true,false]⟩])
 (.cond (.tmp 48) (.seq (.ops [⟨(some 49),.mov (.tmp 9),none⟩,
 ⟨(some 4),.mov (.tmp 49),none⟩,
 ⟨(some 5),.mov (.const (.bool false)),none⟩,
 ⟨(some 6),.mov (.const (.int .i64 0)),none⟩])
 .ret)
 .skip))))))
 (.ops [⟨(some 50),.ar .i64 .add (.tmp 33) (.const (.int .i64 1)),none⟩,
 ⟨(some 33),.mov (.tmp 50),none⟩])))))))
 (.seq (.ops [⟨(some 4),.mov (.const (.slice none 0 0)),none⟩,
 ⟨(some 5),.mov (.const (.bool true)),none⟩,
 ⟨(some 6),.mov (.const (.int .i64 0)),none⟩])
 .ret)))))
theorem enter22 {xs : List Value} {h : Hp} {Q : Value → Hp → Prop} (hl : xs.length ≤ 51) (w : wq E 51 none c22 (frameOf xs) h [] (leaveQ E [.tmp 4,.tmp 5,.tmp 6] Q)) : CallP E 22 xs h Q :=
  CallP.enterQ (fn := Try.f22) (fn_get Try.func22) (code := Try.f22.body.get rfl) rfl rfl rfl (by kernel_rfl) rfl (fun _ => rfl) hl w
theorem can22 : callable E 22 = true := callable_get Try.func22 rfl rfl
theorem memo27 {h : Hp} {Q : Value → Hp → Prop} (q : Q (.bool true) h) : CallP E 27 [] h Q := CallP.memo rfl q
def c56 : C := (.seq (.ops [⟨(some 2),.alloc 25 [(.int .i64 0),(.slice none 0 0),(.slice none 0 0),(.slice none 0 0)],none⟩,
 ⟨(some 3),.mov (.const (.int .i64 0)),none⟩])
 (.seq (.seq (.ops [⟨(some 4),.mov (.tmp 0),none⟩,
 ⟨(some 5),.slit 3 1 [(.int .i64 0)] [(0,1,(.tmp 4))],none⟩,
 ⟨(some 6),.call 60 [(.const (.int .i64 1)),(.const (.int .i64 4)),(.tmp 5)],none⟩,
 ⟨(some 7),.not (.tmp 6),none⟩])
 (.cond (.tmp 7) (.seq (.ops [⟨(some 8),.aggr [(.int .i64 0),(.slice none 0 0),(.slice none 0 0),(.slice none 0 0)] [],none⟩,
 ⟨none,.store 4 (.tmp 2) (.tmp 8),none⟩,
 ⟨(some 3),.mov (.const (.int .i64 1)),none⟩])
 .ret)
 .skip))
 (.seq (.ops [⟨(some 9),.mov (.tmp 0),none⟩,
 ⟨(some 10),.call 87 [(.tmp 9)],none⟩,
 ⟨none,.store 4 (.tmp 2) (.tmp 10),none⟩,
 ⟨(some 3),.mov (.const (.int .i64 0)),none⟩])
 .ret)))
theorem enter56 {xs : List Value} {h : Hp} {Q : Value → Hp → Prop} (hl : xs.length ≤ 11) (w : wq E 11 none c56 (frameOf xs) h [] (leaveQ E [.cell 2 25,.tmp 3] Q)) : CallP E 56 xs h Q :=
  CallP.enterQ (fn := Try.f56) (fn_get Try.func56) (code := Try.f56.body.get rfl) rfl rfl rfl (by kernel_rfl) rfl (fun _ => rfl) hl w
theorem can56 : callable E 56 = true := callable_get Try.func56 rfl rfl
def c57 : C := (.seq (.ops [⟨(some 4),.alloc 25 [(.int .i64 0),(.slice none 0 0),(.slice none 0 0),(.slice none 0 0)],none⟩,
 ⟨(some 5),.mov (.const (.int .i64 0)),none⟩])
 (.seq (.seq (.ops [⟨(some 6),.mov (.tmp 0),none⟩,
 ⟨(some 7),.slit 3 1 [(.int .i64 0)] [(0,1,(.tmp 6))],none⟩,
 ⟨(some 8),.call 60 [(.const (.int .i64 1)),(.const (.int .i64 3)),(.tmp 7)],none⟩,
 ⟨(some 9),.not (.tmp 8),none⟩,
 ⟨(some 10),.mov (.tmp 9),none⟩,
 ⟨(some 11),.mov (.tmp 0),(some (10,false))⟩,
 ⟨(some 12),.ar .i64 .sub (.tmp 11) (.const (.int .i64 1)),(some (10,false))⟩,
 ⟨(some 13),.mov (.tmp 1),(some (10,false))⟩,
 ⟨(some 14),.slit 3 1 [(.int .i64 0)] [(0,1,(.tmp 13))],(some (10,false))⟩,
 ⟨(some 15),.call 60 [(.const (.int .i64 0)),(.tmp 12),(.tmp 14)],(some (10,false))⟩,
 ⟨(some 16),.not (.tmp 15),(some (10,false))⟩,
 ⟨(some 17),.pick (.tmp 10) (.const (.bool true)) (.tmp 16),none⟩])
 (.cond (.tmp 17) (.seq (.ops [⟨(some 18),.aggr [(.int .i64 0),(.slice none 0 0),(.slice none 0 0),(.slice none 0 0)] [],none⟩,
 ⟨none,.store 4 (.tmp 4) (.tmp 18),none⟩,
 ⟨(some 5),.mov (.const (.int .i64 1)),none⟩])
 .ret)
 .skip))
 (.seq (.ops [⟨(some 19),.mov (.tmp 0),none⟩,
 ⟨(some 20),.mov (.tmp 1),none⟩,
 ⟨(some 21),.call 88 [(.tmp 19),(.tmp 20)],none⟩,
 ⟨none,.store 4 (.tmp 4) (.tmp 21),none⟩,
 ⟨(some 5),.mov (.const (.int .i64 0)),none⟩])
 .ret)))
theorem enter57 {xs : List Value} {h : Hp} {Q : Value → Hp → Prop} (hl : xs.length ≤ 22) (w : wq E 22 none c57 (frameOf xs) h [] (leaveQ E [.cell 4 25,.tmp 5] Q)) : CallP E 57 xs h Q :=
  CallP.enterQ (fn := Try.f57) (fn_get Try.func57) (code := Try.f57.body.get rfl) rfl rfl rfl (by kernel_rfl) rfl (fun _ => rfl) hl w
theorem can57 : callable E 57 = true := callable_get Try.func57 rfl rfl
def c58 : C := (.seq (.ops [⟨(some 0),.alloc 25 [(.int .i64 0),(.slice none 0 0),(.slice none 0 0),(.slice none 0 0)],none⟩])
 (.seq (.ops [⟨(some 1),.slit 3 4 [(.int .i64 0),(.int .i64 0),(.int .i64 0),(.int .i64 0)] [(0,1,(.const (.int .i64 1))),(1,1,(.const (.int .i64 0))),(2,1,(.const (.int .i64 1))),(3,1,(.const (.int .i64 0)))],none⟩,
 ⟨(some 2),.slit 3 2 [(.int .i64 0),(.int .i64 0)] [(0,1,(.const (.int .i64 0))),(1,1,(.const (.int .i64 1)))],none⟩,
 ⟨(some 3),.aggr [(.int .i64 0),(.int .i64 0),(.int .i64 0),(.int .i64 0)] [(0,1,(.const (.int .i64 0))),(1,1,(.const (.int .i64 1))),(2,1,(.const (.int .i64 3))),(3,1,(.const (.int .i64 3)))],none⟩,
 ⟨(some 4),.aggr [(.int .i64 0),(.int .i64 0),(.int .i64 0),(.int .i64 0)] [(0,1,(.const (.int .i64 0))),(1,1,(.const (.int .i64 3))),(2,1,(.const (.int .i64 0))),(3,1,(.const (.int .i64 2)))],none⟩,
 ⟨(some 5),.aggr [(.int .i64 0),(.int .i64 0),(.int .i64 0),(.int .i64 0)] [(0,1,(.const (.int .i64 1))),(1,1,(.const (.int .i64 2))),(2,1,(.const (.int .i64 1))),(3,1,(.const (.int .i64 3)))],none⟩,
 ⟨(some 6),.aggr [(.int .i64 0),(.int .i64 0),(.int .i64 0),(.int .i64 0)] [(0,1,(.const (.int .i64 2))),(1,1,(.const (.int .i64 3))),(2,1,(.const (.int .i64 3))),(3,1,(.const (.int .i64 3)))],none⟩,
 ⟨(some 7),.slit 96 4 [(.int .i64 0),(.int .i64 0),(.int .i64 0),(.int .i64 0),(.int .i64 0),(.int .i64 0),(.int .i64 0),(.int .i64 0),(.int .i64 0),(.int .i64 0),(.int .i64 0),(.int .i64 0),(.int .i64 0),(.int .i64 0),(.int .i64 0),(.int .i64 0)] [(0,4,(.tmp 3)),(4,4,(.tmp 4)),(8,4,(.tmp 5)),(12,4,(.tmp 6))],none⟩,
 ⟨(some 8),.aggr [(.int .i64 0),(.slice none 0 0),(.slice none 0 0),(.slice none 0 0)] [(0,1,(.const (.int .i64 4))),(1,1,(.tmp 1)),(2,1,(.tmp 2)),(3,1,(.tmp 7))],none⟩,
 ⟨none,.store 4 (.tmp 0) (.tmp 8),none⟩])
 .ret))
theorem enter58 {xs : List Value} {h : Hp} {Q : Value → Hp → Prop} (hl : xs.length ≤ 9) (w : wq E 9 none c58 (frameOf xs) h [] (leaveQ E [.cell 0 25] Q)) : CallP E 58 xs h Q :=
  CallP.enterQ (fn := Try.f58) (fn_get Try.func58) (code := Try.f58.body.get rfl) rfl rfl rfl (by kernel_rfl) rfl (fun _ => rfl) hl w
theorem can58 : callable E 58 = true := callable_get Try.func58 rfl rfl
def c60 : C := (.seq (.ops [⟨(some 6),.mov (.const (.bool false)),none⟩])
 (.seq (.seq (.ops [⟨(some 9),.mov (.tmp 2),none⟩,
 ⟨(some 10),.lenS (.tmp 9),none⟩,
 ⟨(some 11),.mov (.const (.int .i64 0)),none⟩])
 (.block 0 (.loop (.seq (.ops [⟨(some 12),.ar .i64 .lss (.tmp 11) (.tmp 10),none⟩])
 (.seq (.cond (.tmp 12) .skip
 (.exit 0))
 (.seq (.block 1 (.seq (.ops [⟨(some 13),.idxS 1 (.tmp 9) (.tmp 11),none⟩,
 ⟨(some 14),.load1 (.tmp 13),none⟩,
 ⟨(some 8),.mov (.tmp 14),none⟩])
 (.seq (.ops [⟨(some 15),.mov (.tmp 8),none⟩,
 ⟨(some 16),.mov (.tmp 0),none⟩,
 ⟨(some 17),.ar .i64 .lss (.tmp 15) (.tmp 16),none⟩,
 ⟨(some 18),.mov (.tmp 17),none⟩,
 ⟨(some 19),.mov (.tmp 8),(some (18,false))⟩,
 ⟨(some 20),.mov (.tmp 1),(some (18,false))⟩,
 ⟨(some 21),.ar .i64 .gtr (.tmp 19) (.tmp 20),(some (18,false))⟩,
 ⟨(some 22),.pick (.tmp 18) (.const (.bool true)) (.tmp 21),none⟩])
 (.cond (.tmp 22) (.seq (.ops [⟨(some 6),.mov (.const (.bool false)),none⟩])
 .ret)
 .skip))))
 (.ops [⟨(some 23),.ar .i64 .add (.tmp 11) (.const (.int .i64 1)),none⟩,
 ⟨(some 11),.mov (.tmp 23),none⟩])))))))
 (.seq (.ops [⟨(some 6),.mov (.const (.bool true)),none⟩])
 .ret)))
theorem enter60 {xs : List Value} {h : Hp} {Q : Value → Hp → Prop} (hl : xs.length ≤ 24) (w : wq E 24 none c60 (frameOf xs) h [] (leaveQ E [.tmp 6] Q)) : CallP E 60 xs h Q :=
  CallP.enterQ (fn := Try.f60) (fn_get Try.func60) (code := Try.f60.body.get rfl) rfl rfl rfl (by kernel_rfl) rfl (fun _ => rfl) hl w
theorem can60 : callable E 60 = true := callable_get Try.func60 rfl rfl
def c61 : C := (.seq (.ops [⟨(some 4),.mov (.const (.int .i64 0)),none⟩])
 (.seq (.seq (.ops [⟨(some 9),.mov (.tmp 0),none⟩,
 ⟨(some 10),.lenS (.tmp 9),none⟩,
 ⟨(some 11),.mov (.const (.int .i64 0)),none⟩])
 (.block 0 (.loop (.seq (.ops [⟨(some 12),.ar .i64 .lss (.tmp 11) (.tmp 10),none⟩])
 (.seq (.cond (.tmp 12) .skip
 (.exit 0))
 (.seq (.block 1 (.seq (.ops [⟨(some 13),.mov (.tmp 11),none⟩,
 ⟨(some 14),.idxS 1 (.tmp 9) (.tmp 11),none⟩,
 ⟨(some 15),.load1 (.tmp 14),none⟩,
 ⟨(some 5),.mov (.tmp 13),none⟩,
 ⟨(some 6),.mov (.tmp 15),none⟩])
 (.seq (.seq (.ops [⟨(some 16),.mov (.tmp 5),none⟩,
 ⟨(some 17),.mov (.tmp 1),none⟩,
 ⟨(some 18),.lenS (.tmp 17),none⟩,
 ⟨(some 19),.ar .i64 .geq (.tmp 16) (.tmp 18),none⟩])
 (.cond (.tmp 19) (.seq (.ops [⟨(some 4),.mov (.const (.int .i64 1)),none⟩])
 .ret)
 .skip))
 (.seq (.ops [⟨(some 20),.mov (.tmp 1),none⟩,
 ⟨(some 21),.mov (.tmp 5),none⟩,
 ⟨(some 22),.idxS 1 (.tmp 20) (.tmp 21),none⟩,
 ⟨(some 23),.load1 (.tmp 22),none⟩,
 ⟨(some 7),.mov (.tmp 23),none⟩])
 (.seq (.ops [⟨(some 24),.mov (.tmp 6),none⟩,
 ⟨(some 25),.mov (.tmp 7),none⟩,
 ⟨(some 26),.call 89 [(.tmp 24),(.tmp 25)],none⟩,
 ⟨(some 8),.mov (.tmp 26),none⟩])
 (.seq (.ops [⟨(some 27),.mov (.tmp 8),none⟩,
 ⟨(some 28),.ar .i64 .neq (.tmp 27) (.const (.int .i64 0)),none⟩])
 (.cond (.tmp 28) (.seq (.ops [⟨(some 29),.mov (.tmp 8),none⟩,
 ⟨(some 4),.mov (.tmp 29),none⟩])
 .ret)
 .skip)))))))
 (.ops [⟨(some 30),.ar .i64 .add (.tmp 11) (.const (.int .i64 1)),none⟩,
 ⟨(some 11),.mov (.tmp 30),none⟩])))))))
 (.seq (.seq (.ops [⟨(some 31),.mov (.tmp 0),none⟩,
 ⟨(some 32),.lenS (.tmp 31),none⟩,
 ⟨(some 33),.mov (.tmp 1),none⟩,
 ⟨(some 34),.lenS (.tmp 33),none⟩,
 ⟨(some 35),.ar .i64 .lss (.tmp 32) (.tmp 34),none⟩])
 (.cond (.tmp 35) (.seq (.ops [⟨(some 4),.mov (.const (.int .i64 (-1))),none⟩])
 .ret)
 .skip))
 (.seq (.ops [⟨(some 4),.mov (.const (.int .i64 0)),none⟩])
 .ret))))
theorem enter61 {xs : List Value} {h : Hp} {Q : Value → Hp → Prop} (hl : xs.length ≤ 36) (w : wq E 36 none c61 (frameOf xs) h [] (leaveQ E [.tmp 4] Q)) : CallP E 61 xs h Q :=
  CallP.enterQ (fn := Try.f61) (fn_get Try.func61) (code := Try.f61.body.get rfl) rfl rfl rfl (by kernel_rfl) rfl (fun _ => rfl) hl w
theorem can61 : callable E 61 = true := callable_get Try.func61 rfl rfl
def c62 : C := (.seq (.ops [⟨(some 1),.box 36 (.tmp 0),none⟩,
 ⟨(some 2),.mov (.const (.bool false)),none⟩])
 (.seq (.ops [⟨(some 3),.fldA 0 (.tmp 1),none⟩,
 ⟨(some 4),.load1 (.tmp 3),none⟩,
 ⟨(some 5),.lenS (.tmp 4),none⟩,
 ⟨(some 6),.ar .i64 .geq (.tmp 5) (.const (.int .i64 1)),none⟩,
 ⟨(some 7),.mov (.tmp 6),none⟩,
 ⟨(some 8),.fldA 0 (.tmp 1),(some (7,true))⟩,
 ⟨(some 9),.load1 (.tmp 8),(some (7,true))⟩,
 ⟨(some 10),.lenS (.tmp 9),(some (7,true))⟩,
 ⟨(some 11),.ar .i64 .leq (.tmp 10) (.const (.int .i64 2)),(some (7,true))⟩,
 ⟨(some 12),.pick (.tmp 7) (.tmp 11) (.const (.bool false)),none⟩,
 ⟨(some 13),.mov (.tmp 12),none⟩,
 ⟨(some 14),.fldA 0 (.tmp 1),(some (13,true))⟩,
 ⟨(some 15),.load1 (.tmp 14),(some (13,true))⟩,
 ⟨(some 16),.call 60 [(.const (.int .i64 (-5))),(.const (.int .i64 5)),(.tmp 15)],(some (13,true))⟩,
 ⟨(some 17),.pick (.tmp 13) (.tmp 16) (.const (.bool false)),none⟩,
 ⟨(some 18),.mov (.tmp 17),none⟩,
 ⟨(some 19),.fldA 1 (.tmp 1),(some (18,true))⟩,
 ⟨(some 20),.load1 (.tmp 19),(some (18,true))⟩,
 ⟨(some 21),.slit 3 1 [(.int .i64 0)] [(0,1,(.tmp 20))],(some (18,true))⟩,
 ⟨(some 22),.call 60 [(.const (.int .i64 (-9))),(.const (.int .i64 9)),(.tmp 21)],(some (18,true))⟩,
 ⟨(some 23),.pick (.tmp 18) (.tmp 22) (.const (.bool false)),none⟩,
 ⟨(some 24),.mov (.tmp 23),none⟩,
 ⟨(some 25),.fldA 2 (.tmp 1),(some (24,true))⟩,
 ⟨(some 26),.load1 (.tmp 25),(some (24,true))⟩,
 ⟨(some 27),.slit 3 1 [(.int .i64 0)] [(0,1,(.tmp 26))],(some (24,true))⟩,
 ⟨(some 28),.call 60 [(.const (.int .i64 0)),(.const (.int .i64 9)),(.tmp 27)],(some (24,true))⟩,
 ⟨(some 29),.pick (.tmp 24) (.tmp 28) (.const (.bool false)),none⟩,
 ⟨(some 2),.mov (.tmp 29),none⟩])
 .ret))
theorem enter62 {xs : List Value} {h : Hp} {Q : Value → Hp → Prop} (hl : xs.length ≤ 30) (w : wq E 30 none c62 (frameOf xs) h [] (leaveQ E [.tmp 2] Q)) : CallP E 62 xs h Q :=
  CallP.enterQ (fn := Try.f62) (fn_get Try.func62) (code := Try.f62.body.get rfl) rfl rfl rfl (by kernel_rfl) rfl (fun _ => rfl) hl w
theorem can62 : callable E 62 = true := callable_get Try.func62 rfl rfl
def c63 : C := (.seq (.ops [⟨(some 2),.mov (.const (.slice none 0 0)),none⟩])
 (.seq (.ops [⟨(some 3),.mov (.const (.slice none 0 0)),none⟩])
 (.seq (.seq (.ops [⟨(some 7),.mov (.const (.int .i64 0)),none⟩])
 (.block 0 (.loop (.seq (.ops [⟨(some 8),.ar .i64 .lss (.tmp 7) (.const (.int .i64 10)),none⟩])
 (.seq (.cond (.tmp 8) .skip
 (.exit 0))
 (.seq (.block 1 (.seq (.ops [⟨(some 9),.mov (.tmp 7),none⟩,
 ⟨(some 4),.mov (.tmp 9),none⟩])
 (.seq (.ops [⟨(some 10),.mov (.const (.int .i64 0)),none⟩])
 (.block 2 (.loop (.seq (.ops [⟨(some 11),.ar .i64 .lss (.tmp 10) (.const (.int .i64 10)),none⟩])
 (.seq (.cond (.tmp 11) .skip
 (.exit 2))
 (.seq (.block 3 (.seq (.ops [⟨(some 12),.mov (.tmp 10),none⟩,
 ⟨(some 5),.mov (.tmp 12),none⟩])
 (.seq (.ops [⟨(some 13),.mov (.tmp 4),none⟩,
 ⟨(some 14),.mov (.tmp 5),none⟩,
 ⟨(some 15),.slit 3 2 [(.int .i64 0),(.int .i64 0)] [(0,1,(.tmp 13)),(1,1,(.tmp 14))],none⟩,
 ⟨(some 16),.mov (.tmp 0),none⟩,
 ⟨(some 17),.cutS 1 (.tmp 15) none (some (.tmp 16)) none,none⟩,
 ⟨(some 6),.mov (.tmp 17),none⟩])
 (.seq (.ops [⟨(some 18),.mov (.tmp 6),none⟩,
 ⟨(some 19),.mov (.tmp 0),none⟩,
 ⟨(some 20),.call 70 [(.tmp 18),(.tmp 19)],none⟩,
 ⟨(some 21),.mov (.tmp 20),none⟩,
 ⟨(some 22),.mov (.tmp 0),(some (21,true))⟩,
 ⟨(some 23),.ar .i64 .gtr (.tmp 22) (.const (.int .i64 1)),(some (21,true))⟩,
 ⟨(some 24),.mov (.tmp 23),(some (21,true))⟩,
 ⟨(some 25),.mov (.tmp 5),(some (24,false))⟩,
 ⟨(some 26),.ar .i64 .eql (.tmp 25) (.const (.int .i64 0)),(some (24,false))⟩,
 ⟨(some 27),.pick (.tmp 24) (.const (.bool true)) (.tmp 26),(some (21,true))⟩,
 ⟨(some 28),.pick (.tmp 21) (.tmp 27) (.const (.bool false)),none⟩])
 (.cond (.tmp 28) (.ops [⟨(some 29),.mov (.tmp 3),none⟩,
 ⟨(some 30),.mov (.tmp 6),none⟩,
 ⟨(some 31),.slit 22 1 [(.slice none 0 0)] [(0,1,(.tmp 30))],none⟩,
 ⟨(some 32),.append 22 1 24 (.tmp 29) (.tmp 31),none⟩,
 ⟨(some 3),.mov (.tmp 32),none⟩])
 .skip)))))
 (.ops [⟨(some 33),.ar .i64 .add (.tmp 10) (.const (.int .i64 1)),none⟩,
 ⟨(some 10),.mov (.tmp 33),none⟩])))))))))
 (.ops [⟨(some 34),.ar .i64 .add (.tmp 7) (.const (.int .i64 1)),none⟩,
 ⟨(some 7),.mov (.tmp 34),none⟩])))))))
 (.seq (.ops [⟨(some 35),.mov (.tmp 3),none⟩,
 ⟨(some 2),.mov (.tmp 35),none⟩])
 .ret))))
theorem enter63 {xs : List Value} {h : Hp} {Q : Value → Hp → Prop} (hl : xs.length ≤ 36) (w : wq E 36 none c63 (frameOf xs) h [] (leaveQ E [.tmp 2] Q)) : CallP E 63 xs h Q :=
  CallP.enterQ (fn := Try.f63) (fn_get Try.func63) (code := Try.f63.body.get rfl) rfl rfl rfl (by kernel_rfl) rfl (fun _ => rfl) hl w
theorem can63 : callable E 63 = true := callable_get Try.func63 rfl rfl
def c64 : C := (.seq (.ops [⟨(some 2),.box 36 (.tmp 0),none⟩,
 ⟨(some 4),.mov (.const (.bool false)),none⟩])
 (.seq (.ops [⟨(some 9),.mov (.tmp 1),none⟩,
 ⟨(some 10),.lenS (.tmp 9),none⟩,
 ⟨(some 11),.make 3 [(.int .i64 0)] 8 (.tmp 10) (.tmp 10),none⟩,
 ⟨(some 5),.mov (.tmp 11),none⟩])
 (.seq (.seq (.ops [⟨(some 12),.mov (.tmp 1),none⟩,
 ⟨(some 13),.lenS (.tmp 12),none⟩,
 ⟨(some 14),.mov (.const (.int .i64 0)),none⟩])
 (.block 0 (.loop (.seq (.ops [⟨(some 15),.ar .i64 .lss (.tmp 14) (.tmp 13),none⟩])
 (.seq (.cond (.tmp 15) .skip
 (.exit 0))
 (.seq (.block 1 (.seq (.ops [⟨(some 16),.mov (.tmp 14),none⟩,
 ⟨(some 17),.idxS 1 (.tmp 12) (.tmp 14),none⟩,
 ⟨(some 18),.load1 (.tmp 17),none⟩,
 ⟨(some 6),.mov (.tmp 16),none⟩,
 ⟨(some 7),.mov (.tmp 18),none⟩])
 (.ops [⟨(some 19),.mov (.tmp 5),none⟩,
 ⟨(some 20),.mov (.tmp 6),none⟩,
 ⟨(some 21),.fldA 0 (.tmp 2),none⟩,
 ⟨(some 22),.load1 (.tmp 21),none⟩,
 ⟨(some 23),.mov (.tmp 6),none⟩,
 ⟨(some 24),.idxS 1 (.tmp 22) (.tmp 23),none⟩,
 ⟨(some 25),.load1 (.tmp 24),none⟩,
 ⟨(some 26),.mov (.tmp 7),none⟩,
 ⟨(some 27),.ar .i64 .mul (.tmp 25) (.tmp 26),none⟩,
 ⟨(some 28),.idxS 1 (.tmp 19) (.tmp 20),none⟩,
 ⟨none,.store 1 (.tmp 28) (.tmp 27),none⟩])))
 (.ops [⟨(some 29),.ar .i64 .add (.tmp 14) (.const (.int .i64 1)),none⟩,
 ⟨(some 14),.mov (.tmp 29),none⟩])))))))
 (.seq (.draw [⟨(some 30),.mov (.tmp 5),none⟩,
 ⟨(some 31),.call 90 [(.tmp 30)],none⟩,
 ⟨(some 32),.fldA 1 (.tmp 2),none⟩,
 ⟨(some 33),.load1 (.tmp 32),none⟩,
 ⟨(some 34),.ar .i64 .sub (.tmp 31) (.tmp 33),none⟩,
 ⟨(some 8),.mov (.tmp 34),none⟩]
 [⟨false,false,[false,false,false,false,false,false],[false,false,false,false,false,false]⟩,
 ⟨true,false,[false,false,false,false,false,false],[false,true,false,false,false,false]⟩,
 ⟨false,true,[false,false,false,false,false,false],[false,true,false,false,false,false]⟩,
 ⟨false,true,[false,false,false,false,false,false],[false,true,false,false,false,false]⟩,
 ⟨false,false,[false,true,false,false,false,false],[false,true,false,false,false,false]⟩,
 ⟨false,false,[false,true,false,false,false,false],[false,true,false,false,false,false]⟩])
 (.seq (.seq (.ops [⟨(some 35),.fldA 2 (.tmp 2),none⟩,
 ⟨(some 36),.load1 (.tmp 35),none⟩,
 ⟨(some 37),.ar .i64 .eql (.tmp 36) (.const (.int .i64 0)),none⟩])
 (.cond (.tmp 37) (.seq (.ops [⟨(some 38),.mov (.tmp 8),none⟩,
 ⟨(some 39),.ar .i64 .geq (.tmp 38) (.const (.int .i64 0)),none⟩,
 ⟨(some 4),.mov (.tmp 39),none⟩])
 .ret)
 .skip))
 (.seq (.ops [⟨(some 40),.mov (.tmp 8),none⟩,
 ⟨(some 41),.fldA 2 (.tmp 2),none⟩,
 ⟨(some 42),.load1 (.tmp 41),none⟩,
 ⟨(some 43),.ar .i64 .rem (.tmp 40) (.tmp 42),none⟩,
 ⟨(some 44),.ar .i64 .eql (.tmp 43) (.const (.int .i64 0)),none⟩,
 ⟨(some 4),.mov (.tmp 44),none⟩])
 .ret))))))
theorem enter64 {xs : List Value} {h : Hp} {Q : Value → Hp → Prop} (hl : xs.length ≤ 45) (w : wq E 45 none c64 (frameOf xs) h [] (leaveQ E [.tmp 4] Q)) : CallP E 64 xs h Q :=
  CallP.enterQ (fn := Try.f64) (fn_get Try.func64) (code := Try.f64.body.get rfl) rfl rfl rfl (by kernel_rfl) rfl (fun _ => rfl) hl w
theorem can64 : callable E 64 = true := callable_get Try.func64 rfl rfl
def c65 : C := (.seq (.ops [⟨(some 3),.box 25 (.tmp 0),none⟩,
 ⟨(some 4),.box 104 (.tmp 1),none⟩,
 ⟨(some 6),.mov (.const (.bool false)),none⟩])
 (.seq (.draw [⟨(some 7),.loadN 2 (.tmp 4),none⟩,
 ⟨(some 8),.loadN 4 (.tmp 3),none⟩,
 ⟨(some 9),.loadN 2 (.tmp 4),none⟩,
 ⟨(some 10),.mov (.tmp 2),none⟩,
 ⟨(some 11),.call 93 [(.tmp 8),(.tmp 9),(.tmp 10)],none⟩,
 ⟨(some 12),.call 92 [(.tmp 7),(.tmp 11)],none⟩,
 ⟨(some 13),.call 91 [(.tmp 12),(.const (.bool false))],none⟩,
 ⟨(some 14),.not (.tmp 13),none⟩,
 ⟨(some 6),.mov (.tmp 14),none⟩]
 [⟨false,true,[false,false,false,false,false,false,false,false,false],[false,false,false,false,true,false,false,false,false]⟩,
 ⟨false,false,[false,false,false,false,false,false,false,false,false],[false,false,false,false,false,false,false,false,false]⟩,
 ⟨false,false,[false,false,false,false,false,false,false,false,false],[false,false,false,false,false,false,false,false,false]⟩,
 ⟨false,false,[false,false,false,false,false,false,false,false,false],[false,false,false,false,false,false,false,false,false]⟩,
 ⟨true,false,[false,false,false,false,false,false,false,false,false],[false,false,false,false,true,false,false,false,false]⟩,
 ⟨true,false,[false,false,false,false,true,false,false,false,false],[false,false,false,false,true,true,false,false,false]⟩,
 ⟨true,false,[false,false,false,false,true,true,false,false,false],[false,false,false,false,true,true,true,false,false]⟩,
 ⟨false,false,[false,false,false,false,true,true,true,false,false],[false,false,false,false,true,true,true,false,false]⟩,
 ⟨false,false,[false,false,false,false,true,true,true,false,false],[false,false,false,false,true,true,true,false,false]⟩])
 .ret))
theorem enter65 {xs : List Value} {h : Hp} {Q : Value → Hp → Prop} (hl : xs.length ≤ 15) (w : wq E 15 none c65 (frameOf xs) h [] (leaveQ E [.tmp 6] Q)) : CallP E 65 xs h Q :=
  CallP.enterQ (fn := Try.f65) (fn_get Try.func65) (code := Try.f65.body.get rfl) rfl rfl rfl (by kernel_rfl) rfl (fun _ => rfl) hl w
theorem can65 : callable E 65 = true := callable_get Try.func65 rfl rfl
def c66 : C := (.seq (.ops [⟨(some 2),.box 25 (.tmp 0),none⟩,
 ⟨(some 3),.box 107 (.tmp 1),none⟩,
 ⟨(some 4),.alloc 104 [(.slice none 0 0),(.slice none 0 0)],none⟩])
 (.seq (.ops [⟨(some 12),.aggr [(.slice none 0 0),(.slice none 0 0)] [],none⟩,
 ⟨(some 5),.alloc 104 [(.slice none 0 0),(.slice none 0 0)],none⟩,
 ⟨none,.store 2 (.tmp 5) (.tmp 12),none⟩])
 (.seq (.ops [⟨(some 13),.newMap,none⟩,
 ⟨(some 6),.alloc 137 [(.map none)],none⟩,
 ⟨none,.store 1 (.tmp 6) (.tmp 13),none⟩])
 (.seq (.ops [⟨(some 14),.func (.func 94) [] [(.tmp 6),(.tmp 5)],none⟩,
 ⟨(some 7),.alloc 121 [.nilFunc],none⟩,
 ⟨none,.store 1 (.tmp 7) (.tmp 14),none⟩])
 (.seq (.ops [⟨(some 15),.load1 (.tmp 7),none⟩,
 ⟨(some 16),.loadN 5 (.tmp 3),none⟩,
 ⟨(some 17),.callv (.tmp 15) [(.tmp 16)],none⟩])
 (.seq (.seq (.ops [⟨(some 8),.alloc 3 [(.int .i64 0)],none⟩,
 ⟨none,.store 1 (.tmp 8) (.const (.int .i64 0)),none⟩])
 (.block 0 (.loop (.seq (.seq (.ops [⟨(some 18),.load1 (.tmp 8),none⟩,
 ⟨(some 19),.fldA 0 (.tmp 5),none⟩,
 ⟨(some 20),.load1 (.tmp 19),none⟩,
 ⟨(some 21),.lenS (.tmp 20),none⟩,
 ⟨(some 22),.ar .i64 .lss (.tmp 18) (.tmp 21),none⟩])
 (.cond (.tmp 22) .skip
 (.exit 0)))
 (.seq (.block 1 (.seq (.ops [⟨(some 25),.loadN 4 (.tmp 2),none⟩,
 ⟨(some 26),.fldA 0 (.tmp 5),none⟩,
 ⟨(some 27),.load1 (.tmp 26),none⟩,
 ⟨(some 28),.load1 (.tmp 8),none⟩,
 ⟨(some 29),.idxS 5 (.tmp 27) (.tmp 28),none⟩,
 ⟨(some 30),.loadN 5 (.tmp 29),none⟩,
 ⟨(some 31),.call 95 [(.tmp 25),(.tmp 30)],none⟩])
 (.block 2 (.range (.tmp 31) ⟨[32,33]⟩ (.ops [⟨(some 10),.alloc 107 [(.int .i64 0),(.int .i64 0),(.int .i64 0),(.int .i64 0),(.int .i64 0)],none⟩,
 ⟨none,.store 5 (.tmp 10) (.tmp 33),none⟩])
 (.block 3 (.seq (.ops [⟨(some 34),.load1 (.tmp 7),none⟩,
 ⟨(some 35),.loadN 5 (.tmp 10),none⟩,
 ⟨(some 36),.callv (.tmp 34) [(.tmp 35)],none⟩,
 ⟨(some 11),.mov (.tmp 36),none⟩])
 (.draw [⟨(some 37),.fldA 1 (.tmp 5),none⟩,
 ⟨(some 38),.load1 (.tmp 37),none⟩,
 ⟨(some 39),.mov (.tmp 11),none⟩,
 ⟨(some 40),.fldA 1 (.tmp 5),none⟩,
 ⟨(some 41),.load1 (.tmp 40),none⟩,
 ⟨(some 42),.mov (.tmp 11),none⟩,
 ⟨(some 43),.idxS 1 (.tmp 41) (.tmp 42),none⟩,
 ⟨(some 44),.load1 (.tmp 43),none⟩,
 ⟨(some 45),.load1 (.tmp 8),none⟩,
 ⟨(some 46),.slit 3 1 [(.int .i64 0)] [(0,1,(.tmp 45))],none⟩,
 ⟨(some 47),.append 3 1 8 (.tmp 44) (.tmp 46),none⟩,
 ⟨(some 48),.idxS 1 (.tmp 38) (.tmp 39),none⟩,
 ⟨none,.store 1 (.tmp 48) (.tmp 47),none⟩]
 [⟨false,true,[false,false,false,false,false,false,false,false,false,false,false,false,false],[false,false,false,false,false,false,false,false,false,true,true,false,false]⟩,
 ⟨false,true,[false,false,false,false,false,false,false,false,false,false,false,false,false],[false,false,false,false,false,false,false,false,false,true,true,false,false]⟩,
 ⟨false,true,[false,false,false,false,false,false,false,false,false,false,false,false,false],[false,false,false,false,false,false,false,false,false,true,true,false,false]⟩,
 ⟨false,true,[false,false,false,false,false,false,false,false,false,false,false,false,false],[false,false,false,false,false,false,false,false,false,true,false,false,false]⟩,
 ⟨false,true,[false,false,false,false,false,false,false,false,false,false,false,false,false],[false,false,false,false,false,false,false,false,false,true,false,false,false]⟩,
 ⟨false,true,[false,false,false,false,false,false,false,false,false,false,false,false,false],[false,false,false,false,false,false,false,false,false,true,false,false,false]⟩,
 ⟨false,true,[false,false,false,false,false,false,false,false,false,false,false,false,false],[false,false,false,false,false,false,false,false,false,true,false,false,false]⟩,
 ⟨false,true,[false,false,false,false,false,false,false,false,false,false,false,false,false],[false,false,false,false,false,false,false,false,false,true,false,false,false]⟩,
 ⟨false,false,[false,false,false,false,false,false,false,false,false,false,false,false,false],[false,false,false,false,false,false,false,false,false,false,false,false,false]⟩,
 ⟨true,false,[false,false,false,false,false,false,false,false,false,false,false,false,false],[false,false,false,false,false,false,false,false,false,true,false,false,false]⟩,
 ⟨true,false,[false,false,false,false,false,false,false,false,false,true,false,false,false],[false,false,false,false,false,false,false,false,false,true,true,false,false]⟩,
 ⟨false,false,[false,false,false,false,false,false,false,false,false,true,true,false,false],[false,false,false,false,false,false,false,false,false,true,true,false,false]⟩,
 ⟨true,false,[false,false,false,false,false,false,false,false,false,true,true,false,false],[false,false,false,false,false,false,false,false,false,true,true,false,true]⟩])))))))
 (.seq (.seq (.ops [⟨(some 49),.load1 (.tmp 8),none⟩])
 (.ops [⟨(some 8),.alloc 3 [(.int .i64 0)],none⟩,
 ⟨none,.store 1 (.tmp 8) (.tmp 49),none⟩]))
 (.ops [⟨(some 23),.load1 (.tmp 8),none⟩,
 ⟨(some 24),.ar .i64 .add (.tmp 23) (.const (.int .i64 1)),none⟩,
 ⟨none,.store 1 (.tmp 8) (.tmp 24),none⟩])))))))
 (.seq (.ops [⟨(some 50),.loadN 2 (.tmp 5),none⟩,
 ⟨none,.store 2 (.tmp 4) (.tmp 50),none⟩])
 .ret)))))))
theorem enter66 {xs : List Value} {h : Hp} {Q : Value → Hp → Prop} (hl : xs.length ≤ 51) (w : wq E 51 none c66 (frameOf xs) h [] (leaveQ E [.cell 4 104] Q)) : CallP E 66 xs h Q :=
  CallP.enterQ (fn := Try.f66) (fn_get Try.func66) (code := Try.f66.body.get rfl) rfl rfl rfl (by kernel_rfl) rfl (fun _ => rfl) hl w
theorem can66 : callable E 66 = true := callable_get Try.func66 rfl rfl
def c67 : C := (.seq (.ops [⟨(some 2),.box 25 (.tmp 0),none⟩,
 ⟨(some 4),.alloc 107 [(.int .i64 0),(.int .i64 0),(.int .i64 0),(.int .i64 0),(.int .i64 0)],none⟩])
 (.seq (.ops [⟨(some 5),.alloc 107 [(.int .i64 0),(.int .i64 0),(.int .i64 0),(.int .i64 0),(.int .i64 0)],none⟩])
 (.seq (.seq (.ops [⟨(some 8),.mov (.tmp 1),none⟩,
 ⟨(some 9),.lenS (.tmp 8),none⟩,
 ⟨(some 10),.mov (.const (.int .i64 0)),none⟩])
 (.block 0 (.loop (.seq (.ops [⟨(some 11),.ar .i64 .lss (.tmp 10) (.tmp 9),none⟩])
 (.seq (.cond (.tmp 11) .skip
 (.exit 0))
 (.seq (.block 1 (.seq (.ops [⟨(some 12),.mov (.tmp 10),none⟩,
 ⟨(some 13),.idxS 1 (.tmp 8) (.tmp 10),none⟩,
 ⟨(some 14),.load1 (.tmp 13),none⟩,
 ⟨(some 6),.mov (.tmp 12),none⟩,
 ⟨(some 7),.mov (.tmp 14),none⟩])
 (.ops [⟨(some 15),.fldA 2 (.tmp 2),none⟩,
 ⟨(some 16),.load1 (.tmp 15),none⟩,
 ⟨(some 17),.mov (.tmp 6),none⟩,
 ⟨(some 18),.idxS 1 (.tmp 16) (.tmp 17),none⟩,
 ⟨(some 19),.load1 (.tmp 18),none⟩,
 ⟨(some 20),.idxA 5 1 (.tmp 5) (.tmp 19),none⟩,
 ⟨(some 21),.load1 (.tmp 20),none⟩,
 ⟨(some 22),.mov (.tmp 7),none⟩,
 ⟨(some 23),.ar .i64 .add (.tmp 21) (.tmp 22),none⟩,
 ⟨(some 24),.idxA 5 1 (.tmp 5) (.tmp 19),none⟩,
 ⟨none,.store 1 (.tmp 24) (.tmp 23),none⟩])))
 (.ops [⟨(some 25),.ar .i64 .add (.tmp 10) (.const (.int .i64 1)),none⟩,
 ⟨(some 10),.mov (.tmp 25),none⟩])))))))
 (.seq (.ops [⟨(some 26),.loadN 5 (.tmp 5),none⟩,
 ⟨none,.store 5 (.tmp 4) (.tmp 26),none⟩])
 .ret))))
theorem enter67 {xs : List Value} {h : Hp} {Q : Value → Hp → Prop} (hl : xs.length ≤ 27) (w : wq E 27 none c67 (frameOf xs) h [] (leaveQ E [.cell 4 107] Q)) : CallP E 67 xs h Q :=
  CallP.enterQ (fn := Try.f67) (fn_get Try.func67) (code := Try.f67.body.get rfl) rfl rfl rfl (by kernel_rfl) rfl (fun _ => rfl) hl w
theorem can67 : callable E 67 = true := callable_get Try.func67 rfl rfl
def c70 : C := (.seq (.ops [⟨(some 4),.mov (.const (.bool false)),none⟩])
 (.seq (.ops [⟨(some 5),.mov (.func 99),none⟩])
 (.seq (.seq (.ops [⟨(some 7),.mov (.tmp 0),none⟩,
 ⟨(some 8),.lenS (.tmp 7),none⟩,
 ⟨(some 9),.mov (.tmp 1),none⟩,
 ⟨(some 10),.ar .i64 .neq (.tmp 8) (.tmp 9),none⟩,
 ⟨(some 11),.mov (.tmp 10),none⟩,
 ⟨(some 12),.mov (.tmp 0),(some (11,false))⟩,
 ⟨(some 13),.mov (.tmp 5),(some (11,false))⟩,
 ⟨(some 14),.call 100 [(.tmp 12),(.tmp 13)],(some (11,false))⟩,
 ⟨(some 15),.pick (.tmp 11) (.const (.bool true)) (.tmp 14),none⟩])
 (.cond (.tmp 15) (.seq (.ops [⟨(some 4),.mov (.const (.bool false)),none⟩])
 .ret)
 .skip))
 (.seq (.ops [⟨(some 16),.mov (.tmp 0),none⟩,
 ⟨(some 17),.call 90 [(.tmp 16)],none⟩,
 ⟨(some 6),.mov (.tmp 17),none⟩])
 (.seq (.ops [⟨(some 18),.mov (.tmp 6),none⟩,
 ⟨(some 19),.ar .i64 .geq (.tmp 18) (.const (.int .i64 1)),none⟩,
 ⟨(some 20),.mov (.tmp 19),none⟩,
 ⟨(some 21),.mov (.tmp 6),(some (20,true))⟩,
 ⟨(some 22),.ar .i64 .leq (.tmp 21) (.const (.int .i64 9)),(some (20,true))⟩,
 ⟨(some 23),.pick (.tmp 20) (.tmp 22) (.const (.bool false)),none⟩,
 ⟨(some 4),.mov (.tmp 23),none⟩])
 .ret)))))
theorem enter70 {xs : List Value} {h : Hp} {Q : Value → Hp → Prop} (hl : xs.length ≤ 24) (w : wq E 24 none c70 (frameOf xs) h [] (leaveQ E [.tmp 4] Q)) : CallP E 70 xs h Q :=
  CallP.enterQ (fn := Try.f70) (fn_get Try.func70) (code := Try.f70.body.get rfl) rfl rfl rfl (by kernel_rfl) rfl (fun _ => rfl) hl w
theorem can70 : callable E 70 = true := callable_get Try.func70 rfl rfl
def c71 : C := (.seq (.ops [⟨(some 2),.mov (.const (.slice none 0 0)),none⟩])
 (.seq (.seq (.ops [⟨(some 3),.mov (.tmp 0),none⟩,
 ⟨(some 4),.raw (.binOp .eql 22 (.tmp 3) (.const (.slice none 0 0)) 22) 4,none⟩])
 (.cond (.tmp 4) (.seq (.ops [⟨(some 2),.mov (.const (.slice none 0 0)),none⟩])
 .ret)
 .skip))
 (.seq (.ops [⟨(some 5),.slit 3 0 [] [],none⟩,
 ⟨(some 6),.mov (.tmp 0),none⟩,
 ⟨(some 7),.append 3 1 8 (.tmp 5) (.tmp 6),none⟩,
 ⟨(some 2),.mov (.tmp 7),none⟩])
 .ret)))
theorem enter71 {xs : List Value} {h : Hp} {Q : Value → Hp → Prop} (hl : xs.length ≤ 8) (w : wq E 8 none c71 (frameOf xs) h [] (leaveQ E [.tmp 2] Q)) : CallP E 71 xs h Q :=
  CallP.enterQ (fn := Try.f71) (fn_get Try.func71) (code := Try.f71.body.get rfl) rfl rfl rfl (by kernel_rfl) rfl (fun _ => rfl) hl w
theorem can71 : callable E 71 = true := callable_get Try.func71 rfl rfl
def c74 : C := (.seq (.ops [⟨(some 2),.box 107 (.tmp 0),none⟩,
 ⟨(some 3),.box 96 (.tmp 1),none⟩,
 ⟨(some 4),.mov (.const (.bool false)),none⟩])
 (.seq (.ops [⟨(some 7),.idxA 4 1 (.tmp 3) (.const (.int .i64 0)),none⟩,
 ⟨(some 8),.load1 (.tmp 7),none⟩,
 ⟨(some 9),.idxA 4 1 (.tmp 3) (.const (.int .i64 1)),none⟩,
 ⟨(some 10),.load1 (.tmp 9),none⟩,
 ⟨(some 5),.mov (.tmp 8),none⟩,
 ⟨(some 6),.mov (.tmp 10),none⟩])
 (.seq (.seq (.ops [⟨(some 11),.mov (.tmp 5),none⟩,
 ⟨(some 12),.mov (.tmp 6),none⟩,
 ⟨(some 13),.ar .i64 .eql (.tmp 11) (.tmp 12),none⟩])
 (.cond (.tmp 13) (.seq (.ops [⟨(some 14),.mov (.tmp 5),none⟩,
 ⟨(some 15),.idxA 5 1 (.tmp 2) (.tmp 14),none⟩,
 ⟨(some 16),.load1 (.tmp 15),none⟩,
 ⟨(some 17),.ar .i64 .gtr (.tmp 16) (.const (.int .i64 1)),none⟩,
 ⟨(some 4),.mov (.tmp 17),none⟩])
 .ret)
 .skip))
 (.seq (.ops [⟨(some 18),.mov (.tmp 5),none⟩,
 ⟨(some 19),.idxA 5 1 (.tmp 2) (.tmp 18),none⟩,
 ⟨(some 20),.load1 (.tmp 19),none⟩,
 ⟨(some 21),.ar .i64 .gtr (.tmp 20) (.const (.int .i64 0)),none⟩,
 ⟨(some 22),.mov (.tmp 21),none⟩,
 ⟨(some 23),.mov (.tmp 6),(some (22,true))⟩,
 ⟨(some 24),.idxA 5 1 (.tmp 2) (.tmp 23),(some (22,true))⟩,
 ⟨(some 25),.load1 (.tmp 24),(some (22,true))⟩,
 ⟨(some 26),.ar .i64 .gtr (.tmp 25) (.const (.int .i64 0)),(some (22,true))⟩,
 ⟨(some 27),.pick (.tmp 22) (.tmp 26) (.const (.bool false)),none⟩,
 ⟨(some 4),.mov (.tmp 27),none⟩])
 .ret))))
theorem enter74 {xs : List Value} {h : Hp} {Q : Value → Hp → Prop} (hl : xs.length ≤ 28) (w : wq E 28 none c74 (frameOf xs) h [] (leaveQ E [.tmp 4] Q)) : CallP E 74 xs h Q :=
  CallP.enterQ (fn := Try.f74) (fn_get Try.func74) (code := Try.f74.body.get rfl) rfl rfl rfl (by kernel_rfl) rfl (fun _ => rfl) hl w
theorem can74 : callable E 74 = true := callable_get Try.func74 rfl rfl
def c75 : C := (.seq (.ops [⟨(some 2),.box 107 (.tmp 0),none⟩,
 ⟨(some 3),.box 96 (.tmp 1),none⟩,
 ⟨(some 4),.alloc 107 [(.int .i64 0),(.int .i64 0),(.int .i64 0),(.int .i64 0),(.int .i64 0)],none⟩])
 (.seq (.ops [⟨(some 5),.idxA 4 1 (.tmp 3) (.const (.int .i64 0)),none⟩,
 ⟨(some 6),.load1 (.tmp 5),none⟩,
 ⟨(some 7),.idxA 5 1 (.tmp 2) (.tmp 6),none⟩,
 ⟨(some 8),.load1 (.tmp 7),none⟩,
 ⟨(some 9),.ar .i64 .sub (.tmp 8) (.const (.int .i64 1)),none⟩,
 ⟨(some 10),.idxA 5 1 (.tmp 2) (.tmp 6),none⟩,
 ⟨none,.store 1 (.tmp 10) (.tmp 9),none⟩])
 (.seq (.ops [⟨(some 11),.idxA 4 1 (.tmp 3) (.const (.int .i64 1)),none⟩,
 ⟨(some 12),.load1 (.tmp 11),none⟩,
 ⟨(some 13),.idxA 5 1 (.tmp 2) (.tmp 12),none⟩,
 ⟨(some 14),.load1 (.tmp 13),none⟩,
 ⟨(some 15),.ar .i64 .sub (.tmp 14) (.const (.int .i64 1)),none⟩,
 ⟨(some 16),.idxA 5 1 (.tmp 2) (.tmp 12),none⟩,
 ⟨none,.store 1 (.tmp 16) (.tmp 15),none⟩])
 (.seq (.ops [⟨(some 17),.idxA 4 1 (.tmp 3) (.const (.int .i64 2)),none⟩,
 ⟨(some 18),.load1 (.tmp 17),none⟩,
 ⟨(some 19),.idxA 5 1 (.tmp 2) (.tmp 18),none⟩,
 ⟨(some 20),.load1 (.tmp 19),none⟩,
 ⟨(some 21),.ar .i64 .add (.tmp 20) (.const (.int .i64 1)),none⟩,
 ⟨(some 22),.idxA 5 1 (.tmp 2) (.tmp 18),none⟩,
 ⟨none,.store 1 (.tmp 22) (.tmp 21),none⟩])
 (.seq (.ops [⟨(some 23),.idxA 4 1 (.tmp 3) (.const (.int .i64 3)),none⟩,
 ⟨(some 24),.load1 (.tmp 23),none⟩,
 ⟨(some 25),.idxA 5 1 (.tmp 2) (.tmp 24),none⟩,
 ⟨(some 26),.load1 (.tmp 25),none⟩,
 ⟨(some 27),.ar .i64 .add (.tmp 26) (.const (.int .i64 1)),none⟩,
 ⟨(some 28),.idxA 5 1 (.tmp 2) (.tmp 24),none⟩,
 ⟨none,.store 1 (.tmp 28) (.tmp 27),none⟩])
 (.seq (.ops [⟨(some 29),.loadN 5 (.tmp 2),none⟩,
 ⟨none,.store 5 (.tmp 4) (.tmp 29),none⟩])
 .ret))))))
theorem enter75 {xs : List Value} {h : Hp} {Q : Value → Hp → Prop} (hl : xs.length ≤ 30) (w : wq E 30 none c75 (frameOf xs) h [] (leaveQ E [.cell 4 107] Q)) : CallP E 75 xs h Q :=
  CallP.enterQ (fn := Try.f75) (fn_get Try.func75) (code := Try.f75.body.get rfl) rfl rfl rfl (by kernel_rfl) rfl (fun _ => rfl) hl w
theorem can75 : callable E 75 = true := callable_get Try.func75 rfl rfl
def c87 : C := (.seq (.ops [⟨(some 2),.alloc 25 [(.int .i64 0),(.slice none 0 0),(.slice none 0 0),(.slice none 0 0)],none⟩])
 (.seq (.ops [⟨(some 7),.mov (.tmp 0),none⟩,
 ⟨(some 8),.ar .i64 .add (.tmp 7) (.const (.int .i64 1)),none⟩,
 ⟨(some 9),.mov (.tmp 0),none⟩,
 ⟨(some 10),.ar .i64 .add (.tmp 9) (.const (.int .i64 1)),none⟩,
 ⟨(some 11),.make 3 [(.int .i64 0)] 8 (.tmp 10) (.tmp 10),none⟩,
 ⟨(some 12),.slit 3 1 [(.int .i64 0)] [(0,1,(.const (.int .i64 1)))],none⟩,
 ⟨(some 13),.aggr [(.int .i64 0),(.slice none 0 0),(.slice none 0 0),(.slice none 0 0)] [(0,1,(.tmp 8)),(1,1,(.tmp 11)),(2,1,(.tmp 12))],none⟩,
 ⟨(some 3),.alloc 25 [(.int .i64 0),(.slice none 0 0),(.slice none 0 0),(.slice none 0 0)],none⟩,
 ⟨none,.store 4 (.tmp 3) (.tmp 13),none⟩])
 (.seq (.ops [⟨(some 14),.fldA 1 (.tmp 3),none⟩,
 ⟨(some 15),.load1 (.tmp 14),none⟩,
 ⟨(some 16),.mov (.tmp 0),none⟩,
 ⟨(some 17),.idxS 1 (.tmp 15) (.tmp 16),none⟩,
 ⟨none,.store 1 (.tmp 17) (.const (.int .i64 1)),none⟩])
 (.seq (.seq (.ops [⟨(some 18),.fldA 0 (.tmp 3),none⟩,
 ⟨(some 19),.load1 (.tmp 18),none⟩,
 ⟨(some 20),.mov (.const (.int .i64 0)),none⟩])
 (.block 0 (.loop (.seq (.ops [⟨(some 21),.ar .i64 .lss (.tmp 20) (.tmp 19),none⟩])
 (.seq (.cond (.tmp 21) .skip
 (.exit 0))
 (.seq (.block 1 (.seq (.ops [⟨(some 22),.mov (.tmp 20),none⟩,
 ⟨(some 4),.mov (.tmp 22),none⟩])
 (.seq (.ops [⟨(some 23),.mov (.tmp 4),none⟩,
 ⟨(some 5),.mov (.tmp 23),none⟩])
 (.block 2 (.loop (.seq (.seq (.ops [⟨(some 24),.mov (.tmp 5),none⟩,
 ⟨(some 25),.fldA 0 (.tmp 3),none⟩,
 ⟨(some 26),.load1 (.tmp 25),none⟩,
 ⟨(some 27),.ar .i64 .lss (.tmp 24) (.tmp 26),none⟩])
 (.cond (.tmp 27) .skip
 (.exit 2)))
 (.seq (.block 3 (.seq (.ops [⟨(some 30),.mov (.tmp 4),none⟩,
 ⟨(some 31),.mov (.tmp 5),none⟩,
 ⟨(some 32),.ar .i64 .add (.tmp 30) (.tmp 31),none⟩,
 ⟨(some 6),.mov (.tmp 32),none⟩])
 (.block 4 (.seq (.ops [⟨(some 34),.mov (.tmp 6),none⟩,
 ⟨(some 35),.mov (.tmp 0),none⟩,
 ⟨(some 36),.ar .i64 .geq (.tmp 34) (.tmp 35),none⟩,
 ⟨(some 33),.mov (.tmp 36),none⟩])
 (.cond (.tmp 33) (.ops [⟨(some 37),.fldA 3 (.tmp 3),none⟩,
 ⟨(some 38),.load1 (.tmp 37),none⟩,
 ⟨(some 39),.mov (.tmp 4),none⟩,
 ⟨(some 40),.mov (.tmp 5),none⟩,
 ⟨(some 41),.mov (.tmp 0),none⟩,
 ⟨(some 42),.mov (.tmp 0),none⟩,
 ⟨(some 43),.aggr [(.int .i64 0),(.int .i64 0),(.int .i64 0),(.int .i64 0)] [(0,1,(.tmp 39)),(1,1,(.tmp 40)),(2,1,(.tmp 41)),(3,1,(.tmp 42))],none⟩,
 ⟨(some 44),.slit 96 1 [(.int .i64 0),(.int .i64 0),(.int .i64 0),(.int .i64 0)] [(0,4,(.tmp 43))],none⟩,
 ⟨(some 45),.append 96 4 32 (.tmp 38) (.tmp 44),none⟩,
 ⟨(some 46),.fldA 3 (.tmp 3),none⟩,
 ⟨none,.store 1 (.tmp 46) (.tmp 45),none⟩])
 (.seq (.ops [⟨(some 48),.mov (.tmp 4),none⟩,
 ⟨(some 49),.ar .i64 .gtr (.tmp 48) (.const (.int .i64 0)),none⟩,
 ⟨(some 47),.mov (.tmp 49),none⟩])
 (.cond (.tmp 47) (.ops [⟨(some 50),.fldA 3 (.tmp 3),none⟩,
 ⟨(some 51),.load1 (.tmp 50),none⟩,
 ⟨(some 52),.mov (.tmp 4),none⟩,
 ⟨(some 53),.mov (.tmp 5),none⟩,
 ⟨(some 54),.mov (.tmp 6),none⟩,
 ⟨(some 55),.aggr [(.int .i64 0),(.int .i64 0),(.int .i64 0),(.int .i64 0)] [(0,1,(.tmp 52)),(1,1,(.tmp 53)),(2,1,(.tmp 54)),(3,1,(.const (.int .i64 0)))],none⟩,
 ⟨(some 56),.slit 96 1 [(.int .i64 0),(.int .i64 0),(.int .i64 0),(.int .i64 0)] [(0,4,(.tmp 55))],none⟩,
 ⟨(some 57),.append 96 4 32 (.tmp 51) (.tmp 56),none⟩,
 ⟨(some 58),.fldA 3 (.tmp 3),none⟩,
 ⟨none,.store 1 (.tmp 58) (.tmp 57),none⟩])
 .skip)))))))
 (.ops [⟨(some 28),.mov (.tmp 5),none⟩,
 ⟨(some 29),.ar .i64 .add (.tmp 28) (.const (.int .i64 1)),none⟩,
 ⟨(some 5),.mov (.tmp 29),none⟩]))))))))
 (.ops [⟨(some 59),.ar .i64 .add (.tmp 20) (.const (.int .i64 1)),none⟩,
 ⟨(some 20),.mov (.tmp 59),none⟩])))))))
 (.seq (.ops [⟨(some 60),.loadN 4 (.tmp 3),none⟩,
 ⟨none,.store 4 (.tmp 2) (.tmp 60),none⟩])
 .ret)))))
theorem enter87 {xs : List Value} {h : Hp} {Q : Value → Hp → Prop} (hl : xs.length ≤ 61) (w : wq E 61 none c87 (frameOf xs) h [] (leaveQ E [.cell 2 25] Q)) : CallP E 87 xs h Q :=
  CallP.enterQ (fn := Try.f87) (fn_get Try.func87) (code := Try.f87.body.get rfl) rfl rfl rfl (by kernel_rfl) rfl (fun _ => rfl) hl w
theorem can87 : callable E 87 = true := callable_get Try.func87 rfl rfl
def c88 : C := (.seq (.ops [⟨(some 4),.alloc 25 [(.int .i64 0),(.slice none 0 0),(.slice none 0 0),(.slice none 0 0)],none⟩])
 (.seq (.dry [⟨(some 11),.mov (.tmp 0),none⟩,
 ⟨(some 12),.ar .i64 .add (.tmp 11) (.const (.int .i64 2)),none⟩,
 ⟨(some 13),.mov (.tmp 0),none⟩,
 ⟨(some 14),.ar .i64 .add (.tmp 13) (.const (.int .i64 2)),none⟩,
 ⟨(some 15),.make 3 [(.int .i64 0)] 8 (.tmp 14) (.tmp 14),none⟩,
 ⟨(some 16),.mov (.tmp 0),none⟩,
 ⟨(some 17),.ar .i64 .rem (.const (.int .i64 1)) (.tmp 16),none⟩,
 ⟨(some 18),.slit 3 1 [(.int .i64 0)] [(0,1,(.tmp 17))],none⟩,
 ⟨(some 19),.aggr [(.int .i64 0),(.slice none 0 0),(.slice none 0 0),(.slice none 0 0)] [(0,1,(.tmp 12)),(1,1,(.tmp 15)),(2,1,(.tmp 18))],none⟩,
 ⟨(some 5),.alloc 25 [(.int .i64 0),(.slice none 0 0),(.slice none 0 0),(.slice none 0 0)],none⟩,
 ⟨none,.store 4 (.tmp 5) (.tmp 19),none⟩]
 [⟨false,true,[false,false,false,false,false,false,false,false,false,false,false],[false,false,false,false,true,false,false,true,false,true,false]⟩,
 ⟨false,true,[false,false,false,false,false,false,false,false,false,false,false],[false,false,false,false,true,false,false,true,false,true,false]⟩,
 ⟨false,true,[false,false,false,false,false,false,false,false,false,false,false],[false,false,false,false,false,false,false,true,false,true,false]⟩,
 ⟨false,true,[false,false,false,false,false,false,false,false,false,false,false],[false,false,false,false,false,false,false,true,false,true,false]⟩,
 ⟨true,false,[false,false,false,false,false,false,false,false,false,false,false],[false,false,false,false,true,false,false,true,false,true,false]⟩,
 ⟨false,true,[false,false,false,false,false,false,false,false,false,false,false],[false,false,false,false,true,false,false,false,false,true,false]⟩,
 ⟨false,true,[false,false,false,false,false,false,false,false,false,false,false],[false,false,false,false,true,false,false,false,false,true,false]⟩,
 ⟨true,false,[false,false,false,false,false,false,false,false,false,false,false],[false,false,false,false,true,false,false,true,false,true,false]⟩,
 ⟨false,true,[false,false,false,false,true,false,false,true,false,false,false],[false,false,false,false,true,false,false,true,false,true,false]⟩,
 ⟨true,false,[false,false,false,false,false,false,false,false,false,false,false],[false,false,false,false,true,false,false,true,false,true,false]⟩,
 ⟨true,false,[false,false,false,false,true,false,false,true,false,true,false],[false,false,false,false,true,false,false,true,false,true,true]⟩]
 [⟨false,false,[false,false,false,false,false,false,false,false,false,false,false],[false,false,false,false,false,false,false,false,false,false,false]⟩,
 ⟨false,false,[false,false,false,false,false,false,false,false,false,false,false],[false,false,false,false,false,false,false,false,false,false,false]⟩,
 ⟨false,false,[false,false,false,false,false,false,false,false,false,false,false],[false,false,false,false,false,false,false,false,false,false,false]⟩,
 ⟨false,false,[false,false,false,false,false,false,false,false,false,false,false],[false,false,false,false,false,false,false,false,false,false,false]⟩,
 ⟨false,false,[false,false,false,false,false,false,false,false,false,false,false],[false,false,false,false,false,false,false,false,false,false,false]⟩,
 ⟨false,false,[false,false,false,false,false,false,false,false,false,false,false],[false,false,false,false,false,false,false,false,false,false,false]⟩,
 ⟨false,false,[false,false,false,false,false,false,false,false,false,false,false],[false,false,false,false,false,false,false,false,false,false,false]⟩,
 ⟨false,false,[false,false,false,false,false,false,false,false,false,false,false],[false,false,false,false,false,false,false,false,false,false,false]⟩,
 ⟨false,false,[false,false,false,false,false,false,false,false,false,false,false],[false,false,false,false,false,false,false,false,false,false,false]⟩,
 ⟨false,false,[false,false,false,false,false,false,false,false,false,false,false],[false,false,false,false,false,false,false,false,false,false,false]⟩,
 ⟨true,false,[false,false,false,false,false,false,false,false,false,false,false],[false,false,false,false,false,false,false,false,false,false,true]⟩]
 [false,false,false,false,true,false,false,true,false,true,false])
 (.seq (.draw [⟨(some 20),.fldA 1 (.tmp 5),none⟩,
 ⟨(some 21),.load1 (.tmp 20),none⟩,
 ⟨(some 22),.mov (.tmp 1),none⟩,
 ⟨(some 23),.fldA 1 (.tmp 5),none⟩,
 ⟨(some 24),.load1 (.tmp 23),none⟩,
 ⟨(some 25),.mov (.tmp 0),none⟩,
 ⟨(some 26),.ar .i64 .add (.tmp 25) (.const (.int .i64 1)),none⟩,
 ⟨(some 27),.idxS 1 (.tmp 21) (.tmp 22),none⟩,
 ⟨none,.store 1 (.tmp 27) (.const (.int .i64 1)),none⟩,
 ⟨(some 28),.idxS 1 (.tmp 24) (.tmp 26),none⟩,
 ⟨none,.store 1 (.tmp 28) (.const (.int .i64 1)),none⟩]
 [⟨false,false,[false,false,false,false,false,false,false,false,false,false,false],[false,false,false,false,false,false,false,false,false,false,false]⟩,
 ⟨false,false,[false,false,false,false,false,false,false,false,false,false,false],[false,false,false,false,false,false,false,false,false,false,false]⟩,
 ⟨false,false,[false,false,false,false,false,false,false,false,false,false,false],[false,false,false,false,false,false,false,false,false,false,false]⟩,
 ⟨false,true,[false,false,false,false,false,false,false,false,false,false,false],[false,false,false,false,false,false,false,false,true,false,false]⟩,
 ⟨false,true,[false,false,false,false,false,false,false,false,false,false,false],[false,false,false,false,false,false,false,false,true,false,false]⟩,
 ⟨false,true,[false,false,false,false,false,false,false,false,false,false,false],[false,false,false,false,false,false,false,false,true,false,false]⟩,
 ⟨false,true,[false,false,false,false,false,false,false,false,false,false,false],[false,false,false,false,false,false,false,false,true,false,false]⟩,
 ⟨false,false,[false,false,false,false,false,false,false,false,false,false,false],[false,false,false,false,false,false,false,false,false,false,false]⟩,
 ⟨true,false,[false,false,false,false,false,false,false,false,false,false,false],[false,false,false,false,false,false,false,false,true,false,false]⟩,
 ⟨false,false,[false,false,false,false,false,false,false,false,true,false,false],[false,false,false,false,false,false,false,false,true,false,false]⟩,
 ⟨true,false,[false,false,false,false,false,false,false,false,true,false,false],[false,false,false,false,false,false,false,false,true,false,true]⟩])
 (.seq (.seq (.ops [⟨(some 29),.mov (.tmp 0),none⟩,
 ⟨(some 30),.mov (.const (.int .i64 0)),none⟩])
 (.block 0 (.loop (.seq (.ops [⟨(some 31),.ar .i64 .lss (.tmp 30) (.tmp 29),none⟩])
 (.seq (.cond (.tmp 31) .skip
 (.exit 0))
 (.seq (.block 1 (.seq (.ops [⟨(some 32),.mov (.tmp 30),none⟩,
 ⟨(some 6),.mov (.tmp 32),none⟩])
 (.seq (.seq (.ops [⟨(some 33),.mov (.tmp 6),none⟩,
 ⟨(some 7),.mov (.tmp 33),none⟩])
 (.block 2 (.loop (.seq (.seq (.ops [⟨(some 34),.mov (.tmp 7),none⟩,
 ⟨(some 35),.mov (.tmp 0),none⟩,
 ⟨(some 36),.ar .i64 .lss (.tmp 34) (.tmp 35),none⟩])
 (.cond (.tmp 36) .skip
 (.exit 2)))
 (.seq (.block 3 (.seq (.ops [⟨(some 39),.mov (.tmp 6),none⟩,
 ⟨(some 40),.mov (.tmp 7),none⟩,
 ⟨(some 41),.ar .i64 .add (.tmp 39) (.tmp 40),none⟩,
 ⟨(some 42),.mov (.tmp 0),none⟩,
 ⟨(some 43),.ar .i64 .rem (.tmp 41) (.tmp 42),none⟩,
 ⟨(some 8),.mov (.tmp 43),none⟩])
 (.draw [⟨(some 44),.fldA 3 (.tmp 5),none⟩,
 ⟨(some 45),.load1 (.tmp 44),none⟩,
 ⟨(some 46),.mov (.tmp 6),none⟩,
 ⟨(some 47),.mov (.tmp 7),none⟩,
 ⟨(some 48),.mov (.tmp 8),none⟩,
 ⟨(some 49),.mov (.tmp 0),none⟩,
 ⟨(some 50),.fldA 1 (.tmp 5),none⟩,
 ⟨(some 51),.load1 (.tmp 50),none⟩,
 ⟨(some 52),.mov (.tmp 8),none⟩,
 ⟨(some 53),.idxS 1 (.tmp 51) (.tmp 52),none⟩,
 ⟨(some 54),.load1 (.tmp 53),none⟩,
 ⟨(some 55),.ar .i64 .add (.tmp 49) (.tmp 54),none⟩,
 ⟨(some 56),.aggr [(.int .i64 0),(.int .i64 0),(.int .i64 0),(.int .i64 0)] [(0,1,(.tmp 46)),(1,1,(.tmp 47)),(2,1,(.tmp 48)),(3,1,(.tmp 55))],none⟩,
 ⟨(some 57),.slit 96 1 [(.int .i64 0),(.int .i64 0),(.int .i64 0),(.int .i64 0)] [(0,4,(.tmp 56))],none⟩,
 ⟨(some 58),.append 96 4 32 (.tmp 45) (.tmp 57),none⟩,
 ⟨(some 59),.fldA 3 (.tmp 5),none⟩,
 ⟨none,.store 1 (.tmp 59) (.tmp 58),none⟩]
 [⟨false,true,[false,false,false,false,false,false,false,false,false,false,false,false,false,false,false,false,false],[false,false,false,false,false,false,false,false,false,false,false,false,false,true,false,false,false]⟩,
 ⟨false,true,[false,false,false,false,false,false,false,false,false,false,false,false,false,false,false,false,false],[false,false,false,false,false,false,false,false,false,false,false,false,false,true,false,false,false]⟩,
 ⟨false,false,[false,false,false,false,false,false,false,false,false,false,false,false,false,false,false,false,false],[false,false,false,false,false,false,false,false,false,false,false,false,false,false,false,false,false]⟩,
 ⟨false,false,[false,false,false,false,false,false,false,false,false,false,false,false,false,false,false,false,false],[false,false,false,false,false,false,false,false,false,false,false,false,false,false,false,false,false]⟩,
 ⟨false,false,[false,false,false,false,false,false,false,false,false,false,false,false,false,false,false,false,false],[false,false,false,false,false,false,false,false,false,false,false,false,false,false,false,false,false]⟩,
 ⟨false,false,[false,false,false,false,false,false,false,false,false,false,false,false,false,false,false,false,false],[false,false,false,false,false,false,false,false,false,false,false,false,false,false,false,false,false]⟩,
 ⟨false,false,[false,false,false,false,false,false,false,false,false,false,false,false,false,false,false,false,false],[false,false,false,false,false,false,false,false,false,false,false,false,false,false,false,false,false]⟩,
 ⟨false,false,[false,false,false,false,false,false,false,false,false,false,false,false,false,false,false,false,false],[false,false,false,false,false,false,false,false,false,false,false,false,false,false,false,false,false]⟩,
 ⟨false,false,[false,false,false,false,false,false,false,false,false,false,false,false,false,false,false,false,false],[false,false,false,false,false,false,false,false,false,false,false,false,false,false,false,false,false]⟩,
 ⟨false,false,[false,false,false,false,false,false,false,false,false,false,false,false,false,false,false,false,false],[false,false,false,false,false,false,false,false,false,false,false,false,false,false,false,false,false]⟩,
 ⟨false,false,[false,false,false,false,false,false,false,false,false,false,false,false,false,false,false,false,false],[false,false,false,false,false,false,false,false,false,false,false,false,false,false,false,false,false]⟩,
 ⟨false,false,[false,false,false,false,false,false,false,false,false,false,false,false,false,false,false,false,false],[false,false,false,false,false,false,false,false,false,false,false,false,false,false,false,false,false]⟩,
 ⟨false,false,[false,false,false,false,false,false,false,false,false,false,false,false,false,false,false,false,false],[false,false,false,false,false,false,false,false,false,false,false,false,false,false,false,false,false]⟩,
 ⟨true,false,[false,false,false,false,false,false,false,false,false,false,false,false,false,false,false,false,false],[false,false,false,false,false,false,false,false,false,false,false,false,false,true,false,false,false]⟩,
 ⟨true,false,[false,false,false,false,false,false,false,false,false,false,false,false,false,true,false,false,false],[false,false,false,false,false,false,false,false,false,false,false,false,false,true,true,false,false]⟩,
 ⟨false,false,[false,false,false,false,false,false,false,false,false,false,false,false,false,true,true,false,false],[false,false,false,false,false,false,false,false,false,false,false,false,false,true,true,false,false]⟩,
 ⟨true,false,[false,false,false,false,false,false,false,false,false,false,false,false,false,true,true,false,false],[false,false,false,false,false,false,false,false,false,false,false,false,false,true,true,false,true]⟩])))
 (.ops [⟨(some 37),.mov (.tmp 7),none⟩,
 ⟨(some 38),.ar .i64 .add (.tmp 37) (.const (.int .i64 1)),none⟩,
 ⟨(some 7),.mov (.tmp 38),none⟩]))))))
 (.seq (.ops [⟨(some 60),.mov (.tmp 0),none⟩,
 ⟨(some 61),.ar .i64 .add (.tmp 60) (.const (.int .i64 1)),none⟩,
 ⟨(some 62),.fldA 1 (.tmp 5),none⟩,
 ⟨(some 63),.load1 (.tmp 62),none⟩,
 ⟨(some 64),.mov (.tmp 6),none⟩,
 ⟨(some 65),.idxS 1 (.tmp 63) (.tmp 64),none⟩,
 ⟨(some 66),.load1 (.tmp 65),none⟩,
 ⟨(some 67),.ar .i64 .sub (.tmp 61) (.tmp 66),none⟩,
 ⟨(some 68),.mov (.tmp 0),none⟩,
 ⟨(some 69),.fldA 1 (.tmp 5),none⟩,
 ⟨(some 70),.load1 (.tmp 69),none⟩,
 ⟨(some 71),.mov (.tmp 6),none⟩,
 ⟨(some 72),.idxS 1 (.tmp 70) (.tmp 71),none⟩,
 ⟨(some 73),.load1 (.tmp 72),none⟩,
 ⟨(some 74),.ar .i64 .add (.tmp 68) (.tmp 73),none⟩,
 ⟨(some 9),.mov (.tmp 67),none⟩,
 ⟨(some 10),.mov (.tmp 74),none⟩])
 (.ops [⟨(some 75),.fldA 3 (.tmp 5),none⟩,
 ⟨(some 76),.load1 (.tmp 75),none⟩,
 ⟨(some 77),.mov (.tmp 6),none⟩,
 ⟨(some 78),.mov (.tmp 9),none⟩,
 ⟨(some 79),.mov (.tmp 6),none⟩,
 ⟨(some 80),.mov (.tmp 10),none⟩,
 ⟨(some 81),.aggr [(.int .i64 0),(.int .i64 0),(.int .i64 0),(.int .i64 0)] [(0,1,(.tmp 77)),(1,1,(.tmp 78)),(2,1,(.tmp 79)),(3,1,(.tmp 80))],none⟩,
 ⟨(some 82),.slit 96 1 [(.int .i64 0),(.int .i64 0),(.int .i64 0),(.int .i64 0)] [(0,4,(.tmp 81))],none⟩,
 ⟨(some 83),.append 96 4 32 (.tmp 76) (.tmp 82),none⟩,
 ⟨(some 84),.fldA 3 (.tmp 5),none⟩,
 ⟨none,.store 1 (.tmp 84) (.tmp 83),none⟩])))))
 (.ops [⟨(some 85),.ar .i64 .add (.tmp 30) (.const (.int .i64 1)),none⟩,
 ⟨(some 30),.mov (.tmp 85),none⟩])))))))
 (.seq (.ops [⟨(some 86),.loadN 4 (.tmp 5),none⟩,
 ⟨none,.store 4 (.tmp 4) (.tmp 86),none⟩])
 .ret)))))
theorem enter88 {xs : List Value} {h : Hp} {Q : Value → Hp → Prop} (hl : xs.length ≤ 87) (w : wq E 87 none c88 (frameOf xs) h [] (leaveQ E [.cell 4 25] Q)) : CallP E 88 xs h Q :=
  CallP.enterQ (fn := Try.f88) (fn_get Try.func88) (code := Try.f88.body.get rfl) rfl rfl rfl (by kernel_rfl) rfl (fun _ => rfl) hl w
theorem can88 : callable E 88 = true := callable_get Try.func88 rfl rfl
def c89 : C := (.seq (.ops [⟨(some 4),.mov (.const (.int .i64 0)),none⟩])
 (.seq (.ops [⟨(some 7),.mov (.tmp 0),none⟩,
 ⟨(some 8),.call 105 [(.tmp 7)],none⟩,
 ⟨(some 5),.mov (.tmp 8),none⟩])
 (.seq (.ops [⟨(some 9),.mov (.tmp 1),none⟩,
 ⟨(some 10),.call 105 [(.tmp 9)],none⟩,
 ⟨(some 6),.mov (.tmp 10),none⟩])
 (.seq (.seq (.ops [⟨(some 11),.mov (.tmp 5),none⟩])
 (.cond (.tmp 11) (.seq (.seq (.ops [⟨(some 12),.mov (.tmp 6),none⟩])
 (.cond (.tmp 12) (.seq (.ops [⟨(some 4),.mov (.const (.int .i64 0)),none⟩])
 .ret)
 .skip))
 (.seq (.ops [⟨(some 4),.mov (.const (.int .i64 (-1))),none⟩])
 .ret))
 .skip))
 (.seq (.seq (.ops [⟨(some 13),.mov (.tmp 6),none⟩])
 (.cond (.tmp 13) (.seq (.ops [⟨(some 4),.mov (.const (.int .i64 1)),none⟩])
 .ret)
 .skip))
 (.seq (.seq (.ops [⟨(some 14),.mov (.tmp 0),none⟩,
 ⟨(some 15),.mov (.tmp 1),none⟩,
 ⟨(some 16),.ar .i64 .lss (.tmp 14) (.tmp 15),none⟩])
 (.cond (.tmp 16) (.seq (.ops [⟨(some 4),.mov (.const (.int .i64 (-1))),none⟩])
 .ret)
 .skip))
 (.seq (.seq (.ops [⟨(some 17),.mov (.tmp 0),none⟩,
 ⟨(some 18),.mov (.tmp 1),none⟩,
 ⟨(some 19),.ar .i64 .gtr (.tmp 17) (.tmp 18),none⟩])
 (.cond (.tmp 19) (.seq (.ops [⟨(some 4),.mov (.const (.int .i64 1)),none⟩])
 .ret)
 .skip))
 (.seq (.ops [⟨(some 4),.mov (.const (.int .i64 0)),none⟩])
 .ret))))))))
theorem enter89 {xs : List Value} {h : Hp} {Q : Value → Hp → Prop} (hl : xs.length ≤ 20) (w : wq E 20 none c89 (frameOf xs) h [] (leaveQ E [.tmp 4] Q)) : CallP E 89 xs h Q :=
  CallP.enterQ (fn := Try.f89) (fn_get Try.func89) (code := Try.f89.body.get rfl) rfl rfl rfl (by kernel_rfl) rfl (fun _ => rfl) hl w
theorem can89 : callable E 89 = true := callable_get Try.func89 rfl rfl
def c90 : C := (.seq (.ops [⟨(some 2),.mov (.const (.int .i64 0)),none⟩])
 (.seq (.ops [⟨(some 3),.mov (.const (.int .i64 0)),none⟩])
 (.seq (.seq (.ops [⟨(some 6),.mov (.tmp 0),none⟩,
 ⟨(some 7),.lenS (.tmp 6),none⟩,
 ⟨(some 8),.mov (.const (.int .i64 0)),none⟩])
 (.block 0 (.loop (.seq (.ops [⟨(some 9),.ar .i64 .lss (.tmp 8) (.tmp 7),none⟩])
 (.seq (.cond (.tmp 9) .skip
 (.exit 0))
 (.seq (.block 1 (.seq (.ops [⟨(some 10),.idxS 1 (.tmp 6) (.tmp 8),none⟩,
 ⟨(some 11),.load1 (.tmp 10),none⟩,
 ⟨(some 5),.mov (.tmp 11),none⟩])
 (.ops [⟨(some 12),.mov (.tmp 3),none⟩,
 ⟨(some 13),.mov (.tmp 5),none⟩,
 ⟨(some 14),.ar .i64 .add (.tmp 12) (.tmp 13),none⟩,
 ⟨(some 3),.mov (.tmp 14),none⟩])))
 (.ops [⟨(some 15),.ar .i64 .add (.tmp 8) (.const (.int .i64 1)),none⟩,
 ⟨(some 8),.mov (.tmp 15),none⟩])))))))
 (.seq (.ops [⟨(some 16),.mov (.tmp 3),none⟩,
 ⟨(some 2),.mov (.tmp 16),none⟩])
 .ret))))
theorem enter90 {xs : List Value} {h : Hp} {Q : Value → Hp → Prop} (hl : xs.length ≤ 17) (w : wq E 17 none c90 (frameOf xs) h [] (leaveQ E [.tmp 2] Q)) : CallP E 90 xs h Q :=
  CallP.enterQ (fn := Try.f90) (fn_get Try.func90) (code := Try.f90.body.get rfl) rfl rfl rfl (by kernel_rfl) rfl (fun _ => rfl) hl w
theorem can90 : callable E 90 = true := callable_get Try.func90 rfl rfl
def c91 : C := (.seq (.ops [⟨(some 4),.mov (.const (.bool false)),none⟩])
 (.seq (.ops [⟨(some 5),.mov (.tmp 0),none⟩,
 ⟨(some 6),.mov (.tmp 1),none⟩,
 ⟨(some 7),.call 106 [(.tmp 5),(.tmp 6)],none⟩,
 ⟨(some 8),.ar .i64 .geq (.tmp 7) (.const (.int .i64 0)),none⟩,
 ⟨(some 4),.mov (.tmp 8),none⟩])
 .ret))
theorem enter91 {xs : List Value} {h : Hp} {Q : Value → Hp → Prop} (hl : xs.length ≤ 9) (w : wq E 9 none c91 (frameOf xs) h [] (leaveQ E [.tmp 4] Q)) : CallP E 91 xs h Q :=
  CallP.enterQ (fn := Try.f91) (fn_get Try.func91) (code := Try.f91.body.get rfl) rfl rfl rfl (by kernel_rfl) rfl (fun _ => rfl) hl w
theorem can91 : callable E 91 = true := callable_get Try.func91 rfl rfl
def c92 : C := (.seq (.ops [⟨(some 2),.box 104 (.tmp 0),none⟩,
 ⟨(some 4),.mov (.const (.slice none 0 0)),none⟩])
 (.seq (.ops [⟨(some 12),.fldA 0 (.tmp 2),none⟩,
 ⟨(some 13),.load1 (.tmp 12),none⟩,
 ⟨(some 14),.lenS (.tmp 13),none⟩,
 ⟨(some 15),.make 4 [(.bool false)] 1 (.tmp 14) (.tmp 14),none⟩,
 ⟨(some 5),.mov (.tmp 15),none⟩])
 (.seq (.seq (.ops [⟨(some 16),.mov (.tmp 1),none⟩,
 ⟨(some 17),.lenS (.tmp 16),none⟩,
 ⟨(some 18),.mov (.const (.int .i64 0)),none⟩])
 (.block 0 (.loop (.seq (.ops [⟨(some 19),.ar .i64 .lss (.tmp 18) (.tmp 17),none⟩])
 (.seq (.cond (.tmp 19) .skip
 (.exit 0))
 (.seq (.block 1 (.seq (.ops [⟨(some 20),.idxS 1 (.tmp 16) (.tmp 18),none⟩,
 ⟨(some 21),.load1 (.tmp 20),none⟩,
 ⟨(some 7),.mov (.tmp 21),none⟩])
 (.ops [⟨(some 22),.mov (.tmp 5),none⟩,
 ⟨(some 23),.mov (.tmp 7),none⟩,
 ⟨(some 24),.idxS 1 (.tmp 22) (.tmp 23),none⟩,
 ⟨none,.store 1 (.tmp 24) (.const (.bool true)),none⟩])))
 (.ops [⟨(some 25),.ar .i64 .add (.tmp 18) (.const (.int .i64 1)),none⟩,
 ⟨(some 18),.mov (.tmp 25),none⟩])))))))
 (.seq (.ops [⟨(some 26),.mov (.tmp 1),none⟩,
 ⟨(some 27),.call 71 [(.tmp 26)],none⟩,
 ⟨(some 8),.mov (.tmp 27),none⟩])
 (.seq (.seq (.ops [⟨(some 9),.mov (.const (.int .i64 0)),none⟩])
 (.block 2 (.loop (.seq (.seq (.ops [⟨(some 28),.mov (.tmp 9),none⟩,
 ⟨(some 29),.mov (.tmp 8),none⟩,
 ⟨(some 30),.lenS (.tmp 29),none⟩,
 ⟨(some 31),.ar .i64 .lss (.tmp 28) (.tmp 30),none⟩])
 (.cond (.tmp 31) .skip
 (.exit 2)))
 (.seq (.block 3 (.seq (.ops [⟨(some 34),.fldA 1 (.tmp 2),none⟩,
 ⟨(some 35),.load1 (.tmp 34),none⟩,
 ⟨(some 36),.mov (.tmp 8),none⟩,
 ⟨(some 37),.mov (.tmp 9),none⟩,
 ⟨(some 38),.idxS 1 (.tmp 36) (.tmp 37),none⟩,
 ⟨(some 39),.load1 (.tmp 38),none⟩,
 ⟨(some 40),.idxS 1 (.tmp 35) (.tmp 39),none⟩,
 ⟨(some 41),.load1 (.tmp 40),none⟩,
 ⟨(some 42),.lenS (.tmp 41),none⟩,
 ⟨(some 43),.mov (.const (.int .i64 0)),none⟩])
 (.block 4 (.loop (.seq (.ops [⟨(some 44),.ar .i64 .lss (.tmp 43) (.tmp 42),none⟩])
 (.seq (.cond (.tmp 44) .skip
 (.exit 4))
 (.seq (.block 5 (.seq (.ops [⟨(some 45),.idxS 1 (.tmp 41) (.tmp 43),none⟩,
 ⟨(some 46),.load1 (.tmp 45),none⟩,
 ⟨(some 11),.mov (.tmp 46),none⟩])
 (.seq (.ops [⟨(some 47),.mov (.tmp 5),none⟩,
 ⟨(some 48),.mov (.tmp 11),none⟩,
 ⟨(some 49),.idxS 1 (.tmp 47) (.tmp 48),none⟩,
 ⟨(some 50),.load1 (.tmp 49),none⟩,
 ⟨(some 51),.not (.tmp 50),none⟩])
 (.cond (.tmp 51) (.seq (.ops [⟨(some 52),.mov (.tmp 5),none⟩,
 ⟨(some 53),.mov (.tmp 11),none⟩,
 ⟨(some 54),.idxS 1 (.tmp 52) (.tmp 53),none⟩,
 ⟨none,.store 1 (.tmp 54) (.const (.bool true)),none⟩])
 (.ops [⟨(some 55),.mov (.tmp 8),none⟩,
 ⟨(some 56),.mov (.tmp 11),none⟩,
 ⟨(some 57),.slit 3 1 [(.int .i64 0)] [(0,1,(.tmp 56))],none⟩,
 ⟨(some 58),.append 3 1 8 (.tmp 55) (.tmp 57),none⟩,
 ⟨(some 8),.mov (.tmp 58),none⟩]))
 .skip))))
 (.ops [⟨(some 59),.ar .i64 .add (.tmp 43) (.const (.int .i64 1)),none⟩,
 ⟨(some 43),.mov (.tmp 59),none⟩]))))))))
 (.ops [⟨(some 32),.mov (.tmp 9),none⟩,
 ⟨(some 33),.ar .i64 .add (.tmp 32) (.const (.int .i64 1)),none⟩,
 ⟨(some 9),.mov (.tmp 33),none⟩]))))))
 (.seq (.ops [⟨(some 60),.mov (.tmp 5),none⟩,
 ⟨(some 4),.mov (.tmp 60),none⟩])
 .ret))))))
theorem enter92 {xs : List Value} {h : Hp} {Q : Value → Hp → Prop} (hl : xs.length ≤ 61) (w : wq E 61 none c92 (frameOf xs) h [] (leaveQ E [.tmp 4] Q)) : CallP E 92 xs h Q :=
  CallP.enterQ (fn := Try.f92) (fn_get Try.func92) (code := Try.f92.body.get rfl) rfl rfl rfl (by kernel_rfl) rfl (fun _ => rfl) hl w
theorem can92 : callable E 92 = true := callable_get Try.func92 rfl rfl
def c93 : C := (.seq (.ops [⟨(some 3),.box 25 (.tmp 0),none⟩,
 ⟨(some 4),.box 104 (.tmp 1),none⟩,
 ⟨(some 6),.mov (.const (.slice none 0 0)),none⟩])
 (.seq (.ops [⟨(some 7),.mov (.const (.slice none 0 0)),none⟩])
 (.seq (.seq (.ops [⟨(some 13),.fldA 0 (.tmp 4),none⟩,
 ⟨(some 14),.load1 (.tmp 13),none⟩,
 ⟨(some 15),.lenS (.tmp 14),none⟩,
 ⟨(some 16),.mov (.const (.int .i64 0)),none⟩])
 (.block 0 (.loop (.seq (.ops [⟨(some 17),.ar .i64 .lss (.tmp 16) (.tmp 15),none⟩])
 (.seq (.cond (.tmp 17) .skip
 (.exit 0))
 (.seq (.block 1 (.seq (.ops [⟨(some 18),.mov (.tmp 16),none⟩,
 ⟨(some 19),.idxS 5 (.tmp 14) (.tmp 16),none⟩,
 ⟨(some 20),.loadN 5 (.tmp 19),none⟩,
 ⟨(some 9),.alloc 107 [(.int .i64 0),(.int .i64 0),(.int .i64 0),(.int .i64 0),(.int .i64 0)],none⟩,
 ⟨(some 8),.mov (.tmp 18),none⟩,
 ⟨none,.store 5 (.tmp 9) (.tmp 20),none⟩])
 (.seq (.ops [⟨(some 21),.loadN 4 (.tmp 3),none⟩,
 ⟨(some 22),.loadN 5 (.tmp 9),none⟩,
 ⟨(some 23),.mov (.tmp 2),none⟩,
 ⟨(some 24),.call 107 [(.tmp 21),(.tmp 22),(.tmp 23)],none⟩,
 ⟨(some 25),.not (.tmp 24),none⟩])
 (.cond (.tmp 25) (.ops [⟨(some 26),.mov (.tmp 7),none⟩,
 ⟨(some 27),.mov (.tmp 8),none⟩,
 ⟨(some 28),.slit 3 1 [(.int .i64 0)] [(0,1,(.tmp 27))],none⟩,
 ⟨(some 29),.append 3 1 8 (.tmp 26) (.tmp 28),none⟩,
 ⟨(some 7),.mov (.tmp 29),none⟩])
 .skip))))
 (.ops [⟨(some 30),.ar .i64 .add (.tmp 16) (.const (.int .i64 1)),none⟩,
 ⟨(some 16),.mov (.tmp 30),none⟩])))))))
 (.seq (.ops [⟨(some 10),.mov (.const (.slice none 0 0)),none⟩])
 (.seq (.seq (.ops [⟨(some 31),.loadN 2 (.tmp 4),none⟩,
 ⟨(some 32),.mov (.tmp 7),none⟩,
 ⟨(some 33),.call 92 [(.tmp 31),(.tmp 32)],none⟩,
 ⟨(some 34),.lenS (.tmp 33),none⟩,
 ⟨(some 35),.mov (.const (.int .i64 0)),none⟩])
 (.block 2 (.loop (.seq (.ops [⟨(some 36),.ar .i64 .lss (.tmp 35) (.tmp 34),none⟩])
 (.seq (.cond (.tmp 36) .skip
 (.exit 2))
 (.seq (.block 3 (.seq (.ops [⟨(some 37),.mov (.tmp 35),none⟩,
 ⟨(some 38),.idxS 1 (.tmp 33) (.tmp 35),none⟩,
 ⟨(some 39),.load1 (.tmp 38),none⟩,
 ⟨(some 11),.mov (.tmp 37),none⟩,
 ⟨(some 12),.mov (.tmp 39),none⟩])
 (.seq (.ops [⟨(some 40),.mov (.tmp 12),none⟩,
 ⟨(some 41),.not (.tmp 40),none⟩])
 (.cond (.tmp 41) (.ops [⟨(some 42),.mov (.tmp 10),none⟩,
 ⟨(some 43),.mov (.tmp 11),none⟩,
 ⟨(some 44),.slit 3 1 [(.int .i64 0)] [(0,1,(.tmp 43))],none⟩,
 ⟨(some 45),.append 3 1 8 (.tmp 42) (.tmp 44),none⟩,
 ⟨(some 10),.mov (.tmp 45),none⟩])
 .skip))))
 (.ops [⟨(some 46),.ar .i64 .add (.tmp 35) (.const (.int .i64 1)),none⟩,
 ⟨(some 35),.mov (.tmp 46),none⟩])))))))
 (.seq (.ops [⟨(some 47),.mov (.tmp 10),none⟩,
 ⟨(some 6),.mov (.tmp 47),none⟩])
 .ret))))))
theorem enter93 {xs : List Value} {h : Hp} {Q : Value → Hp → Prop} (hl : xs.length ≤ 48) (w : wq E 48 none c93 (frameOf xs) h [] (leaveQ E [.tmp 6] Q)) : CallP E 93 xs h Q :=
  CallP.enterQ (fn := Try.f93) (fn_get Try.func93) (code := Try.f93.body.get rfl) rfl rfl rfl (by kernel_rfl) rfl (fun _ => rfl) hl w
theorem can93 : callable E 93 = true := callable_get Try.func93 rfl rfl
def c94 : C := (.seq (.ops [⟨(some 3),.box 107 (.tmp 0),none⟩,
 ⟨(some 4),.mov (.const (.int .i64 0)),none⟩])
 (.seq (.ops [⟨(some 8),.load1 (.tmp 1),none⟩,
 ⟨(some 9),.loadN 5 (.tmp 3),none⟩,
 ⟨(some 10),.raw (.lookup 137 (.tmp 8) (.tmp 9) true) 119,none⟩,
 ⟨(some 7),.mov (.tmp 10),none⟩,
 ⟨(some 11),.ext (.tmp 7) 0,none⟩,
 ⟨(some 12),.ext (.tmp 7) 1,none⟩,
 ⟨(some 5),.mov (.tmp 11),none⟩,
 ⟨(some 6),.mov (.tmp 12),none⟩])
 (.seq (.seq (.ops [⟨(some 13),.mov (.tmp 6),none⟩,
 ⟨(some 14),.not (.tmp 13),none⟩])
 (.cond (.tmp 14) (.seq (.ops [⟨(some 15),.fldA 0 (.tmp 2),none⟩,
 ⟨(some 16),.load1 (.tmp 15),none⟩,
 ⟨(some 17),.lenS (.tmp 16),none⟩,
 ⟨(some 5),.mov (.tmp 17),none⟩])
 (.seq (.ops [⟨(some 18),.load1 (.tmp 1),none⟩,
 ⟨(some 19),.loadN 5 (.tmp 3),none⟩,
 ⟨(some 20),.mov (.tmp 5),none⟩,
 ⟨none,.raw (.mapUpdate 137 (.tmp 18) (.tmp 19) (.tmp 20)) 0,none⟩])
 (.seq (.ops [⟨(some 21),.fldA 0 (.tmp 2),none⟩,
 ⟨(some 22),.load1 (.tmp 21),none⟩,
 ⟨(some 23),.loadN 5 (.tmp 3),none⟩,
 ⟨(some 24),.slit 107 1 [(.int .i64 0),(.int .i64 0),(.int .i64 0),(.int .i64 0),(.int .i64 0)] [(0,5,(.tmp 23))],none⟩,
 ⟨(some 25),.append 107 5 40 (.tmp 22) (.tmp 24),none⟩,
 ⟨(some 26),.fldA 0 (.tmp 2),none⟩,
 ⟨none,.store 1 (.tmp 26) (.tmp 25),none⟩])
 (.ops [⟨(some 27),.fldA 1 (.tmp 2),none⟩,
 ⟨(some 28),.load1 (.tmp 27),none⟩,
 ⟨(some 29),.slit 22 1 [(.slice none 0 0)] [(0,1,(.const (.slice none 0 0)))],none⟩,
 ⟨(some 30),.append 22 1 24 (.tmp 28) (.tmp 29),none⟩,
 ⟨(some 31),.fldA 1 (.tmp 2),none⟩,
 ⟨none,.store 1 (.tmp 31) (.tmp 30),none⟩]))))
 .skip))
 (.seq (.ops [⟨(some 32),.mov (.tmp 5),none⟩,
 ⟨(some 4),.mov (.tmp 32),none⟩])
 .ret))))
theorem enter94 {xs : List Value} {h : Hp} {Q : Value → Hp → Prop} (hl : xs.length ≤ 33) (w : wq E 33 none c94 (frameOf xs) h [] (leaveQ E [.tmp 4] Q)) : CallP E 94 xs h Q :=
  CallP.enterQ (fn := Try.f94) (fn_get Try.func94) (code := Try.f94.body.get rfl) rfl rfl rfl (by kernel_rfl) rfl (fun _ => rfl) hl w
theorem can94 : callable E 94 = true := callable_get Try.func94 rfl rfl
def c95 : C := (.seq (.ops [⟨(some 2),.box 25 (.tmp 0),none⟩,
 ⟨(some 3),.box 107 (.tmp 1),none⟩,
 ⟨(some 4),.mov (.const .nilFunc),none⟩])
 (.seq (.ops [⟨(some 5),.func (.func 108) [] [(.tmp 2),(.tmp 3)],none⟩,
 ⟨(some 4),.mov (.tmp 5),none⟩])
 .ret))
theorem enter95 {xs : List Value} {h : Hp} {Q : Value → Hp → Prop} (hl : xs.length ≤ 6) (w : wq E 6 none c95 (frameOf xs) h [] (leaveQ E [.tmp 4] Q)) : CallP E 95 xs h Q :=
  CallP.enterQ (fn := Try.f95) (fn_get Try.func95) (code := Try.f95.body.get rfl) rfl rfl rfl (by kernel_rfl) rfl (fun _ => rfl) hl w
theorem can95 : callable E 95 = true := callable_get Try.func95 rfl rfl
def c99 : C := (.seq (.ops [⟨(some 2),.mov (.const (.bool false)),none⟩])
 (.seq (.ops [⟨(some 3),.mov (.tmp 0),none⟩,
 ⟨(some 4),.ar .i64 .lss (.tmp 3) (.const (.int .i64 0)),none⟩,
 ⟨(some 5),.mov (.tmp 4),none⟩,
 ⟨(some 6),.mov (.tmp 0),(some (5,false))⟩,
 ⟨(some 7),.ar .i64 .gtr (.tmp 6) (.const (.int .i64 9)),(some (5,false))⟩,
 ⟨(some 8),.pick (.tmp 5) (.const (.bool true)) (.tmp 7),none⟩,
 ⟨(some 2),.mov (.tmp 8),none⟩])
 .ret))
theorem enter99 {xs : List Value} {h : Hp} {Q : Value → Hp → Prop} (hl : xs.length ≤ 9) (w : wq E 9 none c99 (frameOf xs) h [] (leaveQ E [.tmp 2] Q)) : CallP E 99 xs h Q :=
  CallP.enterQ (fn := Try.f99) (fn_get Try.func99) (code := Try.f99.body.get rfl) rfl rfl rfl (by kernel_rfl) rfl (fun _ => rfl) hl w
theorem can99 : callable E 99 = true := callable_get Try.func99 rfl rfl
def c100 : C := (.seq (.ops [⟨(some 4),.mov (.const (.bool false)),none⟩])
 (.seq (.ops [⟨(some 5),.mov (.tmp 0),none⟩,
 ⟨(some 6),.mov (.tmp 1),none⟩,
 ⟨(some 7),.call 112 [(.tmp 5),(.tmp 6)],none⟩,
 ⟨(some 8),.ar .i64 .geq (.tmp 7) (.const (.int .i64 0)),none⟩,
 ⟨(some 4),.mov (.tmp 8),none⟩])
 .ret))
theorem enter100 {xs : List Value} {h : Hp} {Q : Value → Hp → Prop} (hl : xs.length ≤ 9) (w : wq E 9 none c100 (frameOf xs) h [] (leaveQ E [.tmp 4] Q)) : CallP E 100 xs h Q :=
  CallP.enterQ (fn := Try.f100) (fn_get Try.func100) (code := Try.f100.body.get rfl) rfl rfl rfl (by kernel_rfl) rfl (fun _ => rfl) hl w
theorem can100 : callable E 100 = true := callable_get Try.func100 rfl rfl
def c105 : C := (.seq (.ops [⟨(some 2),.mov (.const (.bool false)),none⟩])
 (.seq (.ops [⟨(some 3),.mov (.tmp 0),none⟩,
 ⟨(some 4),.mov (.tmp 0),none⟩,
 ⟨(some 5),.ar .i64 .neq (.tmp 3) (.tmp 4),none⟩,
 ⟨(some 2),.mov (.tmp 5),none⟩])
 .ret))
theorem enter105 {xs : List Value} {h : Hp} {Q : Value → Hp → Prop} (hl : xs.length ≤ 6) (w : wq E 6 none c105 (frameOf xs) h [] (leaveQ E [.tmp 2] Q)) : CallP E 105 xs h Q :=
  CallP.enterQ (fn := Try.f105) (fn_get Try.func105) (code := Try.f105.body.get rfl) rfl rfl rfl (by kernel_rfl) rfl (fun _ => rfl) hl w
theorem can105 : callable E 105 = true := callable_get Try.func105 rfl rfl
def c106 : C := (.seq (.ops [⟨(some 4),.mov (.const (.int .i64 0)),none⟩])
 (.seq (.seq (.ops [⟨(some 6),.mov (.tmp 0),none⟩,
 ⟨(some 7),.lenS (.tmp 6),none⟩,
 ⟨(some 8),.mov (.const (.int .i64 0)),none⟩])
 (.block 0 (.loop (.seq (.ops [⟨(some 9),.ar .i64 .lss (.tmp 8) (.tmp 7),none⟩])
 (.seq (.cond (.tmp 9) .skip
 (.exit 0))
 (.seq (.block 1 (.seq (.ops [⟨(some 10),.mov (.tmp 8),none⟩,
 ⟨(some 5),.mov (.tmp 10),none⟩])
 (.seq (.ops [⟨(some 11),.mov (.tmp 1),none⟩,
 ⟨(some 12),.mov (.tmp 0),none⟩,
 ⟨(some 13),.mov (.tmp 5),none⟩,
 ⟨(some 14),.idxS 1 (.tmp 12) (.tmp 13),none⟩,
 ⟨(some 15),.load1 (.tmp 14),none⟩,
 ⟨(some 16),.raw (.binOp .eql 4 (.tmp 11) (.tmp 15) 4) 4,none⟩])
 (.cond (.tmp 16) (.seq (.ops [⟨(some 17),.mov (.tmp 5),none⟩,
 ⟨(some 4),.mov (.tmp 17),none⟩])
 .ret)
 .skip))))
 (.ops [⟨(some 18),.ar .i64 .add (.tmp 8) (.const (.int .i64 1)),none⟩,
 ⟨(some 8),.mov (.tmp 18),none⟩])))))))
 (.seq (.ops [⟨(some 4),.mov (.const (.int .i64 (-1))),none⟩])
 .ret)))
theorem enter106 {xs : List Value} {h : Hp} {Q : Value → Hp → Prop} (hl : xs.length ≤ 19) (w : wq E 19 none c106 (frameOf xs) h [] (leaveQ E [.tmp 4] Q)) : CallP E 106 xs h Q :=
  CallP.enterQ (fn := Try.f106) (fn_get Try.func106) (code := Try.f106.body.get rfl) rfl rfl rfl (by kernel_rfl) rfl (fun _ => rfl) hl w
theorem can106 : callable E 106 = true := callable_get Try.func106 rfl rfl
def c107 : C := (.seq (.ops [⟨(some 3),.box 25 (.tmp 0),none⟩,
 ⟨(some 4),.box 107 (.tmp 1),none⟩,
 ⟨(some 6),.mov (.const (.bool false)),none⟩])
 (.seq (.seq (.ops [⟨(some 9),.fldA 1 (.tmp 3),none⟩,
 ⟨(some 10),.load1 (.tmp 9),none⟩,
 ⟨(some 11),.lenS (.tmp 10),none⟩,
 ⟨(some 12),.mov (.const (.int .i64 0)),none⟩])
 (.block 0 (.loop (.seq (.ops [⟨(some 13),.ar .i64 .lss (.tmp 12) (.tmp 11),none⟩])
 (.seq (.cond (.tmp 13) .skip
 (.exit 0))
 (.seq (.block 1 (.seq (.ops [⟨(some 14),.mov (.tmp 12),none⟩,
 ⟨(some 15),.idxS 1 (.tmp 10) (.tmp 12),none⟩,
 ⟨(some 16),.load1 (.tmp 15),none⟩,
 ⟨(some 7),.mov (.tmp 14),none⟩,
 ⟨(some 8),.mov (.tmp 16),none⟩])
 (.seq (.ops [⟨(some 17),.mov (.tmp 7),none⟩,
 ⟨(some 18),.idxA 5 1 (.tmp 4) (.tmp 17),none⟩,
 ⟨(some 19),.load1 (.tmp 18),none⟩,
 ⟨(some 20),.ar .i64 .gtr (.tmp 19) (.const (.int .i64 0)),none⟩,
 ⟨(some 21),.mov (.tmp 20),none⟩,
 ⟨(some 22),.mov (.tmp 8),(some (21,true))⟩,
 ⟨(some 23),.mov (.tmp 2),(some (21,true))⟩,
 ⟨(some 24),.ar .i64 .neq (.tmp 22) (.tmp 23),(some (21,true))⟩,
 ⟨(some 25),.pick (.tmp 21) (.tmp 24) (.const (.bool false)),none⟩])
 (.cond (.tmp 25) (.seq (.ops [⟨(some 6),.mov (.const (.bool false)),none⟩])
 .ret)
 .skip))))
 (.ops [⟨(some 26),.ar .i64 .add (.tmp 12) (.const (.int .i64 1)),none⟩,
 ⟨(some 12),.mov (.tmp 26),none⟩])))))))
 (.seq (.ops [⟨(some 6),.mov (.const (.bool true)),none⟩])
 .ret)))
theorem enter107 {xs : List Value} {h : Hp} {Q : Value → Hp → Prop} (hl : xs.length ≤ 27) (w : wq E 27 none c107 (frameOf xs) h [] (leaveQ E [.tmp 6] Q)) : CallP E 107 xs h Q :=
  CallP.enterQ (fn := Try.f107) (fn_get Try.func107) (code := Try.f107.body.get rfl) rfl rfl rfl (by kernel_rfl) rfl (fun _ => rfl) hl w
theorem can107 : callable E 107 = true := callable_get Try.func107 rfl rfl
def c108 : C := (.seq (.ops [⟨(some 6),.fldA 3 (.tmp 1),none⟩,
 ⟨(some 7),.load1 (.tmp 6),none⟩,
 ⟨(some 8),.loadN 5 (.tmp 2),none⟩,
 ⟨(some 9),.func (.func 74) [(.tmp 8)] [],none⟩,
 ⟨(some 10),.call 109 [(.tmp 7),(.tmp 9)],none⟩,
 ⟨(some 11),.lenS (.tmp 10),none⟩,
 ⟨(some 12),.mov (.const (.int .i64 0)),none⟩])
 (.block 0 (.loop (.seq (.ops [⟨(some 13),.ar .i64 .lss (.tmp 12) (.tmp 11),none⟩])
 (.seq (.cond (.tmp 13) .skip
 (.exit 0))
 (.seq (.block 1 (.seq (.ops [⟨(some 14),.idxS 1 (.tmp 10) (.tmp 12),none⟩,
 ⟨(some 15),.load1 (.tmp 14),none⟩,
 ⟨(some 5),.mov (.tmp 15),none⟩])
 (.seq (.draw [⟨(some 16),.mov (.tmp 0),none⟩,
 ⟨(some 17),.mov (.tmp 5),none⟩,
 ⟨(some 18),.loadN 5 (.tmp 2),none⟩,
 ⟨(some 19),.fldA 3 (.tmp 1),none⟩,
 ⟨(some 20),.load1 (.tmp 19),none⟩,
 ⟨(some 21),.mov (.tmp 5),none⟩,
 ⟨(some 22),.idxS 4 (.tmp 20) (.tmp 21),none⟩,
 ⟨(some 23),.loadN 4 (.tmp 22),none⟩,
 ⟨(some 24),.call 75 [(.tmp 18),(.tmp 23)],none⟩,
 ⟨(some 25),.callv (.tmp 16) [(.tmp 17),(.tmp 24)],none⟩,
 ⟨(some 26),.not (.tmp 25),none⟩]
 [⟨false,true,[false,false,false,false,false,false,false,false,false,false,false],[false,false,false,false,false,false,false,false,true,false,false]⟩,
 ⟨false,true,[false,false,false,false,false,false,false,false,false,false,false],[false,false,false,false,false,false,false,false,true,false,false]⟩,
 ⟨false,false,[false,false,false,false,false,false,false,false,false,false,false],[false,false,false,false,false,false,false,false,false,false,false]⟩,
 ⟨false,false,[false,false,false,false,false,false,false,false,false,false,false],[false,false,false,false,false,false,false,false,false,false,false]⟩,
 ⟨false,false,[false,false,false,false,false,false,false,false,false,false,false],[false,false,false,false,false,false,false,false,false,false,false]⟩,
 ⟨false,false,[false,false,false,false,false,false,false,false,false,false,false],[false,false,false,false,false,false,false,false,false,false,false]⟩,
 ⟨false,false,[false,false,false,false,false,false,false,false,false,false,false],[false,false,false,false,false,false,false,false,false,false,false]⟩,
 ⟨false,false,[false,false,false,false,false,false,false,false,false,false,false],[false,false,false,false,false,false,false,false,false,false,false]⟩,
 ⟨true,false,[false,false,false,false,false,false,false,false,false,false,false],[false,false,false,false,false,false,false,false,true,false,false]⟩,
 ⟨true,false,[false,false,false,false,false,false,false,false,true,false,false],[false,false,false,false,false,false,false,false,true,true,false]⟩,
 ⟨false,false,[false,false,false,false,false,false,false,false,true,true,false],[false,false,false,false,false,false,false,false,true,true,false]⟩])
 (.cond (.tmp 26) .ret
 .skip))))
 (.ops [⟨(some 27),.ar .i64 .add (.tmp 12) (.const (.int .i64 1)),none⟩,
 ⟨(some 12),.mov (.tmp 27),none⟩])))))))
theorem enter108 {xs : List Value} {h : Hp} {Q : Value → Hp → Prop} (hl : xs.length ≤ 28) (w : wq E 28 none c108 (frameOf xs) h [] (leaveQ E [] Q)) : CallP E 108 xs h Q :=
  CallP.enterQ (fn := Try.f108) (fn_get Try.func108) (code := Try.f108.body.get rfl) rfl rfl rfl (by kernel_rfl) rfl (fun _ => rfl) hl w
theorem can108 : callable E 108 = true := callable_get Try.func108 rfl rfl
def c109 : C := (.seq (.ops [⟨(some 4),.mov (.const (.slice none 0 0)),none⟩])
 (.seq (.ops [⟨(some 5),.mov (.const (.slice none 0 0)),none⟩])
 (.seq (.seq (.ops [⟨(some 8),.mov (.tmp 0),none⟩,
 ⟨(some 9),.lenS (.tmp 8),none⟩,
 ⟨(some 10),.mov (.const (.int .i64 0)),none⟩])
 (.block 0 (.loop (.seq (.ops [⟨(some 11),.ar .i64 .lss (.tmp 10) (.tmp 9),none⟩])
 (.seq (.cond (.tmp 11) .skip
 (.exit 0))
 (.seq (.block 1 (.seq (.ops [⟨(some 12),.mov (.tmp 10),none⟩,
 ⟨(some 13),.idxS 4 (.tmp 8) (.tmp 10),none⟩,
 ⟨(some 14),.loadN 4 (.tmp 13),none⟩,
 ⟨(some 7),.alloc 96 [(.int .i64 0),(.int .i64 0),(.int .i64 0),(.int .i64 0)],none⟩,
 ⟨(some 6),.mov (.tmp 12),none⟩,
 ⟨none,.store 4 (.tmp 7) (.tmp 14),none⟩])
 (.seq (.ops [⟨(some 15),.mov (.tmp 1),none⟩,
 ⟨(some 16),.loadN 4 (.tmp 7),none⟩,
 ⟨(some 17),.callv (.tmp 15) [(.tmp 16)],none⟩])
 (.cond (.tmp 17) (.ops [⟨(some 18),.mov (.tmp 5),none⟩,
 ⟨(some 19),.mov (.tmp 6),none⟩,
 ⟨(some 20),.slit 3 1 [(.int .i64 0)] [(0,1,(.tmp 19))],none⟩,
 ⟨(some 21),.append 3 1 8 (.tmp 18) (.tmp 20),none⟩,
 ⟨(some 5),.mov (.tmp 21),none⟩])
 .skip))))
 (.ops [⟨(some 22),.ar .i64 .add (.tmp 10) (.const (.int .i64 1)),none⟩,
 ⟨(some 10),.mov (.tmp 22),none⟩])))))))
 (.seq (.ops [⟨(some 23),.mov (.tmp 5),none⟩,
 ⟨(some 4),.mov (.tmp 23),none⟩])
 .ret))))
theorem enter109 {xs : List Value} {h : Hp} {Q : Value → Hp → Prop} (hl : xs.length ≤ 24) (w : wq E 24 none c109 (frameOf xs) h [] (leaveQ E [.tmp 4] Q)) : CallP E 109 xs h Q :=
  CallP.enterQ (fn := Try.f109) (fn_get Try.func109) (code := Try.f109.body.get rfl) rfl rfl rfl (by kernel_rfl) rfl (fun _ => rfl) hl w
theorem can109 : callable E 109 = true := callable_get Try.func109 rfl rfl
def c112 : C := (.seq (.ops [⟨(some 4),.mov (.const (.int .i64 0)),none⟩])
 (.seq (.seq (.ops [⟨(some 6),.mov (.tmp 0),none⟩,
 ⟨(some 7),.lenS (.tmp 6),none⟩,
 ⟨(some 8),.mov (.const (.int .i64 0)),none⟩])
 (.block 0 (.loop (.seq (.ops [⟨(some 9),.ar .i64 .lss (.tmp 8) (.tmp 7),none⟩])
 (.seq (.cond (.tmp 9) .skip
 (.exit 0))
 (.seq (.block 1 (.seq (.ops [⟨(some 10),.mov (.tmp 8),none⟩,
 ⟨(some 5),.mov (.tmp 10),none⟩])
 (.seq (.ops [⟨(some 11),.mov (.tmp 1),none⟩,
 ⟨(some 12),.mov (.tmp 0),none⟩,
 ⟨(some 13),.mov (.tmp 5),none⟩,
 ⟨(some 14),.idxS 1 (.tmp 12) (.tmp 13),none⟩,
 ⟨(some 15),.load1 (.tmp 14),none⟩,
 ⟨(some 16),.callv (.tmp 11) [(.tmp 15)],none⟩])
 (.cond (.tmp 16) (.seq (.ops [⟨(some 17),.mov (.tmp 5),none⟩,
 ⟨(some 4),.mov (.tmp 17),none⟩])
 .ret)
 .skip))))
 (.ops [⟨(some 18),.ar .i64 .add (.tmp 8) (.const (.int .i64 1)),none⟩,
 ⟨(some 8),.mov (.tmp 18),none⟩])))))))
 (.seq (.ops [⟨(some 4),.mov (.const (.int .i64 (-1))),none⟩])
 .ret)))
theorem enter112 {xs : List Value} {h : Hp} {Q : Value → Hp → Prop} (hl : xs.length ≤ 19) (w : wq E 19 none c112 (frameOf xs) h [] (leaveQ E [.tmp 4] Q)) : CallP E 112 xs h Q :=
  CallP.enterQ (fn := Try.f112) (fn_get Try.func112) (code := Try.f112.body.get rfl) rfl rfl rfl (by kernel_rfl) rfl (fun _ => rfl) hl w
theorem can112 : callable E 112 = true := callable_get Try.func112 rfl rfl
end
end Go.Proofs.Ytpiplaicnbapbaa
