/- The code of the functions that Lamps comes to. -/
import Derived.Test.YticmdpcahpimhaaTypesC
set_option maxRecDepth 100000
set_option linter.unusedSectionVars false
set_option linter.unusedVariables false
namespace Go.Proofs.Yticmdpcahpimhaa
open Go.Rx Go.RowKit
noncomputable section
variable [Unknowns]
/-- tosher/tosherlaw08.SearchLamps -/
def c10 : C := (.seq (.ops [⟨(some 6), .mov (.const (.bool false)), none⟩])
 (.seq (.seq (.ops [⟨(some 7), .mov (.const (.int .i64 0)), none⟩])
 (.block 0 (.loop (.seq (.seq (.ops [⟨(some 15), .mov (.tmp 7), none⟩,
  ⟨(some 16), .ar .i64 .lss (.tmp 15) (.const (.int .i64 2)), none⟩])
 (.cond (.tmp 16) .skip
 (.exit 0)))
 (.seq (.block 1 (.seq (.ops [⟨(some 20), .mov (.tmp 0), none⟩,
  ⟨(some 21), .mov (.tmp 1), none⟩,
  ⟨(some 22), .call 49 [(.tmp 20), (.tmp 21)], none⟩,
  ⟨(some 19), .mov (.tmp 22), none⟩,
  ⟨(some 23), .ext (.tmp 19) 0, none⟩,
  ⟨(some 24), .ext (.tmp 19) 1, none⟩,
  ⟨(some 8), .mov (.tmp 23), none⟩,
  ⟨(some 9), .mov (.tmp 24), none⟩])
 (.seq (.seq (.ops [⟨(some 25), .mov (.tmp 0), none⟩,
  ⟨(some 26), .ar .i64 .lss (.tmp 25) (.const (.int .i64 0)), none⟩,
  ⟨(some 27), .mov (.tmp 26), none⟩,
  ⟨(some 28), .mov (.tmp 0), (some (27, false))⟩,
  ⟨(some 29), .ar .i64 .gtr (.tmp 28) (.const (.int .i64 20)), (some (27, false))⟩,
  ⟨(some 30), .pick (.tmp 27) (.const (.bool true)) (.tmp 29), none⟩,
  ⟨(some 31), .mov (.tmp 30), none⟩,
  ⟨(some 32), .mov (.tmp 1), (some (31, false))⟩,
  ⟨(some 33), .ar .i64 .lss (.tmp 32) (.const (.int .i64 0)), (some (31, false))⟩,
  ⟨(some 34), .pick (.tmp 31) (.const (.bool true)) (.tmp 33), none⟩,
  ⟨(some 35), .mov (.tmp 34), none⟩,
  ⟨(some 36), .mov (.tmp 1), (some (35, false))⟩,
  ⟨(some 37), .ar .i64 .gtr (.tmp 36) (.const (.int .i64 60)), (some (35, false))⟩,
  ⟨(some 38), .pick (.tmp 35) (.const (.bool true)) (.tmp 37), none⟩])
 (.cond (.tmp 38) (.seq (.ops [⟨(some 39), .mov (.tmp 9), none⟩,
  ⟨(some 40), .ar .i64 .neq (.tmp 39) (.const (.int .i64 1)), none⟩,
  ⟨(some 41), .mov (.tmp 40), none⟩,
  ⟨(some 42), .mov (.tmp 8), (some (41, false))⟩,
  ⟨(some 43), .ar .i64 .neq (.tmp 42) (.const (.int .i64 0)), (some (41, false))⟩,
  ⟨(some 44), .pick (.tmp 41) (.const (.bool true)) (.tmp 43), none⟩])
 (.cond (.tmp 44) (.seq (.ops [⟨(some 6), .mov (.const (.bool false)), none⟩])
 .ret)
 .skip))
 (.seq (.ops [⟨(some 45), .mov (.tmp 9), none⟩,
  ⟨(some 46), .ar .i64 .neq (.tmp 45) (.const (.int .i64 0)), none⟩,
  ⟨(some 47), .mov (.tmp 46), none⟩,
  ⟨(some 48), .mov (.tmp 8), (some (47, false))⟩,
  ⟨(some 49), .mov (.tmp 0), (some (47, false))⟩,
  ⟨(some 50), .mov (.tmp 1), (some (47, false))⟩,
  ⟨(some 51), .call 50 [(.tmp 49), (.tmp 50)], (some (47, false))⟩,
  ⟨(some 52), .ar .i64 .neq (.tmp 48) (.tmp 51), (some (47, false))⟩,
  ⟨(some 53), .pick (.tmp 47) (.const (.bool true)) (.tmp 52), none⟩])
 (.cond (.tmp 53) (.seq (.ops [⟨(some 6), .mov (.const (.bool false)), none⟩])
 .ret)
 .skip))))
 (.seq (.ops [⟨(some 55), .mov (.tmp 0), none⟩,
  ⟨(some 56), .mov (.tmp 2), none⟩,
  ⟨(some 57), .call 51 [(.tmp 55), (.tmp 56)], none⟩,
  ⟨(some 54), .mov (.tmp 57), none⟩,
  ⟨(some 58), .ext (.tmp 54) 0, none⟩,
  ⟨(some 59), .ext (.tmp 54) 1, none⟩,
  ⟨(some 10), .mov (.tmp 58), none⟩,
  ⟨(some 11), .mov (.tmp 59), none⟩])
 (.seq (.ops [⟨(some 61), .mov (.tmp 0), none⟩,
  ⟨(some 62), .mov (.tmp 2), none⟩,
  ⟨(some 63), .call 52 [(.tmp 61), (.tmp 62)], none⟩,
  ⟨(some 60), .mov (.tmp 63), none⟩,
  ⟨(some 64), .ext (.tmp 60) 0, none⟩,
  ⟨(some 65), .ext (.tmp 60) 1, none⟩,
  ⟨(some 12), .mov (.tmp 64), none⟩,
  ⟨(some 13), .mov (.tmp 65), none⟩])
 (.seq (.seq (.ops [⟨(some 66), .mov (.tmp 0), none⟩,
  ⟨(some 67), .ar .i64 .lss (.tmp 66) (.const (.int .i64 1)), none⟩,
  ⟨(some 68), .mov (.tmp 67), none⟩,
  ⟨(some 69), .mov (.tmp 0), (some (68, false))⟩,
  ⟨(some 70), .ar .i64 .gtr (.tmp 69) (.const (.int .i64 20)), (some (68, false))⟩,
  ⟨(some 71), .pick (.tmp 68) (.const (.bool true)) (.tmp 70), none⟩,
  ⟨(some 72), .mov (.tmp 71), none⟩,
  ⟨(some 73), .mov (.tmp 2), (some (72, false))⟩,
  ⟨(some 74), .ar .i64 .lss (.tmp 73) (.const (.int .i64 0)), (some (72, false))⟩,
  ⟨(some 75), .pick (.tmp 72) (.const (.bool true)) (.tmp 74), none⟩,
  ⟨(some 76), .mov (.tmp 75), none⟩,
  ⟨(some 77), .mov (.tmp 2), (some (76, false))⟩,
  ⟨(some 78), .ar .i64 .gtr (.tmp 77) (.const (.int .i64 1000000000000)), (some (76, false))⟩,
  ⟨(some 79), .pick (.tmp 76) (.const (.bool true)) (.tmp 78), none⟩])
 (.cond (.tmp 79) (.seq (.ops [⟨(some 80), .mov (.tmp 11), none⟩,
  ⟨(some 81), .ar .i64 .neq (.tmp 80) (.const (.int .i64 1)), none⟩,
  ⟨(some 82), .mov (.tmp 81), none⟩,
  ⟨(some 83), .mov (.tmp 13), (some (82, false))⟩,
  ⟨(some 84), .ar .i64 .neq (.tmp 83) (.const (.int .i64 1)), (some (82, false))⟩,
  ⟨(some 85), .pick (.tmp 82) (.const (.bool true)) (.tmp 84), none⟩,
  ⟨(some 86), .mov (.tmp 85), none⟩,
  ⟨(some 87), .mov (.tmp 10), (some (86, false))⟩,
  ⟨(some 88), .ar .i64 .neq (.tmp 87) (.const (.int .i64 0)), (some (86, false))⟩,
  ⟨(some 89), .pick (.tmp 86) (.const (.bool true)) (.tmp 88), none⟩,
  ⟨(some 90), .mov (.tmp 89), none⟩,
  ⟨(some 91), .mov (.tmp 12), (some (90, false))⟩,
  ⟨(some 92), .ar .i64 .neq (.tmp 91) (.const (.int .i64 0)), (some (90, false))⟩,
  ⟨(some 93), .pick (.tmp 90) (.const (.bool true)) (.tmp 92), none⟩])
 (.cond (.tmp 93) (.seq (.ops [⟨(some 6), .mov (.const (.bool false)), none⟩])
 .ret)
 .skip))
 (.seq (.ops [⟨(some 94), .mov (.tmp 0), none⟩,
  ⟨(some 95), .mov (.tmp 2), none⟩,
  ⟨(some 96), .call 53 [(.tmp 94), (.tmp 95)], none⟩,
  ⟨(some 14), .mov (.tmp 96), none⟩])
 (.seq (.seq (.ops [⟨(some 97), .mov (.tmp 14), none⟩,
  ⟨(some 98), .ar .i64 .lss (.tmp 97) (.const (.int .i64 0)), none⟩,
  ⟨(some 99), .mov (.tmp 98), none⟩,
  ⟨(some 100), .mov (.tmp 11), (some (99, true))⟩,
  ⟨(some 101), .ar .i64 .neq (.tmp 100) (.const (.int .i64 8)), (some (99, true))⟩,
  ⟨(some 102), .mov (.tmp 101), (some (99, true))⟩,
  ⟨(some 103), .mov (.tmp 10), (some (102, false))⟩,
  ⟨(some 104), .ar .i64 .neq (.tmp 103) (.const (.int .i64 0)), (some (102, false))⟩,
  ⟨(some 105), .pick (.tmp 102) (.const (.bool true)) (.tmp 104), (some (99, true))⟩,
  ⟨(some 106), .pick (.tmp 99) (.tmp 105) (.const (.bool false)), none⟩,
  ⟨(some 107), .mov (.tmp 106), none⟩,
  ⟨(some 108), .mov (.tmp 14), (some (107, false))⟩,
  ⟨(some 109), .ar .i64 .geq (.tmp 108) (.const (.int .i64 0)), (some (107, false))⟩,
  ⟨(some 110), .mov (.tmp 109), (some (107, false))⟩,
  ⟨(some 111), .mov (.tmp 11), (some (110, true))⟩,
  ⟨(some 112), .ar .i64 .neq (.tmp 111) (.const (.int .i64 0)), (some (110, true))⟩,
  ⟨(some 113), .mov (.tmp 112), (some (110, true))⟩,
  ⟨(some 114), .mov (.tmp 10), (some (113, false))⟩,
  ⟨(some 115), .mov (.tmp 14), (some (113, false))⟩,
  ⟨(some 116), .ar .i64 .neq (.tmp 114) (.tmp 115), (some (113, false))⟩,
  ⟨(some 117), .pick (.tmp 113) (.const (.bool true)) (.tmp 116), (some (110, true))⟩,
  ⟨(some 118), .pick (.tmp 110) (.tmp 117) (.const (.bool false)), (some (107, false))⟩,
  ⟨(some 119), .pick (.tmp 107) (.const (.bool true)) (.tmp 118), none⟩])
 (.cond (.tmp 119) (.seq (.ops [⟨(some 6), .mov (.const (.bool false)), none⟩])
 .ret)
 .skip))
 (.block 2 (.seq (.ops [⟨(some 143), .mov (.tmp 2), none⟩,
  ⟨(some 144), .ar .i64 .eql (.tmp 143) (.const (.int .i64 0)), none⟩,
  ⟨(some 142), .mov (.tmp 144), none⟩])
 (.cond (.tmp 142) (.seq (.ops [⟨(some 145), .mov (.tmp 13), none⟩,
  ⟨(some 146), .ar .i64 .neq (.tmp 145) (.const (.int .i64 1)), none⟩,
  ⟨(some 147), .mov (.tmp 146), none⟩,
  ⟨(some 148), .mov (.tmp 12), (some (147, false))⟩,
  ⟨(some 149), .ar .i64 .neq (.tmp 148) (.const (.int .i64 0)), (some (147, false))⟩,
  ⟨(some 150), .pick (.tmp 147) (.const (.bool true)) (.tmp 149), none⟩])
 (.cond (.tmp 150) (.seq (.ops [⟨(some 6), .mov (.const (.bool false)), none⟩])
 .ret)
 .skip))
 (.seq (.ops [⟨(some 152), .mov (.tmp 14), none⟩,
  ⟨(some 153), .ar .i64 .lss (.tmp 152) (.const (.int .i64 0)), none⟩,
  ⟨(some 151), .mov (.tmp 153), none⟩])
 (.cond (.tmp 151) (.seq (.ops [⟨(some 154), .mov (.tmp 13), none⟩,
  ⟨(some 155), .ar .i64 .neq (.tmp 154) (.const (.int .i64 8)), none⟩,
  ⟨(some 156), .mov (.tmp 155), none⟩,
  ⟨(some 157), .mov (.tmp 12), (some (156, false))⟩,
  ⟨(some 158), .ar .i64 .neq (.tmp 157) (.const (.int .i64 0)), (some (156, false))⟩,
  ⟨(some 159), .pick (.tmp 156) (.const (.bool true)) (.tmp 158), none⟩])
 (.cond (.tmp 159) (.seq (.ops [⟨(some 6), .mov (.const (.bool false)), none⟩])
 .ret)
 .skip))
 (.seq (.ops [⟨(some 120), .mov (.tmp 13), none⟩,
  ⟨(some 121), .ar .i64 .neq (.tmp 120) (.const (.int .i64 0)), none⟩,
  ⟨(some 122), .mov (.tmp 121), none⟩,
  ⟨(some 123), .mov (.tmp 0), (some (122, false))⟩,
  ⟨(some 124), .mov (.tmp 14), (some (122, false))⟩,
  ⟨(some 125), .mov (.tmp 2), (some (122, false))⟩,
  ⟨(some 126), .mov (.tmp 12), (some (122, false))⟩,
  ⟨(some 127), .call 54 [(.tmp 123), (.tmp 124), (.tmp 125), (.tmp 126)], (some (122, false))⟩,
  ⟨(some 128), .not (.tmp 127), (some (122, false))⟩,
  ⟨(some 129), .pick (.tmp 122) (.const (.bool true)) (.tmp 128), none⟩,
  ⟨(some 130), .mov (.tmp 129), none⟩,
  ⟨(some 131), .mov (.tmp 12), (some (130, false))⟩,
  ⟨(some 132), .ar .i64 .gtr (.tmp 131) (.const (.int .i64 1)), (some (130, false))⟩,
  ⟨(some 133), .mov (.tmp 132), (some (130, false))⟩,
  ⟨(some 134), .mov (.tmp 0), (some (133, true))⟩,
  ⟨(some 135), .mov (.tmp 14), (some (133, true))⟩,
  ⟨(some 136), .mov (.tmp 2), (some (133, true))⟩,
  ⟨(some 137), .mov (.tmp 12), (some (133, true))⟩,
  ⟨(some 138), .ar .i64 .sub (.tmp 137) (.const (.int .i64 1)), (some (133, true))⟩,
  ⟨(some 139), .call 54 [(.tmp 134), (.tmp 135), (.tmp 136), (.tmp 138)], (some (133, true))⟩,
  ⟨(some 140), .pick (.tmp 133) (.tmp 139) (.const (.bool false)), (some (130, false))⟩,
  ⟨(some 141), .pick (.tmp 130) (.const (.bool true)) (.tmp 140), none⟩])
 (.cond (.tmp 141) (.seq (.ops [⟨(some 6), .mov (.const (.bool false)), none⟩])
 .ret)
 .skip)))))))))))
 (.seq (.ops [⟨(some 160), .mov (.tmp 0), none⟩,
  ⟨(some 161), .cint .u64 (.tmp 160), none⟩,
  ⟨(some 162), .ar .u64 .rem (.tmp 161) (.const (.int .u64 20)), none⟩,
  ⟨(some 163), .cint .i64 (.tmp 162), none⟩,
  ⟨(some 164), .ar .i64 .add (.const (.int .i64 1)) (.tmp 163), none⟩,
  ⟨(some 0), .mov (.tmp 164), none⟩])
 (.seq (.ops [⟨(some 165), .mov (.tmp 1), none⟩,
  ⟨(some 166), .cint .u64 (.tmp 165), none⟩,
  ⟨(some 167), .ar .u64 .rem (.tmp 166) (.const (.int .u64 61)), none⟩,
  ⟨(some 168), .cint .i64 (.tmp 167), none⟩,
  ⟨(some 1), .mov (.tmp 168), none⟩])
 (.seq (.ops [⟨(some 169), .mov (.tmp 2), none⟩,
  ⟨(some 170), .cint .u64 (.tmp 169), none⟩,
  ⟨(some 171), .ar .u64 .rem (.tmp 170) (.const (.int .u64 1000000000001)), none⟩,
  ⟨(some 172), .cint .i64 (.tmp 171), none⟩,
  ⟨(some 2), .mov (.tmp 172), none⟩])
 (.seq (.ops [⟨(some 173), .mov (.tmp 1), none⟩,
  ⟨(some 174), .ar .i64 .rem (.tmp 173) (.const (.int .i64 2)), none⟩,
  ⟨(some 175), .ar .i64 .eql (.tmp 174) (.const (.int .i64 0)), none⟩])
 (.cond (.tmp 175) (.ops [⟨(some 176), .mov (.tmp 2), none⟩,
  ⟨(some 177), .ar .i64 .rem (.tmp 176) (.const (.int .i64 2000)), none⟩,
  ⟨(some 2), .mov (.tmp 177), none⟩])
 .skip)))))))))))
 (.ops [⟨(some 17), .mov (.tmp 7), none⟩,
  ⟨(some 18), .ar .i64 .add (.tmp 17) (.const (.int .i64 1)), none⟩,
  ⟨(some 7), .mov (.tmp 18), none⟩]))))))
 (.seq (.ops [⟨(some 178), .call 27 [], none⟩,
  ⟨(some 6), .mov (.tmp 178), none⟩])
 .ret)))
theorem enter10 {xs : List Value} {h : Hp} {Q : Value → Hp → Prop} (hl : xs.length ≤ 179) (w : wq E 179 none c10 (frameOf xs) h [] (leaveQ E [.tmp 6] Q)) : CallP E 10 xs h Q :=
  CallP.enterQ (fn := Try.f10) (fn_get Try.func10) (code := Try.f10.body.get rfl) rfl rfl rfl (by kernel_rfl) rfl (fun _ => rfl) hl w
theorem can10 : callable E 10 = true := callable_get Try.func10 rfl rfl

theorem memo27 {h : Hp} {Q : Value → Hp → Prop} (q : Q (.bool true) h) : CallP E 27 [] h Q := CallP.memo rfl q

/-- tosher/search.Steps -/
def c49 : C := (.seq (.ops [⟨(some 4), .mov (.const (.int .i64 0)), none⟩,
  ⟨(some 5), .mov (.const (.int .i64 0)), none⟩])
 (.seq (.seq (.ops [⟨(some 6), .mov (.tmp 0), none⟩,
  ⟨(some 7), .slit 3 1 [(.int .i64 0)] [(0, 1, (.tmp 6))], none⟩,
  ⟨(some 8), .call 55 [(.const (.int .i64 0)), (.const (.int .i64 20)), (.tmp 7)], none⟩,
  ⟨(some 9), .not (.tmp 8), none⟩,
  ⟨(some 10), .mov (.tmp 9), none⟩,
  ⟨(some 11), .mov (.tmp 1), (some (10, false))⟩,
  ⟨(some 12), .slit 3 1 [(.int .i64 0)] [(0, 1, (.tmp 11))], (some (10, false))⟩,
  ⟨(some 13), .call 55 [(.const (.int .i64 0)), (.const (.int .i64 60)), (.tmp 12)], (some (10, false))⟩,
  ⟨(some 14), .not (.tmp 13), (some (10, false))⟩,
  ⟨(some 15), .pick (.tmp 10) (.const (.bool true)) (.tmp 14), none⟩])
 (.cond (.tmp 15) (.seq (.ops [⟨(some 4), .mov (.const (.int .i64 0)), none⟩,
  ⟨(some 5), .mov (.const (.int .i64 1)), none⟩])
 .ret)
 .skip))
 (.seq (.ops [⟨(some 16), .mov (.tmp 0), none⟩,
  ⟨(some 17), .mov (.tmp 1), none⟩,
  ⟨(some 18), .call 75 [(.tmp 16), (.tmp 17)], none⟩,
  ⟨(some 4), .mov (.tmp 18), none⟩,
  ⟨(some 5), .mov (.const (.int .i64 0)), none⟩])
 .ret)))
theorem enter49 {xs : List Value} {h : Hp} {Q : Value → Hp → Prop} (hl : xs.length ≤ 19) (w : wq E 19 none c49 (frameOf xs) h [] (leaveQ E [.tmp 4, .tmp 5] Q)) : CallP E 49 xs h Q :=
  CallP.enterQ (fn := Try.f49) (fn_get Try.func49) (code := Try.f49.body.get rfl) rfl rfl rfl (by kernel_rfl) rfl (fun _ => rfl) hl w
theorem can49 : callable E 49 = true := callable_get Try.func49 rfl rfl

/-- tosher/tosherref08.Steps -/
def c50 : C := (.seq (.ops [⟨(some 4), .mov (.const (.int .i64 0)), none⟩])
 (.seq (.ops [⟨(some 8), .mov (.tmp 0), none⟩,
  ⟨(some 9), .ar .i64 .add (.tmp 8) (.const (.int .i64 1)), none⟩,
  ⟨(some 10), .make 2 [(.int .i64 0)] 8 (.tmp 9) (.tmp 9), none⟩,
  ⟨(some 5), .mov (.tmp 10), none⟩])
 (.seq (.seq (.ops [⟨(some 6), .mov (.const (.int .i64 0)), none⟩])
 (.block 0 (.loop (.seq (.seq (.ops [⟨(some 11), .mov (.tmp 6), none⟩,
  ⟨(some 12), .mov (.tmp 1), none⟩,
  ⟨(some 13), .ar .i64 .lss (.tmp 11) (.tmp 12), none⟩])
 (.cond (.tmp 13) .skip
 (.exit 0)))
 (.seq (.block 1 (.seq (.ops [⟨(some 16), .mov (.tmp 0), none⟩,
  ⟨(some 7), .mov (.tmp 16), none⟩])
 (.block 2 (.loop (.seq (.seq (.ops [⟨(some 17), .mov (.tmp 7), none⟩,
  ⟨(some 18), .ar .i64 .geq (.tmp 17) (.const (.int .i64 1)), none⟩])
 (.cond (.tmp 18) .skip
 (.exit 2)))
 (.seq (.block 3 (.ops [⟨(some 21), .mov (.tmp 5), none⟩,
  ⟨(some 22), .mov (.tmp 7), none⟩,
  ⟨(some 23), .mov (.tmp 5), none⟩,
  ⟨(some 24), .mov (.tmp 7), none⟩,
  ⟨(some 25), .idxS 1 (.tmp 23) (.tmp 24), none⟩,
  ⟨(some 26), .load1 (.tmp 25), none⟩,
  ⟨(some 27), .ar .i64 .add (.tmp 26) (.const (.int .i64 1)), none⟩,
  ⟨(some 28), .mov (.tmp 5), none⟩,
  ⟨(some 29), .mov (.tmp 7), none⟩,
  ⟨(some 30), .ar .i64 .sub (.tmp 29) (.const (.int .i64 1)), none⟩,
  ⟨(some 31), .idxS 1 (.tmp 28) (.tmp 30), none⟩,
  ⟨(some 32), .load1 (.tmp 31), none⟩,
  ⟨(some 33), .ar .i64 .add (.tmp 27) (.tmp 32), none⟩,
  ⟨(some 34), .idxS 1 (.tmp 21) (.tmp 22), none⟩,
  ⟨none, .store 1 (.tmp 34) (.tmp 33), none⟩]))
 (.ops [⟨(some 19), .mov (.tmp 7), none⟩,
  ⟨(some 20), .ar .i64 .sub (.tmp 19) (.const (.int .i64 1)), none⟩,
  ⟨(some 7), .mov (.tmp 20), none⟩])))))))
 (.ops [⟨(some 14), .mov (.tmp 6), none⟩,
  ⟨(some 15), .ar .i64 .add (.tmp 14) (.const (.int .i64 1)), none⟩,
  ⟨(some 6), .mov (.tmp 15), none⟩]))))))
 (.seq (.ops [⟨(some 35), .mov (.tmp 5), none⟩,
  ⟨(some 36), .mov (.tmp 0), none⟩,
  ⟨(some 37), .idxS 1 (.tmp 35) (.tmp 36), none⟩,
  ⟨(some 38), .load1 (.tmp 37), none⟩,
  ⟨(some 4), .mov (.tmp 38), none⟩])
 .ret))))
theorem enter50 {xs : List Value} {h : Hp} {Q : Value → Hp → Prop} (hl : xs.length ≤ 39) (w : wq E 39 none c50 (frameOf xs) h [] (leaveQ E [.tmp 4] Q)) : CallP E 50 xs h Q :=
  CallP.enterQ (fn := Try.f50) (fn_get Try.func50) (code := Try.f50.body.get rfl) rfl rfl rfl (by kernel_rfl) rfl (fun _ => rfl) hl w
theorem can50 : callable E 50 = true := callable_get Try.func50 rfl rfl

/-- tosher/search.Tries -/
def c51 : C := (.seq (.ops [⟨(some 4), .mov (.const (.int .i64 0)), none⟩,
  ⟨(some 5), .mov (.const (.int .i64 0)), none⟩])
 (.seq (.seq (.ops [⟨(some 7), .mov (.tmp 0), none⟩,
  ⟨(some 8), .slit 3 1 [(.int .i64 0)] [(0, 1, (.tmp 7))], none⟩,
  ⟨(some 9), .call 55 [(.const (.int .i64 1)), (.const (.int .i64 20)), (.tmp 8)], none⟩,
  ⟨(some 10), .not (.tmp 9), none⟩,
  ⟨(some 11), .mov (.tmp 10), none⟩,
  ⟨(some 12), .mov (.tmp 1), (some (11, false))⟩,
  ⟨(some 13), .ar .i64 .lss (.tmp 12) (.const (.int .i64 0)), (some (11, false))⟩,
  ⟨(some 14), .pick (.tmp 11) (.const (.bool true)) (.tmp 13), none⟩,
  ⟨(some 15), .mov (.tmp 14), none⟩,
  ⟨(some 16), .mov (.tmp 1), (some (15, false))⟩,
  ⟨(some 17), .ar .i64 .gtr (.tmp 16) (.const (.int .i64 1000000000000)), (some (15, false))⟩,
  ⟨(some 18), .pick (.tmp 15) (.const (.bool true)) (.tmp 17), none⟩])
 (.cond (.tmp 18) (.seq (.ops [⟨(some 4), .mov (.const (.int .i64 0)), none⟩,
  ⟨(some 5), .mov (.const (.int .i64 1)), none⟩])
 .ret)
 .skip))
 (.seq (.seq (.ops [⟨(some 19), .mov (.const (.int .i64 0)), none⟩])
 (.block 0 (.loop (.seq (.ops [⟨(some 20), .ar .i64 .lss (.tmp 19) (.const (.int .i64 61)), none⟩])
 (.seq (.cond (.tmp 20) .skip
 (.exit 0))
 (.seq (.block 1 (.seq (.ops [⟨(some 21), .mov (.tmp 19), none⟩,
  ⟨(some 6), .mov (.tmp 21), none⟩])
 (.seq (.ops [⟨(some 22), .mov (.tmp 0), none⟩,
  ⟨(some 23), .mov (.tmp 6), none⟩,
  ⟨(some 24), .call 75 [(.tmp 22), (.tmp 23)], none⟩,
  ⟨(some 25), .mov (.tmp 1), none⟩,
  ⟨(some 26), .ar .i64 .geq (.tmp 24) (.tmp 25), none⟩])
 (.cond (.tmp 26) (.seq (.ops [⟨(some 27), .mov (.tmp 6), none⟩,
  ⟨(some 4), .mov (.tmp 27), none⟩,
  ⟨(some 5), .mov (.const (.int .i64 0)), none⟩])
 .ret)
 .skip))))
 (.ops [⟨(some 28), .ar .i64 .add (.tmp 19) (.const (.int .i64 1)), none⟩,
  ⟨(some 19), .mov (.tmp 28), none⟩])))))))
 (.seq (.ops [⟨(some 4), .mov (.const (.int .i64 0)), none⟩,
  ⟨(some 5), .mov (.const (.int .i64 8)), none⟩])
 .ret))))
theorem enter51 {xs : List Value} {h : Hp} {Q : Value → Hp → Prop} (hl : xs.length ≤ 29) (w : wq E 29 none c51 (frameOf xs) h [] (leaveQ E [.tmp 4, .tmp 5] Q)) : CallP E 51 xs h Q :=
  CallP.enterQ (fn := Try.f51) (fn_get Try.func51) (code := Try.f51.body.get rfl) rfl rfl rfl (by kernel_rfl) rfl (fun _ => rfl) hl w
theorem can51 : callable E 51 = true := callable_get Try.func51 rfl rfl

/-- tosher/search.Drop -/
def c52 : C := (.seq (.ops [⟨(some 4), .mov (.const (.int .i64 0)), none⟩,
  ⟨(some 5), .mov (.const (.int .i64 0)), none⟩])
 (.seq (.ops [⟨(some 9), .mov (.tmp 0), none⟩,
  ⟨(some 10), .mov (.tmp 1), none⟩,
  ⟨(some 11), .call 51 [(.tmp 9), (.tmp 10)], none⟩,
  ⟨(some 8), .mov (.tmp 11), none⟩,
  ⟨(some 12), .ext (.tmp 8) 0, none⟩,
  ⟨(some 13), .ext (.tmp 8) 1, none⟩,
  ⟨(some 6), .mov (.tmp 12), none⟩,
  ⟨(some 7), .mov (.tmp 13), none⟩])
 (.seq (.seq (.ops [⟨(some 14), .mov (.tmp 7), none⟩,
  ⟨(some 15), .ar .i64 .neq (.tmp 14) (.const (.int .i64 0)), none⟩])
 (.cond (.tmp 15) (.seq (.ops [⟨(some 16), .mov (.tmp 7), none⟩,
  ⟨(some 4), .mov (.const (.int .i64 0)), none⟩,
  ⟨(some 5), .mov (.tmp 16), none⟩])
 .ret)
 .skip))
 (.seq (.seq (.ops [⟨(some 17), .mov (.tmp 1), none⟩,
  ⟨(some 18), .ar .i64 .eql (.tmp 17) (.const (.int .i64 0)), none⟩])
 (.cond (.tmp 18) (.seq (.ops [⟨(some 4), .mov (.const (.int .i64 0)), none⟩,
  ⟨(some 5), .mov (.const (.int .i64 1)), none⟩])
 .ret)
 .skip))
 (.seq (.ops [⟨(some 19), .mov (.tmp 1), none⟩,
  ⟨(some 20), .mov (.tmp 0), none⟩,
  ⟨(some 21), .mov (.tmp 6), none⟩,
  ⟨(some 22), .ar .i64 .sub (.tmp 21) (.const (.int .i64 1)), none⟩,
  ⟨(some 23), .call 75 [(.tmp 20), (.tmp 22)], none⟩,
  ⟨(some 24), .ar .i64 .sub (.tmp 19) (.tmp 23), none⟩,
  ⟨(some 4), .mov (.tmp 24), none⟩,
  ⟨(some 5), .mov (.const (.int .i64 0)), none⟩])
 .ret)))))
theorem enter52 {xs : List Value} {h : Hp} {Q : Value → Hp → Prop} (hl : xs.length ≤ 25) (w : wq E 25 none c52 (frameOf xs) h [] (leaveQ E [.tmp 4, .tmp 5] Q)) : CallP E 52 xs h Q :=
  CallP.enterQ (fn := Try.f52) (fn_get Try.func52) (code := Try.f52.body.get rfl) rfl rfl rfl (by kernel_rfl) rfl (fun _ => rfl) hl w
theorem can52 : callable E 52 = true := callable_get Try.func52 rfl rfl

/-- tosher/tosherref08.Tries -/
def c53 : C := (.seq (.ops [⟨(some 4), .mov (.const (.int .i64 0)), none⟩])
 (.seq (.seq (.ops [⟨(some 5), .mov (.const (.int .i64 0)), none⟩])
 (.block 0 (.loop (.seq (.seq (.ops [⟨(some 6), .mov (.tmp 5), none⟩,
  ⟨(some 7), .ar .i64 .leq (.tmp 6) (.const (.int .i64 60)), none⟩])
 (.cond (.tmp 7) .skip
 (.exit 0)))
 (.seq (.block 1 (.seq (.ops [⟨(some 10), .mov (.tmp 0), none⟩,
  ⟨(some 11), .mov (.tmp 5), none⟩,
  ⟨(some 12), .call 50 [(.tmp 10), (.tmp 11)], none⟩,
  ⟨(some 13), .mov (.tmp 1), none⟩,
  ⟨(some 14), .ar .i64 .geq (.tmp 12) (.tmp 13), none⟩])
 (.cond (.tmp 14) (.seq (.ops [⟨(some 15), .mov (.tmp 5), none⟩,
  ⟨(some 4), .mov (.tmp 15), none⟩])
 .ret)
 .skip)))
 (.ops [⟨(some 8), .mov (.tmp 5), none⟩,
  ⟨(some 9), .ar .i64 .add (.tmp 8) (.const (.int .i64 1)), none⟩,
  ⟨(some 5), .mov (.tmp 9), none⟩]))))))
 (.seq (.ops [⟨(some 4), .mov (.const (.int .i64 (-1))), none⟩])
 .ret)))
theorem enter53 {xs : List Value} {h : Hp} {Q : Value → Hp → Prop} (hl : xs.length ≤ 16) (w : wq E 16 none c53 (frameOf xs) h [] (leaveQ E [.tmp 4] Q)) : CallP E 53 xs h Q :=
  CallP.enterQ (fn := Try.f53) (fn_get Try.func53) (code := Try.f53.body.get rfl) rfl rfl rfl (by kernel_rfl) rfl (fun _ => rfl) hl w
theorem can53 : callable E 53 = true := callable_get Try.func53 rfl rfl

/-- tosher/tosherref08.Drop -/
def c54 : C := (.seq (.ops [⟨(some 8), .mov (.const (.bool false)), none⟩])
 (.seq (.ops [⟨(some 9), .mov (.tmp 3), none⟩,
  ⟨(some 10), .ar .i64 .geq (.tmp 9) (.const (.int .i64 1)), none⟩,
  ⟨(some 11), .mov (.tmp 10), none⟩,
  ⟨(some 12), .mov (.tmp 3), (some (11, true))⟩,
  ⟨(some 13), .mov (.tmp 2), (some (11, true))⟩,
  ⟨(some 14), .ar .i64 .leq (.tmp 12) (.tmp 13), (some (11, true))⟩,
  ⟨(some 15), .pick (.tmp 11) (.tmp 14) (.const (.bool false)), none⟩,
  ⟨(some 16), .mov (.tmp 15), none⟩,
  ⟨(some 17), .mov (.tmp 3), (some (16, true))⟩,
  ⟨(some 18), .ar .i64 .sub (.tmp 17) (.const (.int .i64 1)), (some (16, true))⟩,
  ⟨(some 19), .mov (.tmp 0), (some (16, true))⟩,
  ⟨(some 20), .ar .i64 .sub (.tmp 19) (.const (.int .i64 1)), (some (16, true))⟩,
  ⟨(some 21), .mov (.tmp 1), (some (16, true))⟩,
  ⟨(some 22), .ar .i64 .sub (.tmp 21) (.const (.int .i64 1)), (some (16, true))⟩,
  ⟨(some 23), .call 50 [(.tmp 20), (.tmp 22)], (some (16, true))⟩,
  ⟨(some 24), .ar .i64 .leq (.tmp 18) (.tmp 23), (some (16, true))⟩,
  ⟨(some 25), .pick (.tmp 16) (.tmp 24) (.const (.bool false)), none⟩,
  ⟨(some 26), .mov (.tmp 25), none⟩,
  ⟨(some 27), .mov (.tmp 2), (some (26, true))⟩,
  ⟨(some 28), .mov (.tmp 3), (some (26, true))⟩,
  ⟨(some 29), .ar .i64 .sub (.tmp 27) (.tmp 28), (some (26, true))⟩,
  ⟨(some 30), .mov (.tmp 0), (some (26, true))⟩,
  ⟨(some 31), .mov (.tmp 1), (some (26, true))⟩,
  ⟨(some 32), .ar .i64 .sub (.tmp 31) (.const (.int .i64 1)), (some (26, true))⟩,
  ⟨(some 33), .call 50 [(.tmp 30), (.tmp 32)], (some (26, true))⟩,
  ⟨(some 34), .ar .i64 .leq (.tmp 29) (.tmp 33), (some (26, true))⟩,
  ⟨(some 35), .pick (.tmp 26) (.tmp 34) (.const (.bool false)), none⟩,
  ⟨(some 8), .mov (.tmp 35), none⟩])
 .ret))
theorem enter54 {xs : List Value} {h : Hp} {Q : Value → Hp → Prop} (hl : xs.length ≤ 36) (w : wq E 36 none c54 (frameOf xs) h [] (leaveQ E [.tmp 8] Q)) : CallP E 54 xs h Q :=
  CallP.enterQ (fn := Try.f54) (fn_get Try.func54) (code := Try.f54.body.get rfl) rfl rfl rfl (by kernel_rfl) rfl (fun _ => rfl) hl w
theorem can54 : callable E 54 = true := callable_get Try.func54 rfl rfl

/-- tosher/search.isWithin -/
def c55 : C := (.seq (.ops [⟨(some 6), .mov (.const (.bool false)), none⟩])
 (.seq (.seq (.ops [⟨(some 9), .mov (.tmp 2), none⟩,
  ⟨(some 10), .lenS (.tmp 9), none⟩,
  ⟨(some 11), .mov (.const (.int .i64 0)), none⟩])
 (.block 0 (.loop (.seq (.ops [⟨(some 12), .ar .i64 .lss (.tmp 11) (.tmp 10), none⟩])
 (.seq (.cond (.tmp 12) .skip
 (.exit 0))
 (.seq (.block 1 (.seq (.ops [⟨(some 13), .idxS 1 (.tmp 9) (.tmp 11), none⟩,
  ⟨(some 14), .load1 (.tmp 13), none⟩,
  ⟨(some 8), .mov (.tmp 14), none⟩])
 (.seq (.ops [⟨(some 15), .mov (.tmp 8), none⟩,
  ⟨(some 16), .mov (.tmp 0), none⟩,
  ⟨(some 17), .ar .i64 .lss (.tmp 15) (.tmp 16), none⟩,
  ⟨(some 18), .mov (.tmp 17), none⟩,
  ⟨(some 19), .mov (.tmp 8), (some (18, false))⟩,
  ⟨(some 20), .mov (.tmp 1), (some (18, false))⟩,
  ⟨(some 21), .ar .i64 .gtr (.tmp 19) (.tmp 20), (some (18, false))⟩,
  ⟨(some 22), .pick (.tmp 18) (.const (.bool true)) (.tmp 21), none⟩])
 (.cond (.tmp 22) (.seq (.ops [⟨(some 6), .mov (.const (.bool false)), none⟩])
 .ret)
 .skip))))
 (.ops [⟨(some 23), .ar .i64 .add (.tmp 11) (.const (.int .i64 1)), none⟩,
  ⟨(some 11), .mov (.tmp 23), none⟩])))))))
 (.seq (.ops [⟨(some 6), .mov (.const (.bool true)), none⟩])
 .ret)))
theorem enter55 {xs : List Value} {h : Hp} {Q : Value → Hp → Prop} (hl : xs.length ≤ 24) (w : wq E 24 none c55 (frameOf xs) h [] (leaveQ E [.tmp 6] Q)) : CallP E 55 xs h Q :=
  CallP.enterQ (fn := Try.f55) (fn_get Try.func55) (code := Try.f55.body.get rfl) rfl rfl rfl (by kernel_rfl) rfl (fun _ => rfl) hl w
theorem can55 : callable E 55 = true := callable_get Try.func55 rfl rfl

/-- tosher/search.reach -/
def c75 : C := (.seq (.ops [⟨(some 4), .mov (.const (.int .i64 0)), none⟩])
 (.seq (.ops [⟨(some 5), .alloc 128 [(.int .i64 0), (.int .i64 0), (.int .i64 0), (.int .i64 0), (.int .i64 0), (.int .i64 0), (.int .i64 0), (.int .i64 0), (.int .i64 0), (.int .i64 0), (.int .i64 0), (.int .i64 0), (.int .i64 0), (.int .i64 0), (.int .i64 0), (.int .i64 0), (.int .i64 0), (.int .i64 0), (.int .i64 0), (.int .i64 0), (.int .i64 0)], none⟩])
 (.seq (.seq (.ops [⟨(some 7), .mov (.tmp 1), none⟩,
  ⟨(some 8), .mov (.const (.int .i64 0)), none⟩])
 (.block 0 (.loop (.seq (.ops [⟨(some 9), .ar .i64 .lss (.tmp 8) (.tmp 7), none⟩])
 (.seq (.cond (.tmp 9) .skip
 (.exit 0))
 (.seq (.block 1 (.seq (.ops [⟨(some 10), .mov (.tmp 0), none⟩,
  ⟨(some 6), .mov (.tmp 10), none⟩])
 (.block 2 (.loop (.seq (.seq (.ops [⟨(some 11), .mov (.tmp 6), none⟩,
  ⟨(some 12), .ar .i64 .gtr (.tmp 11) (.const (.int .i64 0)), none⟩])
 (.cond (.tmp 12) .skip
 (.exit 2)))
 (.seq (.block 3 (.ops [⟨(some 15), .mov (.tmp 6), none⟩,
  ⟨(some 16), .idxA 21 1 (.tmp 5) (.tmp 15), none⟩,
  ⟨(some 17), .load1 (.tmp 16), none⟩,
  ⟨(some 18), .mov (.tmp 6), none⟩,
  ⟨(some 19), .ar .i64 .sub (.tmp 18) (.const (.int .i64 1)), none⟩,
  ⟨(some 20), .idxA 21 1 (.tmp 5) (.tmp 19), none⟩,
  ⟨(some 21), .load1 (.tmp 20), none⟩,
  ⟨(some 22), .ar .i64 .add (.tmp 21) (.const (.int .i64 1)), none⟩,
  ⟨(some 23), .ar .i64 .add (.tmp 17) (.tmp 22), none⟩,
  ⟨(some 24), .idxA 21 1 (.tmp 5) (.tmp 15), none⟩,
  ⟨none, .store 1 (.tmp 24) (.tmp 23), none⟩]))
 (.ops [⟨(some 13), .mov (.tmp 6), none⟩,
  ⟨(some 14), .ar .i64 .sub (.tmp 13) (.const (.int .i64 1)), none⟩,
  ⟨(some 6), .mov (.tmp 14), none⟩])))))))
 (.ops [⟨(some 25), .ar .i64 .add (.tmp 8) (.const (.int .i64 1)), none⟩,
  ⟨(some 8), .mov (.tmp 25), none⟩])))))))
 (.seq (.ops [⟨(some 26), .mov (.tmp 0), none⟩,
  ⟨(some 27), .idxA 21 1 (.tmp 5) (.tmp 26), none⟩,
  ⟨(some 28), .load1 (.tmp 27), none⟩,
  ⟨(some 4), .mov (.tmp 28), none⟩])
 .ret))))
theorem enter75 {xs : List Value} {h : Hp} {Q : Value → Hp → Prop} (hl : xs.length ≤ 29) (w : wq E 29 none c75 (frameOf xs) h [] (leaveQ E [.tmp 4] Q)) : CallP E 75 xs h Q :=
  CallP.enterQ (fn := Try.f75) (fn_get Try.func75) (code := Try.f75.body.get rfl) rfl rfl rfl (by kernel_rfl) rfl (fun _ => rfl) hl w
theorem can75 : callable E 75 = true := callable_get Try.func75 rfl rfl
end
end Go.Proofs.Yticmdpcahpimhaa
