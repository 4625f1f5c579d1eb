/- The code of the functions that SJorZ comes to. -/
import Derived.Test.YticmdpcahpimhaaTypesC
set_option maxRecDepth 100000
set_option linter.unusedSectionVars false
set_option linter.unusedVariables false
namespace Go.Proofs.Yticmdpcahpimhaa
open Go.Rx Go.RowKit
noncomputable section
variable [Unknowns]
/-- tosher/tosherlaw08.SearchChecks -/
def c3 : C := (.seq (.ops [⟨(some 6), .mov (.const (.bool false)), none⟩])
 (.seq (.ops [⟨(some 34), .mov (.tmp 0), none⟩,
  ⟨(some 35), .call 16 [(.tmp 34), (.const (.int .i64 13))], none⟩,
  ⟨(some 36), .mov (.tmp 1), none⟩,
  ⟨(some 37), .call 16 [(.tmp 36), (.const (.int .i64 14))], none⟩,
  ⟨(some 38), .mov (.tmp 2), none⟩,
  ⟨(some 39), .call 16 [(.tmp 38), (.const (.int .i64 13))], none⟩,
  ⟨(some 7), .mov (.tmp 35), none⟩,
  ⟨(some 8), .mov (.tmp 37), none⟩,
  ⟨(some 9), .mov (.tmp 39), none⟩])
 (.seq (.ops [⟨(some 10), .mov (.const (.int .i64 0)), none⟩])
 (.seq (.seq (.ops [⟨(some 40), .mov (.tmp 7), none⟩,
  ⟨(some 41), .call 17 [(.tmp 40)], none⟩,
  ⟨(some 42), .not (.tmp 41), none⟩])
 (.cond (.tmp 42) (.ops [⟨(some 10), .mov (.const (.int .i64 80)), none⟩])
 .skip))
 (.seq (.seq (.ops [⟨(some 43), .mov (.tmp 7), none⟩,
  ⟨(some 44), .call 18 [(.tmp 43)], none⟩,
  ⟨(some 45), .mov (.tmp 10), none⟩,
  ⟨(some 46), .ar .i64 .neq (.tmp 44) (.tmp 45), none⟩])
 (.cond (.tmp 46) (.seq (.ops [⟨(some 6), .mov (.const (.bool false)), none⟩])
 .ret)
 .skip))
 (.seq (.seq (.ops [⟨(some 47), .mov (.tmp 10), none⟩,
  ⟨(some 48), .ar .i64 .neq (.tmp 47) (.const (.int .i64 0)), none⟩])
 (.cond (.tmp 48) (.seq (.ops [⟨(some 50), .mov (.tmp 7), none⟩,
  ⟨(some 51), .mov (.tmp 9), none⟩,
  ⟨(some 52), .call 19 [(.tmp 50), (.tmp 51)], none⟩,
  ⟨(some 49), .mov (.tmp 52), none⟩,
  ⟨(some 53), .ext (.tmp 49) 0, none⟩,
  ⟨(some 54), .ext (.tmp 49) 1, none⟩,
  ⟨(some 11), .mov (.tmp 53), none⟩,
  ⟨(some 12), .mov (.tmp 54), none⟩])
 (.seq (.ops [⟨(some 56), .mov (.tmp 7), none⟩,
  ⟨(some 57), .call 20 [(.tmp 56)], none⟩,
  ⟨(some 55), .mov (.tmp 57), none⟩,
  ⟨(some 58), .ext (.tmp 55) 0, none⟩,
  ⟨(some 59), .ext (.tmp 55) 1, none⟩,
  ⟨(some 60), .ext (.tmp 55) 2, none⟩,
  ⟨(some 13), .mov (.tmp 58), none⟩,
  ⟨(some 14), .mov (.tmp 59), none⟩,
  ⟨(some 15), .mov (.tmp 60), none⟩])
 (.seq (.ops [⟨(some 61), .mov (.tmp 12), none⟩,
  ⟨(some 62), .mov (.tmp 10), none⟩,
  ⟨(some 63), .ar .i64 .neq (.tmp 61) (.tmp 62), none⟩,
  ⟨(some 64), .mov (.tmp 63), none⟩,
  ⟨(some 65), .mov (.tmp 15), (some (64, false))⟩,
  ⟨(some 66), .mov (.tmp 10), (some (64, false))⟩,
  ⟨(some 67), .ar .i64 .neq (.tmp 65) (.tmp 66), (some (64, false))⟩,
  ⟨(some 68), .pick (.tmp 64) (.const (.bool true)) (.tmp 67), none⟩,
  ⟨(some 69), .mov (.tmp 68), none⟩,
  ⟨(some 70), .mov (.tmp 11), (some (69, false))⟩,
  ⟨(some 71), .pick (.tmp 69) (.const (.bool true)) (.tmp 70), none⟩,
  ⟨(some 72), .mov (.tmp 71), none⟩,
  ⟨(some 73), .mov (.tmp 13), (some (72, false))⟩,
  ⟨(some 74), .mov (.tmp 14), (some (72, false))⟩,
  ⟨(some 75), .lenS (.tmp 74), (some (72, false))⟩,
  ⟨(some 76), .ar .i64 .add (.tmp 73) (.tmp 75), (some (72, false))⟩,
  ⟨(some 77), .ar .i64 .neq (.tmp 76) (.const (.int .i64 0)), (some (72, false))⟩,
  ⟨(some 78), .pick (.tmp 72) (.const (.bool true)) (.tmp 77), none⟩])
 (.cond (.tmp 78) (.seq (.ops [⟨(some 6), .mov (.const (.bool false)), none⟩])
 .ret)
 .skip))))
 (.ops [⟨(some 10), .mov (.const (.int .i64 1)), none⟩])))
 (.seq (.ops [⟨(some 79), .mov (.tmp 7), none⟩,
  ⟨(some 80), .call 17 [(.tmp 79)], none⟩,
  ⟨(some 81), .not (.tmp 80), none⟩,
  ⟨(some 16), .mov (.tmp 81), none⟩])
 (.seq (.ops [⟨(some 83), .mov (.tmp 7), none⟩,
  ⟨(some 84), .lenS (.tmp 83), none⟩,
  ⟨(some 85), .mov (.tmp 9), none⟩,
  ⟨(some 86), .call 21 [(.tmp 84), (.tmp 85)], none⟩,
  ⟨(some 82), .mov (.tmp 86), none⟩,
  ⟨(some 87), .ext (.tmp 82) 0, none⟩,
  ⟨(some 88), .ext (.tmp 82) 1, none⟩,
  ⟨(some 17), .mov (.tmp 87), none⟩,
  ⟨(some 18), .mov (.tmp 88), none⟩])
 (.seq (.seq (.ops [⟨(some 89), .mov (.tmp 16), none⟩,
  ⟨(some 90), .mov (.tmp 89), none⟩,
  ⟨(some 91), .mov (.tmp 7), (some (90, false))⟩,
  ⟨(some 92), .mov (.tmp 8), (some (90, false))⟩,
  ⟨(some 93), .call 22 [(.tmp 91), (.tmp 92)], (some (90, false))⟩,
  ⟨(some 94), .not (.tmp 93), (some (90, false))⟩,
  ⟨(some 95), .pick (.tmp 90) (.const (.bool true)) (.tmp 94), none⟩])
 (.cond (.tmp 95) (.seq (.ops [⟨(some 97), .mov (.tmp 7), none⟩,
  ⟨(some 98), .mov (.tmp 8), none⟩,
  ⟨(some 99), .call 23 [(.tmp 97), (.tmp 98)], none⟩,
  ⟨(some 96), .mov (.tmp 99), none⟩,
  ⟨(some 100), .ext (.tmp 96) 0, none⟩,
  ⟨(some 101), .ext (.tmp 96) 1, none⟩,
  ⟨(some 102), .ext (.tmp 96) 2, none⟩,
  ⟨(some 19), .mov (.tmp 100), none⟩,
  ⟨(some 20), .mov (.tmp 101), none⟩,
  ⟨(some 21), .mov (.tmp 102), none⟩])
 (.seq (.ops [⟨(some 104), .mov (.tmp 7), none⟩,
  ⟨(some 105), .mov (.tmp 8), none⟩,
  ⟨(some 106), .mov (.tmp 9), none⟩,
  ⟨(some 107), .call 24 [(.tmp 104), (.tmp 105), (.tmp 106)], none⟩,
  ⟨(some 103), .mov (.tmp 107), none⟩,
  ⟨(some 108), .ext (.tmp 103) 0, none⟩,
  ⟨(some 109), .ext (.tmp 103) 1, none⟩,
  ⟨(some 22), .mov (.tmp 108), none⟩,
  ⟨(some 23), .mov (.tmp 109), none⟩])
 (.seq (.ops [⟨(some 110), .mov (.tmp 21), none⟩,
  ⟨(some 111), .mov (.tmp 10), none⟩,
  ⟨(some 112), .ar .i64 .neq (.tmp 110) (.tmp 111), none⟩,
  ⟨(some 113), .mov (.tmp 112), none⟩,
  ⟨(some 114), .mov (.tmp 23), (some (113, false))⟩,
  ⟨(some 115), .mov (.tmp 10), (some (113, false))⟩,
  ⟨(some 116), .ar .i64 .neq (.tmp 114) (.tmp 115), (some (113, false))⟩,
  ⟨(some 117), .pick (.tmp 113) (.const (.bool true)) (.tmp 116), none⟩,
  ⟨(some 118), .mov (.tmp 117), none⟩,
  ⟨(some 119), .mov (.tmp 19), (some (118, false))⟩,
  ⟨(some 120), .mov (.tmp 20), (some (118, false))⟩,
  ⟨(some 121), .lenS (.tmp 120), (some (118, false))⟩,
  ⟨(some 122), .ar .i64 .add (.tmp 119) (.tmp 121), (some (118, false))⟩,
  ⟨(some 123), .mov (.tmp 22), (some (118, false))⟩,
  ⟨(some 124), .ar .i64 .add (.tmp 122) (.tmp 123), (some (118, false))⟩,
  ⟨(some 125), .ar .i64 .neq (.tmp 124) (.const (.int .i64 0)), (some (118, false))⟩,
  ⟨(some 126), .pick (.tmp 118) (.const (.bool true)) (.tmp 125), none⟩])
 (.cond (.tmp 126) (.seq (.ops [⟨(some 6), .mov (.const (.bool false)), none⟩])
 .ret)
 .skip))))
 .skip))
 (.seq (.seq (.ops [⟨(some 127), .mov (.tmp 16), none⟩,
  ⟨(some 128), .mov (.tmp 127), none⟩,
  ⟨(some 129), .mov (.tmp 18), (some (128, false))⟩,
  ⟨(some 130), .not (.tmp 129), (some (128, false))⟩,
  ⟨(some 131), .pick (.tmp 128) (.const (.bool true)) (.tmp 130), none⟩])
 (.cond (.tmp 131) (.seq (.ops [⟨(some 133), .mov (.tmp 7), none⟩,
  ⟨(some 134), .mov (.tmp 9), none⟩,
  ⟨(some 135), .call 25 [(.tmp 133), (.tmp 134)], none⟩,
  ⟨(some 132), .mov (.tmp 135), none⟩,
  ⟨(some 136), .ext (.tmp 132) 0, none⟩,
  ⟨(some 137), .ext (.tmp 132) 1, none⟩,
  ⟨(some 24), .mov (.tmp 136), none⟩,
  ⟨(some 25), .mov (.tmp 137), none⟩])
 (.seq (.ops [⟨(some 139), .mov (.tmp 7), none⟩,
  ⟨(some 140), .mov (.tmp 8), none⟩,
  ⟨(some 141), .mov (.tmp 9), none⟩,
  ⟨(some 142), .call 24 [(.tmp 139), (.tmp 140), (.tmp 141)], none⟩,
  ⟨(some 138), .mov (.tmp 142), none⟩,
  ⟨(some 143), .ext (.tmp 138) 0, none⟩,
  ⟨(some 144), .ext (.tmp 138) 1, none⟩,
  ⟨(some 26), .mov (.tmp 143), none⟩,
  ⟨(some 27), .mov (.tmp 144), none⟩])
 (.seq (.ops [⟨(some 146), .mov (.tmp 7), none⟩,
  ⟨(some 147), .mov (.tmp 9), none⟩,
  ⟨(some 148), .call 26 [(.tmp 146), (.tmp 147), (.const (.int .i64 0))], none⟩,
  ⟨(some 145), .mov (.tmp 148), none⟩,
  ⟨(some 149), .ext (.tmp 145) 0, none⟩,
  ⟨(some 150), .ext (.tmp 145) 1, none⟩,
  ⟨(some 28), .mov (.tmp 149), none⟩,
  ⟨(some 29), .mov (.tmp 150), none⟩])
 (.seq (.ops [⟨(some 151), .mov (.tmp 25), none⟩,
  ⟨(some 152), .mov (.tmp 10), none⟩,
  ⟨(some 153), .ar .i64 .eql (.tmp 151) (.tmp 152), none⟩,
  ⟨(some 154), .mov (.tmp 153), none⟩,
  ⟨(some 155), .mov (.tmp 27), (some (154, true))⟩,
  ⟨(some 156), .mov (.tmp 10), (some (154, true))⟩,
  ⟨(some 157), .ar .i64 .eql (.tmp 155) (.tmp 156), (some (154, true))⟩,
  ⟨(some 158), .pick (.tmp 154) (.tmp 157) (.const (.bool false)), none⟩,
  ⟨(some 159), .mov (.tmp 158), none⟩,
  ⟨(some 160), .mov (.tmp 29), (some (159, true))⟩,
  ⟨(some 161), .mov (.tmp 10), (some (159, true))⟩,
  ⟨(some 162), .ar .i64 .eql (.tmp 160) (.tmp 161), (some (159, true))⟩,
  ⟨(some 163), .pick (.tmp 159) (.tmp 162) (.const (.bool false)), none⟩,
  ⟨(some 164), .mov (.tmp 163), none⟩,
  ⟨(some 165), .mov (.tmp 24), (some (164, true))⟩,
  ⟨(some 166), .lenS (.tmp 165), (some (164, true))⟩,
  ⟨(some 167), .mov (.tmp 26), (some (164, true))⟩,
  ⟨(some 168), .ar .i64 .add (.tmp 166) (.tmp 167), (some (164, true))⟩,
  ⟨(some 169), .mov (.tmp 28), (some (164, true))⟩,
  ⟨(some 170), .lenS (.tmp 169), (some (164, true))⟩,
  ⟨(some 171), .ar .i64 .add (.tmp 168) (.tmp 170), (some (164, true))⟩,
  ⟨(some 172), .ar .i64 .eql (.tmp 171) (.const (.int .i64 0)), (some (164, true))⟩,
  ⟨(some 173), .pick (.tmp 164) (.tmp 172) (.const (.bool false)), none⟩,
  ⟨(some 174), .mov (.tmp 173), none⟩,
  ⟨(some 175), .call 27 [], (some (174, true))⟩,
  ⟨(some 176), .pick (.tmp 174) (.tmp 175) (.const (.bool false)), none⟩,
  ⟨(some 6), .mov (.tmp 176), none⟩])
 .ret))))
 .skip))
 (.seq (.ops [⟨(some 178), .mov (.tmp 7), none⟩,
  ⟨(some 179), .mov (.tmp 9), none⟩,
  ⟨(some 180), .mov (.tmp 17), none⟩,
  ⟨(some 181), .lenS (.tmp 180), none⟩,
  ⟨(some 182), .call 26 [(.tmp 178), (.tmp 179), (.tmp 181)], none⟩,
  ⟨(some 177), .mov (.tmp 182), none⟩,
  ⟨(some 183), .ext (.tmp 177) 0, none⟩,
  ⟨(some 184), .ext (.tmp 177) 1, none⟩,
  ⟨(some 30), .mov (.tmp 183), none⟩,
  ⟨(some 31), .mov (.tmp 184), none⟩])
 (.seq (.ops [⟨(some 186), .mov (.tmp 7), none⟩,
  ⟨(some 187), .mov (.tmp 9), none⟩,
  ⟨(some 188), .call 26 [(.tmp 186), (.tmp 187), (.const (.int .i64 (-1)))], none⟩,
  ⟨(some 185), .mov (.tmp 188), none⟩,
  ⟨(some 189), .ext (.tmp 185) 0, none⟩,
  ⟨(some 190), .ext (.tmp 185) 1, none⟩,
  ⟨(some 32), .mov (.tmp 189), none⟩,
  ⟨(some 33), .mov (.tmp 190), none⟩])
 (.seq (.ops [⟨(some 191), .mov (.tmp 31), none⟩,
  ⟨(some 192), .ar .i64 .eql (.tmp 191) (.const (.int .i64 1)), none⟩,
  ⟨(some 193), .mov (.tmp 192), none⟩,
  ⟨(some 194), .mov (.tmp 33), (some (193, true))⟩,
  ⟨(some 195), .ar .i64 .eql (.tmp 194) (.const (.int .i64 1)), (some (193, true))⟩,
  ⟨(some 196), .pick (.tmp 193) (.tmp 195) (.const (.bool false)), none⟩,
  ⟨(some 197), .mov (.tmp 196), none⟩,
  ⟨(some 198), .mov (.tmp 30), (some (197, true))⟩,
  ⟨(some 199), .lenS (.tmp 198), (some (197, true))⟩,
  ⟨(some 200), .mov (.tmp 32), (some (197, true))⟩,
  ⟨(some 201), .lenS (.tmp 200), (some (197, true))⟩,
  ⟨(some 202), .ar .i64 .add (.tmp 199) (.tmp 201), (some (197, true))⟩,
  ⟨(some 203), .ar .i64 .eql (.tmp 202) (.const (.int .i64 0)), (some (197, true))⟩,
  ⟨(some 204), .pick (.tmp 197) (.tmp 203) (.const (.bool false)), none⟩,
  ⟨(some 205), .mov (.tmp 204), none⟩,
  ⟨(some 206), .call 27 [], (some (205, true))⟩,
  ⟨(some 207), .pick (.tmp 205) (.tmp 206) (.const (.bool false)), none⟩,
  ⟨(some 6), .mov (.tmp 207), none⟩])
 .ret)))))))))))))
theorem enter3 {xs : List Value} {h : Hp} {Q : Value → Hp → Prop} (hl : xs.length ≤ 208) (w : wq E 208 none c3 (frameOf xs) h [] (leaveQ E [.tmp 6] Q)) : CallP E 3 xs h Q :=
  CallP.enterQ (fn := Try.f3) (fn_get Try.func3) (code := Try.f3.body.get rfl) rfl rfl rfl (by kernel_rfl) rfl (fun _ => rfl) hl w
theorem can3 : callable E 3 = true := callable_get Try.func3 rfl rfl

/-- tosher/tosherlaw08.SearchPlans -/
def c4 : C := (.seq (.ops [⟨(some 6), .mov (.const (.bool false)), none⟩])
 (.seq (.ops [⟨(some 23), .mov (.tmp 0), none⟩,
  ⟨(some 24), .call 28 [(.tmp 23)], none⟩,
  ⟨(some 7), .mov (.tmp 24), none⟩])
 (.seq (.ops [⟨(some 25), .mov (.tmp 1), none⟩,
  ⟨(some 26), .mov (.tmp 7), none⟩,
  ⟨(some 27), .lenS (.tmp 26), none⟩,
  ⟨(some 28), .call 29 [(.tmp 25), (.tmp 27)], none⟩,
  ⟨(some 8), .mov (.tmp 28), none⟩])
 (.seq (.ops [⟨(some 29), .mov (.tmp 2), none⟩,
  ⟨(some 30), .call 16 [(.tmp 29), (.const (.int .i64 13))], none⟩,
  ⟨(some 9), .mov (.tmp 30), none⟩])
 (.seq (.seq (.ops [⟨(some 10), .mov (.const (.int .i64 0)), none⟩])
 (.block 0 (.loop (.seq (.seq (.ops [⟨(some 31), .mov (.tmp 10), none⟩,
  ⟨(some 32), .ar .i64 .lss (.tmp 31) (.const (.int .i64 2)), none⟩])
 (.cond (.tmp 32) .skip
 (.exit 0)))
 (.seq (.block 1 (.seq (.ops [⟨(some 36), .mov (.tmp 7), none⟩,
  ⟨(some 37), .mov (.tmp 9), none⟩,
  ⟨(some 38), .call 19 [(.tmp 36), (.tmp 37)], none⟩,
  ⟨(some 35), .mov (.tmp 38), none⟩,
  ⟨(some 39), .ext (.tmp 35) 0, none⟩,
  ⟨(some 40), .ext (.tmp 35) 1, none⟩,
  ⟨(some 11), .mov (.tmp 39), none⟩,
  ⟨(some 12), .mov (.tmp 40), none⟩])
 (.seq (.ops [⟨(some 42), .mov (.tmp 7), none⟩,
  ⟨(some 43), .lenS (.tmp 42), none⟩,
  ⟨(some 44), .mov (.tmp 9), none⟩,
  ⟨(some 45), .call 21 [(.tmp 43), (.tmp 44)], none⟩,
  ⟨(some 41), .mov (.tmp 45), none⟩,
  ⟨(some 46), .ext (.tmp 41) 0, none⟩,
  ⟨(some 47), .ext (.tmp 41) 1, none⟩,
  ⟨(some 13), .mov (.tmp 46), none⟩,
  ⟨(some 14), .mov (.tmp 47), none⟩])
 (.seq (.seq (.ops [⟨(some 48), .mov (.tmp 12), none⟩,
  ⟨(some 49), .ar .i64 .neq (.tmp 48) (.const (.int .i64 0)), none⟩,
  ⟨(some 50), .mov (.tmp 49), none⟩,
  ⟨(some 51), .mov (.tmp 11), (some (50, false))⟩,
  ⟨(some 52), .mov (.tmp 14), (some (50, false))⟩,
  ⟨(some 53), .raw (.binOp .neq 4 (.tmp 51) (.tmp 52) 4) 4, (some (50, false))⟩,
  ⟨(some 54), .pick (.tmp 50) (.const (.bool true)) (.tmp 53), none⟩])
 (.cond (.tmp 54) (.seq (.ops [⟨(some 6), .mov (.const (.bool false)), none⟩])
 .ret)
 .skip))
 (.seq (.seq (.ops [⟨(some 55), .mov (.tmp 14), none⟩])
 (.cond (.tmp 55) (.seq (.ops [⟨(some 56), .mov (.tmp 7), none⟩,
  ⟨(some 57), .mov (.tmp 13), none⟩,
  ⟨(some 58), .call 30 [(.tmp 56), (.tmp 57)], none⟩,
  ⟨(some 15), .mov (.tmp 58), none⟩])
 (.seq (.ops [⟨(some 60), .mov (.tmp 7), none⟩,
  ⟨(some 61), .mov (.tmp 9), none⟩,
  ⟨(some 62), .call 25 [(.tmp 60), (.tmp 61)], none⟩,
  ⟨(some 59), .mov (.tmp 62), none⟩,
  ⟨(some 63), .ext (.tmp 59) 0, none⟩,
  ⟨(some 64), .ext (.tmp 59) 1, none⟩,
  ⟨(some 16), .mov (.tmp 63), none⟩,
  ⟨(some 17), .mov (.tmp 64), none⟩])
 (.seq (.ops [⟨(some 66), .mov (.tmp 7), none⟩,
  ⟨(some 67), .mov (.tmp 8), none⟩,
  ⟨(some 68), .mov (.tmp 9), none⟩,
  ⟨(some 69), .call 24 [(.tmp 66), (.tmp 67), (.tmp 68)], none⟩,
  ⟨(some 65), .mov (.tmp 69), none⟩,
  ⟨(some 70), .ext (.tmp 65) 0, none⟩,
  ⟨(some 71), .ext (.tmp 65) 1, none⟩,
  ⟨(some 18), .mov (.tmp 70), none⟩,
  ⟨(some 19), .mov (.tmp 71), none⟩])
 (.seq (.seq (.ops [⟨(some 72), .mov (.tmp 17), none⟩,
  ⟨(some 73), .ar .i64 .neq (.tmp 72) (.const (.int .i64 0)), none⟩,
  ⟨(some 74), .mov (.tmp 73), none⟩,
  ⟨(some 75), .mov (.tmp 16), (some (74, false))⟩,
  ⟨(some 76), .mov (.tmp 15), (some (74, false))⟩,
  ⟨(some 77), .call 31 [(.tmp 75), (.tmp 76)], (some (74, false))⟩,
  ⟨(some 78), .not (.tmp 77), (some (74, false))⟩,
  ⟨(some 79), .pick (.tmp 74) (.const (.bool true)) (.tmp 78), none⟩,
  ⟨(some 80), .mov (.tmp 79), none⟩,
  ⟨(some 81), .mov (.tmp 19), (some (80, false))⟩,
  ⟨(some 82), .ar .i64 .neq (.tmp 81) (.const (.int .i64 0)), (some (80, false))⟩,
  ⟨(some 83), .pick (.tmp 80) (.const (.bool true)) (.tmp 82), none⟩,
  ⟨(some 84), .mov (.tmp 83), none⟩,
  ⟨(some 85), .mov (.tmp 18), (some (84, false))⟩,
  ⟨(some 86), .mov (.tmp 8), (some (84, false))⟩,
  ⟨(some 87), .mov (.tmp 15), (some (84, false))⟩,
  ⟨(some 88), .call 32 [(.tmp 86), (.tmp 87)], (some (84, false))⟩,
  ⟨(some 89), .ar .i64 .neq (.tmp 85) (.tmp 88), (some (84, false))⟩,
  ⟨(some 90), .pick (.tmp 84) (.const (.bool true)) (.tmp 89), none⟩])
 (.cond (.tmp 90) (.seq (.ops [⟨(some 6), .mov (.const (.bool false)), none⟩])
 .ret)
 .skip))
 (.seq (.ops [⟨(some 20), .mov (.const (.int .i64 0)), none⟩])
 (.block 2 (.loop (.seq (.seq (.ops [⟨(some 91), .mov (.tmp 20), none⟩,
  ⟨(some 92), .mov (.tmp 13), none⟩,
  ⟨(some 93), .lenS (.tmp 92), none⟩,
  ⟨(some 94), .ar .i64 .lss (.tmp 91) (.tmp 93), none⟩])
 (.cond (.tmp 94) .skip
 (.exit 2)))
 (.seq (.block 3 (.seq (.ops [⟨(some 98), .mov (.tmp 7), none⟩,
  ⟨(some 99), .mov (.tmp 9), none⟩,
  ⟨(some 100), .mov (.tmp 20), none⟩,
  ⟨(some 101), .call 26 [(.tmp 98), (.tmp 99), (.tmp 100)], none⟩,
  ⟨(some 97), .mov (.tmp 101), none⟩,
  ⟨(some 102), .ext (.tmp 97) 0, none⟩,
  ⟨(some 103), .ext (.tmp 97) 1, none⟩,
  ⟨(some 21), .mov (.tmp 102), none⟩,
  ⟨(some 22), .mov (.tmp 103), none⟩])
 (.seq (.ops [⟨(some 104), .mov (.tmp 22), none⟩,
  ⟨(some 105), .ar .i64 .neq (.tmp 104) (.const (.int .i64 0)), none⟩,
  ⟨(some 106), .mov (.tmp 105), none⟩,
  ⟨(some 107), .mov (.tmp 21), (some (106, false))⟩,
  ⟨(some 108), .mov (.tmp 13), (some (106, false))⟩,
  ⟨(some 109), .mov (.tmp 20), (some (106, false))⟩,
  ⟨(some 110), .idxS 1 (.tmp 108) (.tmp 109), (some (106, false))⟩,
  ⟨(some 111), .load1 (.tmp 110), (some (106, false))⟩,
  ⟨(some 112), .call 31 [(.tmp 107), (.tmp 111)], (some (106, false))⟩,
  ⟨(some 113), .not (.tmp 112), (some (106, false))⟩,
  ⟨(some 114), .pick (.tmp 106) (.const (.bool true)) (.tmp 113), none⟩])
 (.cond (.tmp 114) (.seq (.ops [⟨(some 6), .mov (.const (.bool false)), none⟩])
 .ret)
 .skip))))
 (.ops [⟨(some 95), .mov (.tmp 20), none⟩,
  ⟨(some 96), .ar .i64 .add (.tmp 95) (.const (.int .i64 1)), none⟩,
  ⟨(some 20), .mov (.tmp 96), none⟩]))))))))))
 .skip))
 (.ops [⟨(some 115), .mov (.tmp 2), none⟩,
  ⟨(some 116), .mov (.tmp 7), none⟩,
  ⟨(some 117), .lenS (.tmp 116), none⟩,
  ⟨(some 118), .call 33 [(.tmp 115), (.const (.int .i64 0)), (.tmp 117)], none⟩,
  ⟨(some 9), .mov (.tmp 118), none⟩]))))))
 (.ops [⟨(some 33), .mov (.tmp 10), none⟩,
  ⟨(some 34), .ar .i64 .add (.tmp 33) (.const (.int .i64 1)), none⟩,
  ⟨(some 10), .mov (.tmp 34), none⟩]))))))
 (.seq (.ops [⟨(some 119), .call 27 [], none⟩,
  ⟨(some 6), .mov (.tmp 119), none⟩])
 .ret))))))
theorem enter4 {xs : List Value} {h : Hp} {Q : Value → Hp → Prop} (hl : xs.length ≤ 120) (w : wq E 120 none c4 (frameOf xs) h [] (leaveQ E [.tmp 6] Q)) : CallP E 4 xs h Q :=
  CallP.enterQ (fn := Try.f4) (fn_get Try.func4) (code := Try.f4.body.get rfl) rfl rfl rfl (by kernel_rfl) rfl (fun _ => rfl) hl w
theorem can4 : callable E 4 = true := callable_get Try.func4 rfl rfl

/-- tosher/tosherlaw08.SearchBests -/
def c5 : C := (.seq (.ops [⟨(some 4), .mov (.const (.bool false)), none⟩])
 (.seq (.ops [⟨(some 17), .mov (.tmp 0), none⟩,
  ⟨(some 18), .call 28 [(.tmp 17)], none⟩,
  ⟨(some 5), .mov (.tmp 18), none⟩])
 (.seq (.ops [⟨(some 19), .mov (.tmp 1), none⟩,
  ⟨(some 20), .mov (.tmp 5), none⟩,
  ⟨(some 21), .lenS (.tmp 20), none⟩,
  ⟨(some 22), .call 29 [(.tmp 19), (.tmp 21)], none⟩,
  ⟨(some 6), .mov (.tmp 22), none⟩])
 (.seq (.ops [⟨(some 24), .mov (.tmp 5), none⟩,
  ⟨(some 25), .call 20 [(.tmp 24)], none⟩,
  ⟨(some 23), .mov (.tmp 25), none⟩,
  ⟨(some 26), .ext (.tmp 23) 0, none⟩,
  ⟨(some 27), .ext (.tmp 23) 1, none⟩,
  ⟨(some 28), .ext (.tmp 23) 2, none⟩,
  ⟨(some 7), .mov (.tmp 26), none⟩,
  ⟨(some 8), .mov (.tmp 27), none⟩,
  ⟨(some 9), .mov (.tmp 28), none⟩])
 (.seq (.ops [⟨(some 30), .mov (.tmp 5), none⟩,
  ⟨(some 31), .mov (.tmp 6), none⟩,
  ⟨(some 32), .call 23 [(.tmp 30), (.tmp 31)], none⟩,
  ⟨(some 29), .mov (.tmp 32), none⟩,
  ⟨(some 33), .ext (.tmp 29) 0, none⟩,
  ⟨(some 34), .ext (.tmp 29) 1, none⟩,
  ⟨(some 35), .ext (.tmp 29) 2, none⟩,
  ⟨(some 10), .mov (.tmp 33), none⟩,
  ⟨(some 11), .mov (.tmp 34), none⟩,
  ⟨(some 12), .mov (.tmp 35), none⟩])
 (.seq (.ops [⟨(some 37), .mov (.tmp 5), none⟩,
  ⟨(some 38), .lenS (.tmp 37), none⟩,
  ⟨(some 39), .mov (.tmp 8), none⟩,
  ⟨(some 40), .call 21 [(.tmp 38), (.tmp 39)], none⟩,
  ⟨(some 36), .mov (.tmp 40), none⟩,
  ⟨(some 41), .ext (.tmp 36) 0, none⟩,
  ⟨(some 42), .ext (.tmp 36) 1, none⟩,
  ⟨(some 13), .mov (.tmp 41), none⟩,
  ⟨(some 14), .mov (.tmp 42), none⟩])
 (.seq (.ops [⟨(some 44), .mov (.tmp 5), none⟩,
  ⟨(some 45), .lenS (.tmp 44), none⟩,
  ⟨(some 46), .mov (.tmp 11), none⟩,
  ⟨(some 47), .call 21 [(.tmp 45), (.tmp 46)], none⟩,
  ⟨(some 43), .mov (.tmp 47), none⟩,
  ⟨(some 48), .ext (.tmp 43) 0, none⟩,
  ⟨(some 49), .ext (.tmp 43) 1, none⟩,
  ⟨(some 15), .mov (.tmp 48), none⟩,
  ⟨(some 16), .mov (.tmp 49), none⟩])
 (.seq (.ops [⟨(some 50), .mov (.tmp 9), none⟩,
  ⟨(some 51), .ar .i64 .eql (.tmp 50) (.const (.int .i64 0)), none⟩,
  ⟨(some 52), .mov (.tmp 51), none⟩,
  ⟨(some 53), .mov (.tmp 12), (some (52, true))⟩,
  ⟨(some 54), .ar .i64 .eql (.tmp 53) (.const (.int .i64 0)), (some (52, true))⟩,
  ⟨(some 55), .pick (.tmp 52) (.tmp 54) (.const (.bool false)), none⟩,
  ⟨(some 56), .mov (.tmp 55), none⟩,
  ⟨(some 57), .mov (.tmp 14), (some (56, true))⟩,
  ⟨(some 58), .pick (.tmp 56) (.tmp 57) (.const (.bool false)), none⟩,
  ⟨(some 59), .mov (.tmp 58), none⟩,
  ⟨(some 60), .mov (.tmp 16), (some (59, true))⟩,
  ⟨(some 61), .pick (.tmp 59) (.tmp 60) (.const (.bool false)), none⟩,
  ⟨(some 62), .mov (.tmp 61), none⟩,
  ⟨(some 63), .mov (.tmp 7), (some (62, true))⟩,
  ⟨(some 64), .mov (.tmp 5), (some (62, true))⟩,
  ⟨(some 65), .mov (.tmp 5), (some (62, true))⟩,
  ⟨(some 66), .lenS (.tmp 65), (some (62, true))⟩,
  ⟨(some 67), .call 34 [(.tmp 64), (.const (.slice none 0 0)), (.const (.int .i64 0)), (.tmp 66)], (some (62, true))⟩,
  ⟨(some 68), .ar .i64 .eql (.tmp 63) (.tmp 67), (some (62, true))⟩,
  ⟨(some 69), .pick (.tmp 62) (.tmp 68) (.const (.bool false)), none⟩,
  ⟨(some 70), .mov (.tmp 69), none⟩,
  ⟨(some 71), .mov (.tmp 7), (some (70, true))⟩,
  ⟨(some 72), .mov (.tmp 5), (some (70, true))⟩,
  ⟨(some 73), .mov (.tmp 13), (some (70, true))⟩,
  ⟨(some 74), .call 30 [(.tmp 72), (.tmp 73)], (some (70, true))⟩,
  ⟨(some 75), .call 35 [(.tmp 74)], (some (70, true))⟩,
  ⟨(some 76), .ar .i64 .eql (.tmp 71) (.tmp 75), (some (70, true))⟩,
  ⟨(some 77), .pick (.tmp 70) (.tmp 76) (.const (.bool false)), none⟩,
  ⟨(some 78), .mov (.tmp 77), none⟩,
  ⟨(some 79), .mov (.tmp 10), (some (78, true))⟩,
  ⟨(some 80), .mov (.tmp 5), (some (78, true))⟩,
  ⟨(some 81), .mov (.tmp 6), (some (78, true))⟩,
  ⟨(some 82), .mov (.tmp 5), (some (78, true))⟩,
  ⟨(some 83), .lenS (.tmp 82), (some (78, true))⟩,
  ⟨(some 84), .call 34 [(.tmp 80), (.tmp 81), (.const (.int .i64 0)), (.tmp 83)], (some (78, true))⟩,
  ⟨(some 85), .ar .i64 .eql (.tmp 79) (.tmp 84), (some (78, true))⟩,
  ⟨(some 86), .pick (.tmp 78) (.tmp 85) (.const (.bool false)), none⟩,
  ⟨(some 87), .mov (.tmp 86), none⟩,
  ⟨(some 88), .mov (.tmp 10), (some (87, true))⟩,
  ⟨(some 89), .mov (.tmp 6), (some (87, true))⟩,
  ⟨(some 90), .mov (.tmp 5), (some (87, true))⟩,
  ⟨(some 91), .mov (.tmp 15), (some (87, true))⟩,
  ⟨(some 92), .call 30 [(.tmp 90), (.tmp 91)], (some (87, true))⟩,
  ⟨(some 93), .call 32 [(.tmp 89), (.tmp 92)], (some (87, true))⟩,
  ⟨(some 94), .ar .i64 .eql (.tmp 88) (.tmp 93), (some (87, true))⟩,
  ⟨(some 95), .pick (.tmp 87) (.tmp 94) (.const (.bool false)), none⟩,
  ⟨(some 96), .mov (.tmp 95), none⟩,
  ⟨(some 97), .call 27 [], (some (96, true))⟩,
  ⟨(some 98), .pick (.tmp 96) (.tmp 97) (.const (.bool false)), none⟩,
  ⟨(some 4), .mov (.tmp 98), none⟩])
 .ret))))))))
theorem enter5 {xs : List Value} {h : Hp} {Q : Value → Hp → Prop} (hl : xs.length ≤ 99) (w : wq E 99 none c5 (frameOf xs) h [] (leaveQ E [.tmp 4] Q)) : CallP E 5 xs h Q :=
  CallP.enterQ (fn := Try.f5) (fn_get Try.func5) (code := Try.f5.body.get rfl) rfl rfl rfl (by kernel_rfl) rfl (fun _ => rfl) hl w
theorem can5 : callable E 5 = true := callable_get Try.func5 rfl rfl

/-- tosher/tosherlaw08.SearchCounts -/
def c6 : C := (.seq (.ops [⟨(some 2), .mov (.const (.bool false)), none⟩])
 (.seq (.seq (.ops [⟨(some 3), .mov (.const (.int .i64 0)), none⟩])
 (.block 0 (.loop (.seq (.seq (.ops [⟨(some 6), .mov (.tmp 3), none⟩,
  ⟨(some 7), .ar .i64 .lss (.tmp 6) (.const (.int .i64 2)), none⟩])
 (.cond (.tmp 7) .skip
 (.exit 0)))
 (.seq (.block 1 (.seq (.ops [⟨(some 11), .mov (.tmp 0), none⟩,
  ⟨(some 12), .call 36 [(.tmp 11)], none⟩,
  ⟨(some 10), .mov (.tmp 12), none⟩,
  ⟨(some 13), .ext (.tmp 10) 0, none⟩,
  ⟨(some 14), .ext (.tmp 10) 1, none⟩,
  ⟨(some 4), .mov (.tmp 13), none⟩,
  ⟨(some 5), .mov (.tmp 14), none⟩])
 (.seq (.seq (.ops [⟨(some 15), .mov (.tmp 0), none⟩,
  ⟨(some 16), .ar .i64 .lss (.tmp 15) (.const (.int .i64 0)), none⟩,
  ⟨(some 17), .mov (.tmp 16), none⟩,
  ⟨(some 18), .mov (.tmp 0), (some (17, false))⟩,
  ⟨(some 19), .ar .i64 .gtr (.tmp 18) (.const (.int .i64 30)), (some (17, false))⟩,
  ⟨(some 20), .pick (.tmp 17) (.const (.bool true)) (.tmp 19), none⟩])
 (.cond (.tmp 20) (.seq (.ops [⟨(some 21), .mov (.tmp 5), none⟩,
  ⟨(some 22), .ar .i64 .neq (.tmp 21) (.const (.int .i64 1)), none⟩,
  ⟨(some 23), .mov (.tmp 22), none⟩,
  ⟨(some 24), .mov (.tmp 4), (some (23, false))⟩,
  ⟨(some 25), .ar .i64 .neq (.tmp 24) (.const (.int .i64 0)), (some (23, false))⟩,
  ⟨(some 26), .pick (.tmp 23) (.const (.bool true)) (.tmp 25), none⟩])
 (.cond (.tmp 26) (.seq (.ops [⟨(some 2), .mov (.const (.bool false)), none⟩])
 .ret)
 .skip))
 (.seq (.ops [⟨(some 27), .mov (.tmp 5), none⟩,
  ⟨(some 28), .ar .i64 .neq (.tmp 27) (.const (.int .i64 0)), none⟩,
  ⟨(some 29), .mov (.tmp 28), none⟩,
  ⟨(some 30), .mov (.tmp 4), (some (29, false))⟩,
  ⟨(some 31), .mov (.tmp 0), (some (29, false))⟩,
  ⟨(some 32), .call 37 [(.tmp 31)], (some (29, false))⟩,
  ⟨(some 33), .ar .i64 .neq (.tmp 30) (.tmp 32), (some (29, false))⟩,
  ⟨(some 34), .pick (.tmp 29) (.const (.bool true)) (.tmp 33), none⟩])
 (.cond (.tmp 34) (.seq (.ops [⟨(some 2), .mov (.const (.bool false)), none⟩])
 .ret)
 .skip))))
 (.ops [⟨(some 35), .mov (.tmp 0), none⟩,
  ⟨(some 36), .cint .u64 (.tmp 35), none⟩,
  ⟨(some 37), .ar .u64 .rem (.tmp 36) (.const (.int .u64 31)), none⟩,
  ⟨(some 38), .cint .i64 (.tmp 37), none⟩,
  ⟨(some 0), .mov (.tmp 38), none⟩]))))
 (.ops [⟨(some 8), .mov (.tmp 3), none⟩,
  ⟨(some 9), .ar .i64 .add (.tmp 8) (.const (.int .i64 1)), none⟩,
  ⟨(some 3), .mov (.tmp 9), none⟩]))))))
 (.seq (.ops [⟨(some 39), .call 27 [], none⟩,
  ⟨(some 2), .mov (.tmp 39), none⟩])
 .ret)))
theorem enter6 {xs : List Value} {h : Hp} {Q : Value → Hp → Prop} (hl : xs.length ≤ 40) (w : wq E 40 none c6 (frameOf xs) h [] (leaveQ E [.tmp 2] Q)) : CallP E 6 xs h Q :=
  CallP.enterQ (fn := Try.f6) (fn_get Try.func6) (code := Try.f6.body.get rfl) rfl rfl rfl (by kernel_rfl) rfl (fun _ => rfl) hl w
theorem can6 : callable E 6 = true := callable_get Try.func6 rfl rfl

/-- tosher/tosherlaw08.SearchTrees -/
def c7 : C := (.seq (.ops [⟨(some 4), .mov (.const (.bool false)), none⟩])
 (.seq (.ops [⟨(some 16), .mov (.tmp 1), none⟩,
  ⟨(some 17), .call 38 [(.tmp 16)], none⟩,
  ⟨(some 5), .mov (.tmp 17), none⟩])
 (.seq (.ops [⟨(some 18), .mov (.tmp 0), none⟩,
  ⟨(some 19), .mov (.tmp 5), none⟩,
  ⟨(some 20), .call 39 [(.tmp 18), (.tmp 19)], none⟩,
  ⟨(some 6), .mov (.tmp 20), none⟩])
 (.seq (.seq (.ops [⟨(some 21), .mov (.tmp 0), none⟩,
  ⟨(some 22), .mov (.tmp 5), none⟩,
  ⟨(some 23), .call 40 [(.tmp 21), (.tmp 22)], none⟩,
  ⟨(some 24), .mov (.tmp 6), none⟩,
  ⟨(some 25), .ar .i64 .neq (.tmp 23) (.tmp 24), none⟩])
 (.cond (.tmp 25) (.seq (.ops [⟨(some 4), .mov (.const (.bool false)), none⟩])
 .ret)
 .skip))
 (.seq (.seq (.ops [⟨(some 26), .mov (.tmp 6), none⟩,
  ⟨(some 27), .ar .i64 .eql (.tmp 26) (.const (.int .i64 0)), none⟩])
 (.cond (.tmp 27) (.seq (.ops [⟨(some 28), .call 27 [], none⟩,
  ⟨(some 4), .mov (.tmp 28), none⟩])
 .ret)
 .skip))
 (.seq (.ops [⟨(some 30), .mov (.tmp 0), none⟩,
  ⟨(some 31), .mov (.tmp 5), none⟩,
  ⟨(some 32), .call 41 [(.tmp 30), (.tmp 31)], none⟩,
  ⟨(some 29), .mov (.tmp 32), none⟩,
  ⟨(some 33), .ext (.tmp 29) 0, none⟩,
  ⟨(some 34), .ext (.tmp 29) 1, none⟩,
  ⟨(some 7), .mov (.tmp 33), none⟩,
  ⟨(some 8), .mov (.tmp 34), none⟩])
 (.seq (.ops [⟨(some 36), .mov (.tmp 0), none⟩,
  ⟨(some 37), .mov (.tmp 5), none⟩,
  ⟨(some 38), .call 42 [(.tmp 36), (.tmp 37)], none⟩,
  ⟨(some 35), .mov (.tmp 38), none⟩,
  ⟨(some 39), .ext (.tmp 35) 0, none⟩,
  ⟨(some 40), .ext (.tmp 35) 1, none⟩,
  ⟨(some 9), .mov (.tmp 39), none⟩,
  ⟨(some 10), .mov (.tmp 40), none⟩])
 (.seq (.ops [⟨(some 42), .mov (.tmp 0), none⟩,
  ⟨(some 43), .mov (.tmp 5), none⟩,
  ⟨(some 44), .call 43 [(.tmp 42), (.tmp 43), (.const (.slice none 0 0))], none⟩,
  ⟨(some 41), .mov (.tmp 44), none⟩,
  ⟨(some 45), .ext (.tmp 41) 0, none⟩,
  ⟨(some 46), .ext (.tmp 41) 1, none⟩,
  ⟨(some 11), .mov (.tmp 45), none⟩,
  ⟨(some 12), .mov (.tmp 46), none⟩])
 (.seq (.ops [⟨(some 48), .mov (.tmp 0), none⟩,
  ⟨(some 49), .mov (.tmp 5), none⟩,
  ⟨(some 50), .call 44 [(.tmp 48), (.tmp 49)], none⟩,
  ⟨(some 47), .mov (.tmp 50), none⟩,
  ⟨(some 51), .ext (.tmp 47) 0, none⟩,
  ⟨(some 52), .ext (.tmp 47) 1, none⟩,
  ⟨(some 53), .ext (.tmp 47) 2, none⟩,
  ⟨(some 13), .mov (.tmp 51), none⟩,
  ⟨(some 14), .mov (.tmp 52), none⟩,
  ⟨(some 15), .mov (.tmp 53), none⟩])
 (.seq (.ops [⟨(some 54), .mov (.tmp 8), none⟩,
  ⟨(some 55), .mov (.tmp 6), none⟩,
  ⟨(some 56), .ar .i64 .eql (.tmp 54) (.tmp 55), none⟩,
  ⟨(some 57), .mov (.tmp 56), none⟩,
  ⟨(some 58), .mov (.tmp 10), (some (57, true))⟩,
  ⟨(some 59), .mov (.tmp 6), (some (57, true))⟩,
  ⟨(some 60), .ar .i64 .eql (.tmp 58) (.tmp 59), (some (57, true))⟩,
  ⟨(some 61), .pick (.tmp 57) (.tmp 60) (.const (.bool false)), none⟩,
  ⟨(some 62), .mov (.tmp 61), none⟩,
  ⟨(some 63), .mov (.tmp 12), (some (62, true))⟩,
  ⟨(some 64), .mov (.tmp 6), (some (62, true))⟩,
  ⟨(some 65), .ar .i64 .eql (.tmp 63) (.tmp 64), (some (62, true))⟩,
  ⟨(some 66), .pick (.tmp 62) (.tmp 65) (.const (.bool false)), none⟩,
  ⟨(some 67), .mov (.tmp 66), none⟩,
  ⟨(some 68), .mov (.tmp 15), (some (67, true))⟩,
  ⟨(some 69), .mov (.tmp 6), (some (67, true))⟩,
  ⟨(some 70), .ar .i64 .eql (.tmp 68) (.tmp 69), (some (67, true))⟩,
  ⟨(some 71), .pick (.tmp 67) (.tmp 70) (.const (.bool false)), none⟩,
  ⟨(some 72), .mov (.tmp 71), none⟩,
  ⟨(some 73), .mov (.tmp 11), (some (72, true))⟩,
  ⟨(some 74), .not (.tmp 73), (some (72, true))⟩,
  ⟨(some 75), .pick (.tmp 72) (.tmp 74) (.const (.bool false)), none⟩,
  ⟨(some 76), .mov (.tmp 75), none⟩,
  ⟨(some 77), .mov (.tmp 7), (some (76, true))⟩,
  ⟨(some 78), .mov (.tmp 9), (some (76, true))⟩,
  ⟨(some 79), .lenS (.tmp 78), (some (76, true))⟩,
  ⟨(some 80), .ar .i64 .add (.tmp 77) (.tmp 79), (some (76, true))⟩,
  ⟨(some 81), .mov (.tmp 13), (some (76, true))⟩,
  ⟨(some 82), .ar .i64 .add (.tmp 80) (.tmp 81), (some (76, true))⟩,
  ⟨(some 83), .mov (.tmp 14), (some (76, true))⟩,
  ⟨(some 84), .ar .i64 .add (.tmp 82) (.tmp 83), (some (76, true))⟩,
  ⟨(some 85), .ar .i64 .eql (.tmp 84) (.const (.int .i64 0)), (some (76, true))⟩,
  ⟨(some 86), .pick (.tmp 76) (.tmp 85) (.const (.bool false)), none⟩,
  ⟨(some 87), .mov (.tmp 86), none⟩,
  ⟨(some 88), .call 27 [], (some (87, true))⟩,
  ⟨(some 89), .pick (.tmp 87) (.tmp 88) (.const (.bool false)), none⟩,
  ⟨(some 4), .mov (.tmp 89), none⟩])
 .ret))))))))))
theorem enter7 {xs : List Value} {h : Hp} {Q : Value → Hp → Prop} (hl : xs.length ≤ 90) (w : wq E 90 none c7 (frameOf xs) h [] (leaveQ E [.tmp 4] Q)) : CallP E 7 xs h Q :=
  CallP.enterQ (fn := Try.f7) (fn_get Try.func7) (code := Try.f7.body.get rfl) rfl rfl rfl (by kernel_rfl) rfl (fun _ => rfl) hl w
theorem can7 : callable E 7 = true := callable_get Try.func7 rfl rfl

/-- tosher/tosherlaw08.SearchMarks -/
def c9 : C := (.seq (.ops [⟨(some 6), .mov (.const (.bool false)), none⟩])
 (.seq (.ops [⟨(some 17), .mov (.tmp 0), none⟩,
  ⟨(some 18), .mov (.tmp 1), none⟩,
  ⟨(some 19), .call 45 [(.tmp 17), (.tmp 18)], none⟩,
  ⟨(some 16), .mov (.tmp 19), none⟩,
  ⟨(some 20), .ext (.tmp 16) 0, none⟩,
  ⟨(some 21), .ext (.tmp 16) 1, none⟩,
  ⟨(some 0), .mov (.tmp 20), none⟩,
  ⟨(some 7), .mov (.tmp 21), none⟩])
 (.seq (.ops [⟨(some 22), .mov (.tmp 2), none⟩,
  ⟨(some 23), .call 16 [(.tmp 22), (.const (.int .i64 11))], none⟩,
  ⟨(some 8), .mov (.tmp 23), none⟩])
 (.seq (.seq (.ops [⟨(some 9), .mov (.const (.int .i64 0)), none⟩])
 (.block 0 (.loop (.seq (.seq (.ops [⟨(some 24), .mov (.tmp 9), none⟩,
  ⟨(some 25), .ar .i64 .lss (.tmp 24) (.const (.int .i64 3)), none⟩])
 (.cond (.tmp 25) .skip
 (.exit 0)))
 (.seq (.block 1 (.seq (.ops [⟨(some 29), .mov (.tmp 0), none⟩,
  ⟨(some 30), .mov (.tmp 7), none⟩,
  ⟨(some 31), .mov (.tmp 8), none⟩,
  ⟨(some 32), .call 43 [(.tmp 29), (.tmp 30), (.tmp 31)], none⟩,
  ⟨(some 28), .mov (.tmp 32), none⟩,
  ⟨(some 33), .ext (.tmp 28) 0, none⟩,
  ⟨(some 34), .ext (.tmp 28) 1, none⟩,
  ⟨(some 10), .mov (.tmp 33), none⟩,
  ⟨(some 11), .mov (.tmp 34), none⟩])
 (.seq (.seq (.ops [⟨(some 35), .mov (.tmp 11), none⟩,
  ⟨(some 36), .ar .i64 .neq (.tmp 35) (.const (.int .i64 0)), none⟩,
  ⟨(some 37), .mov (.tmp 36), none⟩,
  ⟨(some 38), .mov (.tmp 10), (some (37, false))⟩,
  ⟨(some 39), .mov (.tmp 0), (some (37, false))⟩,
  ⟨(some 40), .mov (.tmp 7), (some (37, false))⟩,
  ⟨(some 41), .mov (.tmp 8), (some (37, false))⟩,
  ⟨(some 42), .call 48 [(.tmp 39), (.tmp 40), (.tmp 41)], (some (37, false))⟩,
  ⟨(some 43), .raw (.binOp .neq 4 (.tmp 38) (.tmp 42) 4) 4, (some (37, false))⟩,
  ⟨(some 44), .pick (.tmp 37) (.const (.bool true)) (.tmp 43), none⟩])
 (.cond (.tmp 44) (.seq (.ops [⟨(some 6), .mov (.const (.bool false)), none⟩])
 .ret)
 .skip))
 (.seq (.seq (.ops [⟨(some 45), .mov (.tmp 9), none⟩,
  ⟨(some 46), .ar .i64 .eql (.tmp 45) (.const (.int .i64 1)), none⟩])
 (.cond (.tmp 46) (.seq (.ops [⟨(some 48), .mov (.tmp 0), none⟩,
  ⟨(some 49), .mov (.tmp 7), none⟩,
  ⟨(some 50), .call 42 [(.tmp 48), (.tmp 49)], none⟩,
  ⟨(some 47), .mov (.tmp 50), none⟩,
  ⟨(some 51), .ext (.tmp 47) 0, none⟩,
  ⟨(some 52), .ext (.tmp 47) 1, none⟩,
  ⟨(some 12), .mov (.tmp 51), none⟩,
  ⟨(some 13), .mov (.tmp 52), none⟩])
 (.seq (.seq (.ops [⟨(some 53), .mov (.tmp 13), none⟩,
  ⟨(some 54), .ar .i64 .neq (.tmp 53) (.const (.int .i64 0)), none⟩,
  ⟨(some 55), .mov (.tmp 54), none⟩,
  ⟨(some 56), .mov (.tmp 12), (some (55, false))⟩,
  ⟨(some 57), .lenS (.tmp 56), (some (55, false))⟩,
  ⟨(some 58), .mov (.tmp 0), (some (55, false))⟩,
  ⟨(some 59), .ar .i64 .neq (.tmp 57) (.tmp 58), (some (55, false))⟩,
  ⟨(some 60), .pick (.tmp 55) (.const (.bool true)) (.tmp 59), none⟩])
 (.cond (.tmp 60) (.seq (.ops [⟨(some 6), .mov (.const (.bool false)), none⟩])
 .ret)
 .skip))
 (.seq (.ops [⟨(some 61), .mov (.tmp 12), none⟩,
  ⟨(some 8), .mov (.tmp 61), none⟩])
 (.seq (.seq (.ops [⟨(some 62), .mov (.tmp 2), none⟩,
  ⟨(some 63), .lenS (.tmp 62), none⟩,
  ⟨(some 64), .ar .i64 .gtr (.tmp 63) (.const (.int .i64 0)), none⟩])
 (.cond (.tmp 64) (.ops [⟨(some 65), .mov (.tmp 8), none⟩,
  ⟨(some 66), .mov (.tmp 2), none⟩,
  ⟨(some 67), .idxS 1 (.tmp 66) (.const (.int .i64 0)), none⟩,
  ⟨(some 68), .load1 (.tmp 67), none⟩,
  ⟨(some 69), .cint .u64 (.tmp 68), none⟩,
  ⟨(some 70), .mov (.tmp 0), none⟩,
  ⟨(some 71), .cint .u64 (.tmp 70), none⟩,
  ⟨(some 72), .ar .u64 .rem (.tmp 69) (.tmp 71), none⟩,
  ⟨(some 73), .cint .i64 (.tmp 72), none⟩,
  ⟨(some 74), .idxS 1 (.tmp 65) (.tmp 73), none⟩,
  ⟨(some 75), .load1 (.tmp 74), none⟩,
  ⟨(some 76), .ar .i64 .add (.tmp 75) (.const (.int .i64 1)), none⟩,
  ⟨(some 77), .idxS 1 (.tmp 65) (.tmp 73), none⟩,
  ⟨none, .store 1 (.tmp 77) (.tmp 76), none⟩])
 .skip))
 (.exit 1)))))
 .skip))
 (.seq (.ops [⟨(some 8), .mov (.const (.slice none 0 0)), none⟩])
 (.seq (.ops [⟨(some 14), .mov (.const (.int .i64 0)), none⟩])
 (.block 2 (.loop (.seq (.seq (.ops [⟨(some 78), .mov (.tmp 14), none⟩,
  ⟨(some 79), .mov (.tmp 0), none⟩,
  ⟨(some 80), .ar .i64 .lss (.tmp 78) (.tmp 79), none⟩])
 (.cond (.tmp 80) .skip
 (.exit 2)))
 (.seq (.block 3 (.seq (.ops [⟨(some 83), .mov (.tmp 14), none⟩,
  ⟨(some 15), .mov (.tmp 83), none⟩])
 (.seq (.seq (.ops [⟨(some 84), .mov (.tmp 14), none⟩,
  ⟨(some 85), .mov (.tmp 2), none⟩,
  ⟨(some 86), .lenS (.tmp 85), none⟩,
  ⟨(some 87), .ar .i64 .lss (.tmp 84) (.tmp 86), none⟩])
 (.cond (.tmp 87) (.ops [⟨(some 88), .mov (.tmp 2), none⟩,
  ⟨(some 89), .mov (.tmp 14), none⟩,
  ⟨(some 90), .idxS 1 (.tmp 88) (.tmp 89), none⟩,
  ⟨(some 91), .load1 (.tmp 90), none⟩,
  ⟨(some 92), .cint .u64 (.tmp 91), none⟩,
  ⟨(some 93), .ar .u64 .rem (.tmp 92) (.const (.int .u64 4)), none⟩,
  ⟨(some 94), .cint .i64 (.tmp 93), none⟩,
  ⟨(some 15), .mov (.tmp 94), none⟩])
 .skip))
 (.ops [⟨(some 95), .mov (.tmp 8), none⟩,
  ⟨(some 96), .mov (.tmp 15), none⟩,
  ⟨(some 97), .slit 3 1 [(.int .i64 0)] [(0, 1, (.tmp 96))], none⟩,
  ⟨(some 98), .append 3 1 8 (.tmp 95) (.tmp 97), none⟩,
  ⟨(some 8), .mov (.tmp 98), none⟩]))))
 (.ops [⟨(some 81), .mov (.tmp 14), none⟩,
  ⟨(some 82), .ar .i64 .add (.tmp 81) (.const (.int .i64 1)), none⟩,
  ⟨(some 14), .mov (.tmp 82), none⟩])))))))))))
 (.ops [⟨(some 26), .mov (.tmp 9), none⟩,
  ⟨(some 27), .ar .i64 .add (.tmp 26) (.const (.int .i64 1)), none⟩,
  ⟨(some 9), .mov (.tmp 27), none⟩]))))))
 (.seq (.ops [⟨(some 99), .call 27 [], none⟩,
  ⟨(some 6), .mov (.tmp 99), none⟩])
 .ret)))))
theorem enter9 {xs : List Value} {h : Hp} {Q : Value → Hp → Prop} (hl : xs.length ≤ 100) (w : wq E 100 none c9 (frameOf xs) h [] (leaveQ E [.tmp 6] Q)) : CallP E 9 xs h Q :=
  CallP.enterQ (fn := Try.f9) (fn_get Try.func9) (code := Try.f9.body.get rfl) rfl rfl rfl (by kernel_rfl) rfl (fun _ => rfl) hl w
theorem can9 : callable E 9 = true := callable_get Try.func9 rfl rfl

/-- tosher/tosherlaw08.SearchJordan -/
def c12 : C := (.seq (.ops [⟨(some 4), .mov (.const (.bool false)), none⟩])
 (.seq (.ops [⟨(some 21), .mov (.tmp 0), none⟩,
  ⟨(some 22), .mov (.tmp 1), none⟩,
  ⟨(some 23), .call 45 [(.tmp 21), (.tmp 22)], none⟩,
  ⟨(some 20), .mov (.tmp 23), none⟩,
  ⟨(some 24), .ext (.tmp 20) 0, none⟩,
  ⟨(some 25), .ext (.tmp 20) 1, none⟩,
  ⟨(some 0), .mov (.tmp 24), none⟩,
  ⟨(some 5), .mov (.tmp 25), none⟩])
 (.seq (.ops [⟨(some 27), .mov (.tmp 0), none⟩,
  ⟨(some 28), .mov (.tmp 5), none⟩,
  ⟨(some 29), .call 41 [(.tmp 27), (.tmp 28)], none⟩,
  ⟨(some 26), .mov (.tmp 29), none⟩,
  ⟨(some 30), .ext (.tmp 26) 0, none⟩,
  ⟨(some 31), .ext (.tmp 26) 1, none⟩,
  ⟨(some 6), .mov (.tmp 30), none⟩,
  ⟨(some 7), .mov (.tmp 31), none⟩])
 (.seq (.ops [⟨(some 33), .mov (.tmp 0), none⟩,
  ⟨(some 34), .mov (.tmp 5), none⟩,
  ⟨(some 35), .call 42 [(.tmp 33), (.tmp 34)], none⟩,
  ⟨(some 32), .mov (.tmp 35), none⟩,
  ⟨(some 36), .ext (.tmp 32) 0, none⟩,
  ⟨(some 37), .ext (.tmp 32) 1, none⟩,
  ⟨(some 8), .mov (.tmp 36), none⟩,
  ⟨(some 9), .mov (.tmp 37), none⟩])
 (.seq (.ops [⟨(some 39), .mov (.tmp 0), none⟩,
  ⟨(some 40), .mov (.tmp 5), none⟩,
  ⟨(some 41), .mov (.tmp 8), none⟩,
  ⟨(some 42), .call 43 [(.tmp 39), (.tmp 40), (.tmp 41)], none⟩,
  ⟨(some 38), .mov (.tmp 42), none⟩,
  ⟨(some 43), .ext (.tmp 38) 0, none⟩,
  ⟨(some 44), .ext (.tmp 38) 1, none⟩,
  ⟨(some 10), .mov (.tmp 43), none⟩,
  ⟨(some 11), .mov (.tmp 44), none⟩])
 (.seq (.ops [⟨(some 46), .mov (.tmp 0), none⟩,
  ⟨(some 47), .mov (.tmp 5), none⟩,
  ⟨(some 48), .call 44 [(.tmp 46), (.tmp 47)], none⟩,
  ⟨(some 45), .mov (.tmp 48), none⟩,
  ⟨(some 49), .ext (.tmp 45) 0, none⟩,
  ⟨(some 50), .ext (.tmp 45) 1, none⟩,
  ⟨(some 51), .ext (.tmp 45) 2, none⟩,
  ⟨(some 12), .mov (.tmp 49), none⟩,
  ⟨(some 13), .mov (.tmp 50), none⟩,
  ⟨(some 14), .mov (.tmp 51), none⟩])
 (.seq (.seq (.ops [⟨(some 52), .mov (.tmp 7), none⟩,
  ⟨(some 53), .ar .i64 .neq (.tmp 52) (.const (.int .i64 0)), none⟩,
  ⟨(some 54), .mov (.tmp 53), none⟩,
  ⟨(some 55), .mov (.tmp 9), (some (54, false))⟩,
  ⟨(some 56), .ar .i64 .neq (.tmp 55) (.const (.int .i64 0)), (some (54, false))⟩,
  ⟨(some 57), .pick (.tmp 54) (.const (.bool true)) (.tmp 56), none⟩,
  ⟨(some 58), .mov (.tmp 57), none⟩,
  ⟨(some 59), .mov (.tmp 11), (some (58, false))⟩,
  ⟨(some 60), .ar .i64 .neq (.tmp 59) (.const (.int .i64 0)), (some (58, false))⟩,
  ⟨(some 61), .pick (.tmp 58) (.const (.bool true)) (.tmp 60), none⟩,
  ⟨(some 62), .mov (.tmp 61), none⟩,
  ⟨(some 63), .mov (.tmp 14), (some (62, false))⟩,
  ⟨(some 64), .ar .i64 .neq (.tmp 63) (.const (.int .i64 0)), (some (62, false))⟩,
  ⟨(some 65), .pick (.tmp 62) (.const (.bool true)) (.tmp 64), none⟩,
  ⟨(some 66), .mov (.tmp 65), none⟩,
  ⟨(some 67), .mov (.tmp 10), (some (66, false))⟩,
  ⟨(some 68), .not (.tmp 67), (some (66, false))⟩,
  ⟨(some 69), .pick (.tmp 66) (.const (.bool true)) (.tmp 68), none⟩,
  ⟨(some 70), .mov (.tmp 69), none⟩,
  ⟨(some 71), .mov (.tmp 8), (some (70, false))⟩,
  ⟨(some 72), .lenS (.tmp 71), (some (70, false))⟩,
  ⟨(some 73), .mov (.tmp 0), (some (70, false))⟩,
  ⟨(some 74), .ar .i64 .neq (.tmp 72) (.tmp 73), (some (70, false))⟩,
  ⟨(some 75), .pick (.tmp 70) (.const (.bool true)) (.tmp 74), none⟩,
  ⟨(some 76), .mov (.tmp 75), none⟩,
  ⟨(some 77), .mov (.tmp 6), (some (76, false))⟩,
  ⟨(some 78), .ar .i64 .lss (.tmp 77) (.const (.int .i64 0)), (some (76, false))⟩,
  ⟨(some 79), .pick (.tmp 76) (.const (.bool true)) (.tmp 78), none⟩,
  ⟨(some 80), .mov (.tmp 79), none⟩,
  ⟨(some 81), .mov (.tmp 6), (some (80, false))⟩,
  ⟨(some 82), .mov (.tmp 0), (some (80, false))⟩,
  ⟨(some 83), .ar .i64 .gtr (.tmp 81) (.tmp 82), (some (80, false))⟩,
  ⟨(some 84), .pick (.tmp 80) (.const (.bool true)) (.tmp 83), none⟩,
  ⟨(some 85), .mov (.tmp 84), none⟩,
  ⟨(some 86), .mov (.tmp 6), (some (85, false))⟩,
  ⟨(some 87), .ar .i64 .shl (.const (.int .i64 1)) (.tmp 86), (some (85, false))⟩,
  ⟨(some 88), .mov (.tmp 0), (some (85, false))⟩,
  ⟨(some 89), .ar .i64 .gtr (.tmp 87) (.tmp 88), (some (85, false))⟩,
  ⟨(some 90), .pick (.tmp 85) (.const (.bool true)) (.tmp 89), none⟩,
  ⟨(some 91), .mov (.tmp 90), none⟩,
  ⟨(some 92), .mov (.tmp 12), (some (91, false))⟩,
  ⟨(some 93), .ar .i64 .lss (.tmp 92) (.const (.int .i64 0)), (some (91, false))⟩,
  ⟨(some 94), .pick (.tmp 91) (.const (.bool true)) (.tmp 93), none⟩,
  ⟨(some 95), .mov (.tmp 94), none⟩,
  ⟨(some 96), .mov (.tmp 12), (some (95, false))⟩,
  ⟨(some 97), .mov (.tmp 0), (some (95, false))⟩,
  ⟨(some 98), .ar .i64 .geq (.tmp 96) (.tmp 97), (some (95, false))⟩,
  ⟨(some 99), .pick (.tmp 95) (.const (.bool true)) (.tmp 98), none⟩,
  ⟨(some 100), .mov (.tmp 99), none⟩,
  ⟨(some 101), .mov (.tmp 13), (some (100, false))⟩,
  ⟨(some 102), .ar .i64 .lss (.tmp 101) (.const (.int .i64 0)), (some (100, false))⟩,
  ⟨(some 103), .pick (.tmp 100) (.const (.bool true)) (.tmp 102), none⟩,
  ⟨(some 104), .mov (.tmp 103), none⟩,
  ⟨(some 105), .mov (.tmp 13), (some (104, false))⟩,
  ⟨(some 106), .ar .i64 .mul (.const (.int .i64 2)) (.tmp 105), (some (104, false))⟩,
  ⟨(some 107), .mov (.tmp 0), (some (104, false))⟩,
  ⟨(some 108), .ar .i64 .gtr (.tmp 106) (.tmp 107), (some (104, false))⟩,
  ⟨(some 109), .pick (.tmp 104) (.const (.bool true)) (.tmp 108), none⟩])
 (.cond (.tmp 109) (.seq (.ops [⟨(some 4), .mov (.const (.bool false)), none⟩])
 .ret)
 .skip))
 (.seq (.ops [⟨(some 15), .mov (.const (.int .i64 0)), none⟩])
 (.seq (.seq (.ops [⟨(some 16), .mov (.const (.int .i64 0)), none⟩])
 (.block 0 (.loop (.seq (.seq (.ops [⟨(some 110), .mov (.tmp 16), none⟩,
  ⟨(some 111), .mov (.tmp 0), none⟩,
  ⟨(some 112), .ar .i64 .lss (.tmp 110) (.tmp 111), none⟩])
 (.cond (.tmp 112) .skip
 (.exit 0)))
 (.seq (.block 1 (.ops [⟨(some 115), .mov (.tmp 15), none⟩,
  ⟨(some 116), .mov (.tmp 8), none⟩,
  ⟨(some 117), .mov (.tmp 16), none⟩,
  ⟨(some 118), .idxS 1 (.tmp 116) (.tmp 117), none⟩,
  ⟨(some 119), .load1 (.tmp 118), none⟩,
  ⟨(some 120), .raw (.call ⟨.builtin .max, ⟨[(.tmp 115), (.tmp 119)]⟩, ⟨[3, 3]⟩⟩) 3, none⟩,
  ⟨(some 15), .mov (.tmp 120), none⟩]))
 (.ops [⟨(some 113), .mov (.tmp 16), none⟩,
  ⟨(some 114), .ar .i64 .add (.tmp 113) (.const (.int .i64 1)), none⟩,
  ⟨(some 16), .mov (.tmp 114), none⟩]))))))
 (.seq (.seq (.ops [⟨(some 121), .mov (.tmp 0), none⟩,
  ⟨(some 122), .ar .i64 .gtr (.tmp 121) (.const (.int .i64 1)), none⟩])
 (.cond (.tmp 122) (.seq (.ops [⟨(some 17), .mov (.const (.slice none 0 0)), none⟩])
 (.seq (.ops [⟨(some 123), .mov (.tmp 17), none⟩,
  ⟨(some 124), .mov (.tmp 5), none⟩,
  ⟨(some 125), .append 81 2 16 (.tmp 123) (.tmp 124), none⟩,
  ⟨(some 17), .mov (.tmp 125), none⟩])
 (.seq (.ops [⟨(some 126), .mov (.tmp 17), none⟩,
  ⟨(some 127), .mov (.tmp 0), none⟩,
  ⟨(some 128), .ar .i64 .sub (.tmp 127) (.const (.int .i64 1)), none⟩,
  ⟨(some 129), .mov (.tmp 0), none⟩,
  ⟨(some 130), .aggr [(.int .i64 0), (.int .i64 0)] [(0, 1, (.tmp 128)), (1, 1, (.tmp 129))], none⟩,
  ⟨(some 131), .slit 81 1 [(.int .i64 0), (.int .i64 0)] [(0, 2, (.tmp 130))], none⟩,
  ⟨(some 132), .append 81 2 16 (.tmp 126) (.tmp 131), none⟩,
  ⟨(some 17), .mov (.tmp 132), none⟩])
 (.seq (.ops [⟨(some 133), .mov (.tmp 0), none⟩,
  ⟨(some 134), .ar .i64 .lss (.tmp 133) (.const (.int .i64 10)), none⟩])
 (.cond (.tmp 134) (.seq (.ops [⟨(some 136), .mov (.tmp 0), none⟩,
  ⟨(some 137), .ar .i64 .add (.tmp 136) (.const (.int .i64 1)), none⟩,
  ⟨(some 138), .mov (.tmp 17), none⟩,
  ⟨(some 139), .call 41 [(.tmp 137), (.tmp 138)], none⟩,
  ⟨(some 135), .mov (.tmp 139), none⟩,
  ⟨(some 140), .ext (.tmp 135) 0, none⟩,
  ⟨(some 141), .ext (.tmp 135) 1, none⟩,
  ⟨(some 18), .mov (.tmp 140), none⟩,
  ⟨(some 19), .mov (.tmp 141), none⟩])
 (.seq (.ops [⟨(some 142), .mov (.tmp 19), none⟩,
  ⟨(some 143), .ar .i64 .neq (.tmp 142) (.const (.int .i64 0)), none⟩,
  ⟨(some 144), .mov (.tmp 143), none⟩,
  ⟨(some 145), .mov (.tmp 18), (some (144, false))⟩,
  ⟨(some 146), .mov (.tmp 6), (some (144, false))⟩,
  ⟨(some 147), .ar .i64 .lss (.tmp 145) (.tmp 146), (some (144, false))⟩,
  ⟨(some 148), .pick (.tmp 144) (.const (.bool true)) (.tmp 147), none⟩,
  ⟨(some 149), .mov (.tmp 148), none⟩,
  ⟨(some 150), .mov (.tmp 18), (some (149, false))⟩,
  ⟨(some 151), .mov (.tmp 6), (some (149, false))⟩,
  ⟨(some 152), .ar .i64 .add (.tmp 151) (.const (.int .i64 1)), (some (149, false))⟩,
  ⟨(some 153), .ar .i64 .gtr (.tmp 150) (.tmp 152), (some (149, false))⟩,
  ⟨(some 154), .pick (.tmp 149) (.const (.bool true)) (.tmp 153), none⟩])
 (.cond (.tmp 154) (.seq (.ops [⟨(some 4), .mov (.const (.bool false)), none⟩])
 .ret)
 .skip)))
 .skip)))))
 .skip))
 (.seq (.ops [⟨(some 155), .mov (.tmp 15), none⟩,
  ⟨(some 156), .mov (.tmp 6), none⟩,
  ⟨(some 157), .ar .i64 .eql (.tmp 155) (.tmp 156), none⟩,
  ⟨(some 158), .mov (.tmp 157), none⟩,
  ⟨(some 159), .call 27 [], (some (158, true))⟩,
  ⟨(some 160), .pick (.tmp 158) (.tmp 159) (.const (.bool false)), none⟩,
  ⟨(some 4), .mov (.tmp 160), none⟩])
 .ret)))))))))))
theorem enter12 {xs : List Value} {h : Hp} {Q : Value → Hp → Prop} (hl : xs.length ≤ 161) (w : wq E 161 none c12 (frameOf xs) h [] (leaveQ E [.tmp 4] Q)) : CallP E 12 xs h Q :=
  CallP.enterQ (fn := Try.f12) (fn_get Try.func12) (code := Try.f12.body.get rfl) rfl rfl rfl (by kernel_rfl) rfl (fun _ => rfl) hl w
theorem can12 : callable E 12 = true := callable_get Try.func12 rfl rfl

theorem memo27 {h : Hp} {Q : Value → Hp → Prop} (q : Q (.bool true) h) : CallP E 27 [] h Q := CallP.memo rfl q

/-- tosher/tosherref08.Worst -/
def c35 : C := (.seq (.ops [⟨(some 2), .mov (.const (.int .i64 0)), none⟩])
 (.seq (.ops [⟨(some 3), .mov (.const (.int .i64 0)), none⟩])
 (.seq (.seq (.ops [⟨(some 4), .mov (.const (.int .i64 0)), none⟩])
 (.block 0 (.loop (.seq (.seq (.ops [⟨(some 5), .mov (.tmp 4), none⟩,
  ⟨(some 6), .mov (.tmp 0), none⟩,
  ⟨(some 7), .lenS (.tmp 6), none⟩,
  ⟨(some 8), .ar .i64 .lss (.tmp 5) (.tmp 7), none⟩])
 (.cond (.tmp 8) .skip
 (.exit 0)))
 (.seq (.block 1 (.ops [⟨(some 11), .mov (.tmp 3), none⟩,
  ⟨(some 12), .mov (.tmp 0), none⟩,
  ⟨(some 13), .mov (.tmp 4), none⟩,
  ⟨(some 14), .idxS 1 (.tmp 12) (.tmp 13), none⟩,
  ⟨(some 15), .load1 (.tmp 14), none⟩,
  ⟨(some 16), .raw (.call ⟨.builtin .max, ⟨[(.tmp 11), (.tmp 15)]⟩, ⟨[3, 3]⟩⟩) 3, none⟩,
  ⟨(some 3), .mov (.tmp 16), none⟩]))
 (.ops [⟨(some 9), .mov (.tmp 4), none⟩,
  ⟨(some 10), .ar .i64 .add (.tmp 9) (.const (.int .i64 1)), none⟩,
  ⟨(some 4), .mov (.tmp 10), none⟩]))))))
 (.seq (.ops [⟨(some 17), .mov (.tmp 3), none⟩,
  ⟨(some 2), .mov (.tmp 17), none⟩])
 .ret))))
theorem enter35 {xs : List Value} {h : Hp} {Q : Value → Hp → Prop} (hl : xs.length ≤ 18) (w : wq E 18 none c35 (frameOf xs) h [] (leaveQ E [.tmp 2] Q)) : CallP E 35 xs h Q :=
  CallP.enterQ (fn := Try.f35) (fn_get Try.func35) (code := Try.f35.body.get rfl) rfl rfl rfl (by kernel_rfl) rfl (fun _ => rfl) hl w
theorem can35 : callable E 35 = true := callable_get Try.func35 rfl rfl

/-- tosher/tosherlaw08.pairs -/
def c38 : C := (.seq (.ops [⟨(some 2), .mov (.const (.slice none 0 0)), none⟩])
 (.seq (.ops [⟨(some 3), .mov (.const (.slice none 0 0)), none⟩])
 (.seq (.ops [⟨(some 4), .mov (.tmp 3), none⟩,
  ⟨(some 5), .mov (.tmp 0), none⟩,
  ⟨(some 6), .mov (.tmp 0), none⟩,
  ⟨(some 7), .lenS (.tmp 6), none⟩,
  ⟨(some 8), .raw (.call ⟨.builtin .min, ⟨[(.tmp 7), (.const (.int .i64 11))]⟩, ⟨[3, 3]⟩⟩) 3, none⟩,
  ⟨(some 9), .cutS 2 (.tmp 5) none (some (.tmp 8)) none, none⟩,
  ⟨(some 10), .append 81 2 16 (.tmp 4) (.tmp 9), none⟩,
  ⟨(some 2), .mov (.tmp 10), none⟩])
 .ret)))
theorem enter38 {xs : List Value} {h : Hp} {Q : Value → Hp → Prop} (hl : xs.length ≤ 11) (w : wq E 11 none c38 (frameOf xs) h [] (leaveQ E [.tmp 2] Q)) : CallP E 38 xs h Q :=
  CallP.enterQ (fn := Try.f38) (fn_get Try.func38) (code := Try.f38.body.get rfl) rfl rfl rfl (by kernel_rfl) rfl (fun _ => rfl) hl w
theorem can38 : callable E 38 = true := callable_get Try.func38 rfl rfl

/-- tosher/tosherref08.Tree -/
def c39 : C := (.seq (.ops [⟨(some 4), .mov (.const (.int .i64 0)), none⟩])
 (.seq (.seq (.ops [⟨(some 8), .mov (.tmp 0), none⟩,
  ⟨(some 9), .ar .i64 .lss (.tmp 8) (.const (.int .i64 1)), none⟩,
  ⟨(some 10), .mov (.tmp 9), none⟩,
  ⟨(some 11), .mov (.tmp 0), (some (10, false))⟩,
  ⟨(some 12), .ar .i64 .gtr (.tmp 11) (.const (.int .i64 10)), (some (10, false))⟩,
  ⟨(some 13), .pick (.tmp 10) (.const (.bool true)) (.tmp 12), none⟩])
 (.cond (.tmp 13) (.seq (.ops [⟨(some 4), .mov (.const (.int .i64 1)), none⟩])
 .ret)
 .skip))
 (.seq (.seq (.ops [⟨(some 5), .mov (.const (.int .i64 0)), none⟩])
 (.block 0 (.loop (.seq (.seq (.ops [⟨(some 14), .mov (.tmp 5), none⟩,
  ⟨(some 15), .mov (.tmp 1), none⟩,
  ⟨(some 16), .lenS (.tmp 15), none⟩,
  ⟨(some 17), .ar .i64 .lss (.tmp 14) (.tmp 16), none⟩])
 (.cond (.tmp 17) .skip
 (.exit 0)))
 (.seq (.block 1 (.seq (.ops [⟨(some 20), .mov (.tmp 1), none⟩,
  ⟨(some 21), .mov (.tmp 5), none⟩,
  ⟨(some 22), .idxS 2 (.tmp 20) (.tmp 21), none⟩,
  ⟨(some 23), .idxA 2 1 (.tmp 22) (.const (.int .i64 0)), none⟩,
  ⟨(some 24), .load1 (.tmp 23), none⟩,
  ⟨(some 25), .mov (.tmp 1), none⟩,
  ⟨(some 26), .mov (.tmp 5), none⟩,
  ⟨(some 27), .idxS 2 (.tmp 25) (.tmp 26), none⟩,
  ⟨(some 28), .idxA 2 1 (.tmp 27) (.const (.int .i64 1)), none⟩,
  ⟨(some 29), .load1 (.tmp 28), none⟩,
  ⟨(some 6), .mov (.tmp 24), none⟩,
  ⟨(some 7), .mov (.tmp 29), none⟩])
 (.seq (.ops [⟨(some 30), .mov (.tmp 6), none⟩,
  ⟨(some 31), .ar .i64 .lss (.tmp 30) (.const (.int .i64 0)), none⟩,
  ⟨(some 32), .mov (.tmp 31), none⟩,
  ⟨(some 33), .mov (.tmp 6), (some (32, false))⟩,
  ⟨(some 34), .mov (.tmp 7), (some (32, false))⟩,
  ⟨(some 35), .ar .i64 .geq (.tmp 33) (.tmp 34), (some (32, false))⟩,
  ⟨(some 36), .pick (.tmp 32) (.const (.bool true)) (.tmp 35), none⟩,
  ⟨(some 37), .mov (.tmp 36), none⟩,
  ⟨(some 38), .mov (.tmp 7), (some (37, false))⟩,
  ⟨(some 39), .mov (.tmp 0), (some (37, false))⟩,
  ⟨(some 40), .ar .i64 .geq (.tmp 38) (.tmp 39), (some (37, false))⟩,
  ⟨(some 41), .pick (.tmp 37) (.const (.bool true)) (.tmp 40), none⟩,
  ⟨(some 42), .mov (.tmp 41), none⟩,
  ⟨(some 43), .mov (.tmp 5), (some (42, false))⟩,
  ⟨(some 44), .ar .i64 .gtr (.tmp 43) (.const (.int .i64 0)), (some (42, false))⟩,
  ⟨(some 45), .mov (.tmp 44), (some (42, false))⟩,
  ⟨(some 46), .mov (.tmp 1), (some (45, true))⟩,
  ⟨(some 47), .mov (.tmp 5), (some (45, true))⟩,
  ⟨(some 48), .ar .i64 .sub (.tmp 47) (.const (.int .i64 1)), (some (45, true))⟩,
  ⟨(some 49), .idxS 2 (.tmp 46) (.tmp 48), (some (45, true))⟩,
  ⟨(some 50), .idxA 2 1 (.tmp 49) (.const (.int .i64 0)), (some (45, true))⟩,
  ⟨(some 51), .load1 (.tmp 50), (some (45, true))⟩,
  ⟨(some 52), .mov (.tmp 6), (some (45, true))⟩,
  ⟨(some 53), .ar .i64 .gtr (.tmp 51) (.tmp 52), (some (45, true))⟩,
  ⟨(some 54), .mov (.tmp 53), (some (45, true))⟩,
  ⟨(some 55), .mov (.tmp 1), (some (54, false))⟩,
  ⟨(some 56), .mov (.tmp 5), (some (54, false))⟩,
  ⟨(some 57), .ar .i64 .sub (.tmp 56) (.const (.int .i64 1)), (some (54, false))⟩,
  ⟨(some 58), .idxS 2 (.tmp 55) (.tmp 57), (some (54, false))⟩,
  ⟨(some 59), .idxA 2 1 (.tmp 58) (.const (.int .i64 0)), (some (54, false))⟩,
  ⟨(some 60), .load1 (.tmp 59), (some (54, false))⟩,
  ⟨(some 61), .mov (.tmp 6), (some (54, false))⟩,
  ⟨(some 62), .ar .i64 .eql (.tmp 60) (.tmp 61), (some (54, false))⟩,
  ⟨(some 63), .mov (.tmp 62), (some (54, false))⟩,
  ⟨(some 64), .mov (.tmp 1), (some (63, true))⟩,
  ⟨(some 65), .mov (.tmp 5), (some (63, true))⟩,
  ⟨(some 66), .ar .i64 .sub (.tmp 65) (.const (.int .i64 1)), (some (63, true))⟩,
  ⟨(some 67), .idxS 2 (.tmp 64) (.tmp 66), (some (63, true))⟩,
  ⟨(some 68), .idxA 2 1 (.tmp 67) (.const (.int .i64 1)), (some (63, true))⟩,
  ⟨(some 69), .load1 (.tmp 68), (some (63, true))⟩,
  ⟨(some 70), .mov (.tmp 7), (some (63, true))⟩,
  ⟨(some 71), .ar .i64 .geq (.tmp 69) (.tmp 70), (some (63, true))⟩,
  ⟨(some 72), .pick (.tmp 63) (.tmp 71) (.const (.bool false)), (some (54, false))⟩,
  ⟨(some 73), .pick (.tmp 54) (.const (.bool true)) (.tmp 72), (some (45, true))⟩,
  ⟨(some 74), .pick (.tmp 45) (.tmp 73) (.const (.bool false)), (some (42, false))⟩,
  ⟨(some 75), .pick (.tmp 42) (.const (.bool true)) (.tmp 74), none⟩])
 (.cond (.tmp 75) (.seq (.ops [⟨(some 4), .mov (.const (.int .i64 81)), none⟩])
 .ret)
 .skip))))
 (.ops [⟨(some 18), .mov (.tmp 5), none⟩,
  ⟨(some 19), .ar .i64 .add (.tmp 18) (.const (.int .i64 1)), none⟩,
  ⟨(some 5), .mov (.tmp 19), none⟩]))))))
 (.seq (.seq (.ops [⟨(some 76), .mov (.tmp 1), none⟩,
  ⟨(some 77), .lenS (.tmp 76), none⟩,
  ⟨(some 78), .mov (.tmp 0), none⟩,
  ⟨(some 79), .ar .i64 .sub (.tmp 78) (.const (.int .i64 1)), none⟩,
  ⟨(some 80), .ar .i64 .neq (.tmp 77) (.tmp 79), none⟩,
  ⟨(some 81), .mov (.tmp 80), none⟩,
  ⟨(some 82), .mov (.tmp 0), (some (81, false))⟩,
  ⟨(some 83), .mov (.tmp 1), (some (81, false))⟩,
  ⟨(some 84), .mov (.tmp 0), (some (81, false))⟩,
  ⟨(some 85), .ar .i64 .shl (.const (.int .i64 1)) (.tmp 84), (some (81, false))⟩,
  ⟨(some 86), .ar .i64 .sub (.tmp 85) (.const (.int .i64 1)), (some (81, false))⟩,
  ⟨(some 87), .call 67 [(.tmp 82), (.tmp 83), (.tmp 86)], (some (81, false))⟩,
  ⟨(some 88), .lenS (.tmp 87), (some (81, false))⟩,
  ⟨(some 89), .ar .i64 .neq (.tmp 88) (.const (.int .i64 1)), (some (81, false))⟩,
  ⟨(some 90), .pick (.tmp 81) (.const (.bool true)) (.tmp 89), none⟩])
 (.cond (.tmp 90) (.seq (.ops [⟨(some 4), .mov (.const (.int .i64 81)), none⟩])
 .ret)
 .skip))
 (.seq (.ops [⟨(some 4), .mov (.const (.int .i64 0)), none⟩])
 .ret)))))
theorem enter39 {xs : List Value} {h : Hp} {Q : Value → Hp → Prop} (hl : xs.length ≤ 91) (w : wq E 91 none c39 (frameOf xs) h [] (leaveQ E [.tmp 4] Q)) : CallP E 39 xs h Q :=
  CallP.enterQ (fn := Try.f39) (fn_get Try.func39) (code := Try.f39.body.get rfl) rfl rfl rfl (by kernel_rfl) rfl (fun _ => rfl) hl w
theorem can39 : callable E 39 = true := callable_get Try.func39 rfl rfl

/-- tosher/search.CheckTree -/
def c40 : C := (.seq (.ops [⟨(some 4), .mov (.const (.int .i64 0)), none⟩])
 (.seq (.ops [⟨(some 8), .mov (.tmp 0), none⟩,
  ⟨(some 9), .mov (.tmp 1), none⟩,
  ⟨(some 10), .call 68 [(.tmp 8), (.tmp 9)], none⟩,
  ⟨(some 7), .mov (.tmp 10), none⟩,
  ⟨(some 11), .ext (.tmp 7) 0, none⟩,
  ⟨(some 12), .ext (.tmp 7) 1, none⟩,
  ⟨(some 5), .alloc 102 [(.int .i64 0), (.int .i64 0), (.int .i64 0), (.int .i64 0), (.int .i64 0), (.int .i64 0), (.int .i64 0), (.int .i64 0), (.int .i64 0), (.int .i64 0), (.int .i64 0)], none⟩,
  ⟨none, .store 11 (.tmp 5) (.tmp 11), none⟩,
  ⟨(some 6), .mov (.tmp 12), none⟩])
 (.seq (.ops [⟨(some 13), .mov (.tmp 6), none⟩,
  ⟨(some 4), .mov (.tmp 13), none⟩])
 .ret)))
theorem enter40 {xs : List Value} {h : Hp} {Q : Value → Hp → Prop} (hl : xs.length ≤ 14) (w : wq E 14 none c40 (frameOf xs) h [] (leaveQ E [.tmp 4] Q)) : CallP E 40 xs h Q :=
  CallP.enterQ (fn := Try.f40) (fn_get Try.func40) (code := Try.f40.body.get rfl) rfl rfl rfl (by kernel_rfl) rfl (fun _ => rfl) hl w
theorem can40 : callable E 40 = true := callable_get Try.func40 rfl rfl

/-- tosher/search.Looks -/
def c41 : C := (.seq (.ops [⟨(some 4), .mov (.const (.int .i64 0)), none⟩,
  ⟨(some 5), .mov (.const (.int .i64 0)), none⟩])
 (.seq (.ops [⟨(some 9), .mov (.tmp 0), none⟩,
  ⟨(some 10), .mov (.tmp 1), none⟩,
  ⟨(some 11), .call 68 [(.tmp 9), (.tmp 10)], none⟩,
  ⟨(some 8), .mov (.tmp 11), none⟩,
  ⟨(some 12), .ext (.tmp 8) 0, none⟩,
  ⟨(some 13), .ext (.tmp 8) 1, none⟩,
  ⟨(some 6), .alloc 102 [(.int .i64 0), (.int .i64 0), (.int .i64 0), (.int .i64 0), (.int .i64 0), (.int .i64 0), (.int .i64 0), (.int .i64 0), (.int .i64 0), (.int .i64 0), (.int .i64 0)], none⟩,
  ⟨none, .store 11 (.tmp 6) (.tmp 12), none⟩,
  ⟨(some 7), .mov (.tmp 13), none⟩])
 (.seq (.seq (.ops [⟨(some 14), .mov (.tmp 7), none⟩,
  ⟨(some 15), .ar .i64 .neq (.tmp 14) (.const (.int .i64 0)), none⟩])
 (.cond (.tmp 15) (.seq (.ops [⟨(some 16), .mov (.tmp 7), none⟩,
  ⟨(some 4), .mov (.const (.int .i64 0)), none⟩,
  ⟨(some 5), .mov (.tmp 16), none⟩])
 .ret)
 .skip))
 (.seq (.ahead [⟨(some 17), .newMap, none⟩,
  ⟨(some 18), .loadN 11 (.tmp 6), none⟩,
  ⟨(some 19), .loadN 11 (.tmp 6), none⟩,
  ⟨(some 20), .call 70 [(.tmp 19)], none⟩,
  ⟨(some 21), .call 69 [(.tmp 17), (.tmp 18), (.tmp 20)], none⟩,
  ⟨(some 22), .fld1 0 (.tmp 21), none⟩,
  ⟨(some 4), .mov (.tmp 22), none⟩,
  ⟨(some 5), .mov (.const (.int .i64 0)), none⟩]
  [⟨false, true, [false, false, false, false, false, false, false, false], [false, false, false, true, false, false, false, false]⟩,
  ⟨false, true, [false, false, false, false, false, false, false, false], [false, false, false, true, false, false, false, false]⟩,
  ⟨false, false, [false, false, false, false, false, false, false, false], [false, false, false, false, false, false, false, false]⟩,
  ⟨true, false, [false, false, false, false, false, false, false, false], [false, false, false, true, false, false, false, false]⟩,
  ⟨true, false, [false, false, false, true, false, false, false, false], [false, false, false, true, true, false, false, false]⟩,
  ⟨false, false, [false, false, false, true, true, false, false, false], [false, false, false, true, true, false, false, false]⟩,
  ⟨false, false, [false, false, false, true, true, false, false, false], [false, false, false, true, true, false, false, false]⟩,
  ⟨false, false, [false, false, false, true, true, false, false, false], [false, false, false, true, true, false, false, false]⟩]
  [true, false, false, false, false, false, false, false])
 .ret))))
theorem enter41 {xs : List Value} {h : Hp} {Q : Value → Hp → Prop} (hl : xs.length ≤ 23) (w : wq E 23 none c41 (frameOf xs) h [] (leaveQ E [.tmp 4, .tmp 5] Q)) : CallP E 41 xs h Q :=
  CallP.enterQ (fn := Try.f41) (fn_get Try.func41) (code := Try.f41.body.get rfl) rfl rfl rfl (by kernel_rfl) rfl (fun _ => rfl) hl w
theorem can41 : callable E 41 = true := callable_get Try.func41 rfl rfl

/-- tosher/search.Marks -/
def c42 : C := (.seq (.ops [⟨(some 4), .mov (.const (.slice none 0 0)), none⟩,
  ⟨(some 5), .mov (.const (.int .i64 0)), none⟩])
 (.seq (.ops [⟨(some 9), .mov (.tmp 0), none⟩,
  ⟨(some 10), .mov (.tmp 1), none⟩,
  ⟨(some 11), .call 68 [(.tmp 9), (.tmp 10)], none⟩,
  ⟨(some 8), .mov (.tmp 11), none⟩,
  ⟨(some 12), .ext (.tmp 8) 0, none⟩,
  ⟨(some 13), .ext (.tmp 8) 1, none⟩,
  ⟨(some 6), .alloc 102 [(.int .i64 0), (.int .i64 0), (.int .i64 0), (.int .i64 0), (.int .i64 0), (.int .i64 0), (.int .i64 0), (.int .i64 0), (.int .i64 0), (.int .i64 0), (.int .i64 0)], none⟩,
  ⟨none, .store 11 (.tmp 6) (.tmp 12), none⟩,
  ⟨(some 7), .mov (.tmp 13), none⟩])
 (.seq (.seq (.ops [⟨(some 14), .mov (.tmp 7), none⟩,
  ⟨(some 15), .ar .i64 .neq (.tmp 14) (.const (.int .i64 0)), none⟩])
 (.cond (.tmp 15) (.seq (.ops [⟨(some 16), .mov (.tmp 7), none⟩,
  ⟨(some 4), .mov (.const (.slice none 0 0)), none⟩,
  ⟨(some 5), .mov (.tmp 16), none⟩])
 .ret)
 .skip))
 (.seq (.ops [⟨(some 17), .loadN 11 (.tmp 6), none⟩,
  ⟨(some 18), .call 71 [(.tmp 17)], none⟩,
  ⟨(some 4), .mov (.tmp 18), none⟩,
  ⟨(some 5), .mov (.const (.int .i64 0)), none⟩])
 .ret))))
theorem enter42 {xs : List Value} {h : Hp} {Q : Value → Hp → Prop} (hl : xs.length ≤ 19) (w : wq E 19 none c42 (frameOf xs) h [] (leaveQ E [.tmp 4, .tmp 5] Q)) : CallP E 42 xs h Q :=
  CallP.enterQ (fn := Try.f42) (fn_get Try.func42) (code := Try.f42.body.get rfl) rfl rfl rfl (by kernel_rfl) rfl (fun _ => rfl) hl w
theorem can42 : callable E 42 = true := callable_get Try.func42 rfl rfl

/-- tosher/search.AreMarks -/
def c43 : C := (.seq (.ops [⟨(some 6), .mov (.const (.bool false)), none⟩,
  ⟨(some 7), .mov (.const (.int .i64 0)), none⟩])
 (.seq (.ops [⟨(some 11), .mov (.tmp 0), none⟩,
  ⟨(some 12), .mov (.tmp 1), none⟩,
  ⟨(some 13), .call 68 [(.tmp 11), (.tmp 12)], none⟩,
  ⟨(some 10), .mov (.tmp 13), none⟩,
  ⟨(some 14), .ext (.tmp 10) 0, none⟩,
  ⟨(some 15), .ext (.tmp 10) 1, none⟩,
  ⟨(some 8), .alloc 102 [(.int .i64 0), (.int .i64 0), (.int .i64 0), (.int .i64 0), (.int .i64 0), (.int .i64 0), (.int .i64 0), (.int .i64 0), (.int .i64 0), (.int .i64 0), (.int .i64 0)], none⟩,
  ⟨none, .store 11 (.tmp 8) (.tmp 14), none⟩,
  ⟨(some 9), .mov (.tmp 15), none⟩])
 (.seq (.seq (.ops [⟨(some 16), .mov (.tmp 9), none⟩,
  ⟨(some 17), .ar .i64 .neq (.tmp 16) (.const (.int .i64 0)), none⟩])
 (.cond (.tmp 17) (.seq (.ops [⟨(some 18), .mov (.tmp 9), none⟩,
  ⟨(some 6), .mov (.const (.bool false)), none⟩,
  ⟨(some 7), .mov (.tmp 18), none⟩])
 .ret)
 .skip))
 (.seq (.ops [⟨(some 19), .loadN 11 (.tmp 8), none⟩,
  ⟨(some 20), .mov (.tmp 2), none⟩,
  ⟨(some 21), .call 72 [(.tmp 19), (.tmp 20)], none⟩,
  ⟨(some 6), .mov (.tmp 21), none⟩,
  ⟨(some 7), .mov (.const (.int .i64 0)), none⟩])
 .ret))))
theorem enter43 {xs : List Value} {h : Hp} {Q : Value → Hp → Prop} (hl : xs.length ≤ 22) (w : wq E 22 none c43 (frameOf xs) h [] (leaveQ E [.tmp 6, .tmp 7] Q)) : CallP E 43 xs h Q :=
  CallP.enterQ (fn := Try.f43) (fn_get Try.func43) (code := Try.f43.body.get rfl) rfl rfl rfl (by kernel_rfl) rfl (fun _ => rfl) hl w
theorem can43 : callable E 43 = true := callable_get Try.func43 rfl rfl

/-- tosher/search.Middle -/
def c44 : C := (.seq (.ops [⟨(some 4), .mov (.const (.int .i64 0)), none⟩,
  ⟨(some 5), .mov (.const (.int .i64 0)), none⟩,
  ⟨(some 6), .mov (.const (.int .i64 0)), none⟩])
 (.seq (.ops [⟨(some 11), .mov (.tmp 0), none⟩,
  ⟨(some 12), .mov (.tmp 1), none⟩,
  ⟨(some 13), .call 68 [(.tmp 11), (.tmp 12)], none⟩,
  ⟨(some 10), .mov (.tmp 13), none⟩,
  ⟨(some 14), .ext (.tmp 10) 0, none⟩,
  ⟨(some 15), .ext (.tmp 10) 1, none⟩,
  ⟨(some 7), .alloc 102 [(.int .i64 0), (.int .i64 0), (.int .i64 0), (.int .i64 0), (.int .i64 0), (.int .i64 0), (.int .i64 0), (.int .i64 0), (.int .i64 0), (.int .i64 0), (.int .i64 0)], none⟩,
  ⟨none, .store 11 (.tmp 7) (.tmp 14), none⟩,
  ⟨(some 8), .mov (.tmp 15), none⟩])
 (.seq (.seq (.ops [⟨(some 16), .mov (.tmp 8), none⟩,
  ⟨(some 17), .ar .i64 .neq (.tmp 16) (.const (.int .i64 0)), none⟩])
 (.cond (.tmp 17) (.seq (.ops [⟨(some 18), .mov (.tmp 8), none⟩,
  ⟨(some 4), .mov (.const (.int .i64 0)), none⟩,
  ⟨(some 5), .mov (.const (.int .i64 0)), none⟩,
  ⟨(some 6), .mov (.tmp 18), none⟩])
 .ret)
 .skip))
 (.seq (.ops [⟨(some 19), .loadN 11 (.tmp 7), none⟩,
  ⟨(some 20), .call 73 [(.tmp 19)], none⟩,
  ⟨(some 9), .alloc 85 [(.int .i64 0), (.int .i64 0)], none⟩,
  ⟨none, .store 2 (.tmp 9) (.tmp 20), none⟩])
 (.seq (.ops [⟨(some 21), .fldA 1 (.tmp 9), none⟩,
  ⟨(some 22), .load1 (.tmp 21), none⟩,
  ⟨(some 23), .fldA 0 (.tmp 9), none⟩,
  ⟨(some 24), .load1 (.tmp 23), none⟩,
  ⟨(some 4), .mov (.tmp 22), none⟩,
  ⟨(some 5), .mov (.tmp 24), none⟩,
  ⟨(some 6), .mov (.const (.int .i64 0)), none⟩])
 .ret)))))
theorem enter44 {xs : List Value} {h : Hp} {Q : Value → Hp → Prop} (hl : xs.length ≤ 25) (w : wq E 25 none c44 (frameOf xs) h [] (leaveQ E [.tmp 4, .tmp 5, .tmp 6] Q)) : CallP E 44 xs h Q :=
  CallP.enterQ (fn := Try.f44) (fn_get Try.func44) (code := Try.f44.body.get rfl) rfl rfl rfl (by kernel_rfl) rfl (fun _ => rfl) hl w
theorem can44 : callable E 44 = true := callable_get Try.func44 rfl rfl

/-- tosher/tosherlaw08.tree -/
def c45 : C := (.seq (.ops [⟨(some 4), .mov (.const (.int .i64 0)), none⟩,
  ⟨(some 5), .mov (.const (.slice none 0 0)), none⟩])
 (.seq (.ops [⟨(some 11), .mov (.tmp 0), none⟩,
  ⟨(some 12), .cint .u64 (.tmp 11), none⟩,
  ⟨(some 13), .ar .u64 .rem (.tmp 12) (.const (.int .u64 10)), none⟩,
  ⟨(some 14), .cint .i64 (.tmp 13), none⟩,
  ⟨(some 15), .ar .i64 .add (.const (.int .i64 1)) (.tmp 14), none⟩,
  ⟨(some 0), .mov (.tmp 15), none⟩])
 (.seq (.ops [⟨(some 16), .mov (.tmp 0), none⟩,
  ⟨(some 17), .make 3 [(.int .i64 0)] 8 (.tmp 16) (.tmp 16), none⟩,
  ⟨(some 6), .mov (.tmp 17), none⟩])
 (.seq (.seq (.ops [⟨(some 7), .mov (.const (.int .i64 1)), none⟩])
 (.block 0 (.loop (.seq (.seq (.ops [⟨(some 18), .mov (.tmp 7), none⟩,
  ⟨(some 19), .mov (.tmp 0), none⟩,
  ⟨(some 20), .ar .i64 .lss (.tmp 18) (.tmp 19), none⟩])
 (.cond (.tmp 20) .skip
 (.exit 0)))
 (.seq (.block 1 (.seq (.ops [⟨(some 23), .mov (.tmp 6), none⟩,
  ⟨(some 24), .mov (.tmp 7), none⟩,
  ⟨(some 25), .mov (.tmp 7), none⟩,
  ⟨(some 26), .ar .i64 .sub (.tmp 25) (.const (.int .i64 1)), none⟩,
  ⟨(some 27), .idxS 1 (.tmp 23) (.tmp 24), none⟩,
  ⟨none, .store 1 (.tmp 27) (.tmp 26), none⟩])
 (.seq (.ops [⟨(some 28), .mov (.tmp 7), none⟩,
  ⟨(some 29), .ar .i64 .sub (.tmp 28) (.const (.int .i64 1)), none⟩,
  ⟨(some 30), .mov (.tmp 1), none⟩,
  ⟨(some 31), .lenS (.tmp 30), none⟩,
  ⟨(some 32), .ar .i64 .lss (.tmp 29) (.tmp 31), none⟩])
 (.cond (.tmp 32) (.ops [⟨(some 33), .mov (.tmp 6), none⟩,
  ⟨(some 34), .mov (.tmp 7), none⟩,
  ⟨(some 35), .mov (.tmp 1), none⟩,
  ⟨(some 36), .mov (.tmp 7), none⟩,
  ⟨(some 37), .ar .i64 .sub (.tmp 36) (.const (.int .i64 1)), none⟩,
  ⟨(some 38), .idxS 1 (.tmp 35) (.tmp 37), none⟩,
  ⟨(some 39), .load1 (.tmp 38), none⟩,
  ⟨(some 40), .cint .u64 (.tmp 39), none⟩,
  ⟨(some 41), .mov (.tmp 7), none⟩,
  ⟨(some 42), .cint .u64 (.tmp 41), none⟩,
  ⟨(some 43), .ar .u64 .rem (.tmp 40) (.tmp 42), none⟩,
  ⟨(some 44), .cint .i64 (.tmp 43), none⟩,
  ⟨(some 45), .idxS 1 (.tmp 33) (.tmp 34), none⟩,
  ⟨none, .store 1 (.tmp 45) (.tmp 44), none⟩])
 .skip))))
 (.ops [⟨(some 21), .mov (.tmp 7), none⟩,
  ⟨(some 22), .ar .i64 .add (.tmp 21) (.const (.int .i64 1)), none⟩,
  ⟨(some 7), .mov (.tmp 22), none⟩]))))))
 (.seq (.ops [⟨(some 8), .mov (.const (.slice none 0 0)), none⟩])
 (.seq (.seq (.ops [⟨(some 9), .mov (.const (.int .i64 0)), none⟩])
 (.block 2 (.loop (.seq (.seq (.ops [⟨(some 46), .mov (.tmp 9), none⟩,
  ⟨(some 47), .mov (.tmp 0), none⟩,
  ⟨(some 48), .ar .i64 .lss (.tmp 46) (.tmp 47), none⟩])
 (.cond (.tmp 48) .skip
 (.exit 2)))
 (.seq (.block 3 (.seq (.ops [⟨(some 51), .mov (.tmp 9), none⟩,
  ⟨(some 52), .ar .i64 .add (.tmp 51) (.const (.int .i64 1)), none⟩,
  ⟨(some 10), .mov (.tmp 52), none⟩])
 (.block 4 (.loop (.seq (.seq (.ops [⟨(some 53), .mov (.tmp 10), none⟩,
  ⟨(some 54), .mov (.tmp 0), none⟩,
  ⟨(some 55), .ar .i64 .lss (.tmp 53) (.tmp 54), none⟩])
 (.cond (.tmp 55) .skip
 (.exit 4)))
 (.seq (.block 5 (.seq (.ops [⟨(some 58), .mov (.tmp 6), none⟩,
  ⟨(some 59), .mov (.tmp 10), none⟩,
  ⟨(some 60), .idxS 1 (.tmp 58) (.tmp 59), none⟩,
  ⟨(some 61), .load1 (.tmp 60), none⟩,
  ⟨(some 62), .mov (.tmp 9), none⟩,
  ⟨(some 63), .ar .i64 .eql (.tmp 61) (.tmp 62), none⟩])
 (.cond (.tmp 63) (.ops [⟨(some 64), .mov (.tmp 8), none⟩,
  ⟨(some 65), .mov (.tmp 9), none⟩,
  ⟨(some 66), .mov (.tmp 10), none⟩,
  ⟨(some 67), .aggr [(.int .i64 0), (.int .i64 0)] [(0, 1, (.tmp 65)), (1, 1, (.tmp 66))], none⟩,
  ⟨(some 68), .slit 81 1 [(.int .i64 0), (.int .i64 0)] [(0, 2, (.tmp 67))], none⟩,
  ⟨(some 69), .append 81 2 16 (.tmp 64) (.tmp 68), none⟩,
  ⟨(some 8), .mov (.tmp 69), none⟩])
 .skip)))
 (.ops [⟨(some 56), .mov (.tmp 10), none⟩,
  ⟨(some 57), .ar .i64 .add (.tmp 56) (.const (.int .i64 1)), none⟩,
  ⟨(some 10), .mov (.tmp 57), none⟩])))))))
 (.ops [⟨(some 49), .mov (.tmp 9), none⟩,
  ⟨(some 50), .ar .i64 .add (.tmp 49) (.const (.int .i64 1)), none⟩,
  ⟨(some 9), .mov (.tmp 50), none⟩]))))))
 (.seq (.ops [⟨(some 70), .mov (.tmp 0), none⟩,
  ⟨(some 71), .mov (.tmp 8), none⟩,
  ⟨(some 4), .mov (.tmp 70), none⟩,
  ⟨(some 5), .mov (.tmp 71), none⟩])
 .ret)))))))
theorem enter45 {xs : List Value} {h : Hp} {Q : Value → Hp → Prop} (hl : xs.length ≤ 72) (w : wq E 72 none c45 (frameOf xs) h [] (leaveQ E [.tmp 4, .tmp 5] Q)) : CallP E 45 xs h Q :=
  CallP.enterQ (fn := Try.f45) (fn_get Try.func45) (code := Try.f45.body.get rfl) rfl rfl rfl (by kernel_rfl) rfl (fun _ => rfl) hl w
theorem can45 : callable E 45 = true := callable_get Try.func45 rfl rfl

/-- tosher/tosherref08.Looks -/
def c46 : C := (.seq (.ops [⟨(some 8), .mov (.const (.int .i64 0)), none⟩])
 (.seq (.seq (.ops [⟨(some 16), .mov (.tmp 2), none⟩,
  ⟨(some 17), .call 74 [(.tmp 16)], none⟩,
  ⟨(some 18), .ar .i64 .eql (.tmp 17) (.const (.int .i64 1)), none⟩])
 (.cond (.tmp 18) (.seq (.ops [⟨(some 8), .mov (.const (.int .i64 0)), none⟩])
 .ret)
 .skip))
 (.seq (.seq (.ops [⟨(some 20), .mov (.tmp 3), none⟩,
  ⟨(some 21), .mov (.tmp 2), none⟩,
  ⟨(some 22), .raw (.lookup 67 (.tmp 20) (.tmp 21) true) 112, none⟩,
  ⟨(some 19), .mov (.tmp 22), none⟩,
  ⟨(some 23), .ext (.tmp 19) 0, none⟩,
  ⟨(some 24), .ext (.tmp 19) 1, none⟩,
  ⟨(some 9), .mov (.tmp 23), none⟩,
  ⟨(some 10), .mov (.tmp 24), none⟩])
 (.seq (.ops [⟨(some 25), .mov (.tmp 10), none⟩])
 (.cond (.tmp 25) (.seq (.ops [⟨(some 26), .mov (.tmp 9), none⟩,
  ⟨(some 8), .mov (.tmp 26), none⟩])
 .ret)
 .skip)))
 (.seq (.ops [⟨(some 27), .mov (.tmp 0), none⟩,
  ⟨(some 11), .mov (.tmp 27), none⟩])
 (.seq (.seq (.ops [⟨(some 12), .mov (.const (.int .i64 0)), none⟩])
 (.block 0 (.loop (.seq (.seq (.ops [⟨(some 28), .mov (.tmp 12), none⟩,
  ⟨(some 29), .mov (.tmp 0), none⟩,
  ⟨(some 30), .ar .i64 .lss (.tmp 28) (.tmp 29), none⟩])
 (.cond (.tmp 30) .skip
 (.exit 0)))
 (.seq (.block 1 (.seq (.seq (.ops [⟨(some 33), .mov (.tmp 2), none⟩,
  ⟨(some 34), .mov (.tmp 12), none⟩,
  ⟨(some 35), .ar .i64 .shr (.tmp 33) (.tmp 34), none⟩,
  ⟨(some 36), .ar .i64 .rem (.tmp 35) (.const (.int .i64 2)), none⟩,
  ⟨(some 37), .ar .i64 .eql (.tmp 36) (.const (.int .i64 0)), none⟩])
 (.cond (.tmp 37) (.exit 1)
 .skip))
 (.seq (.ops [⟨(some 38), .mov (.tmp 0), none⟩,
  ⟨(some 39), .mov (.tmp 1), none⟩,
  ⟨(some 40), .mov (.tmp 2), none⟩,
  ⟨(some 41), .mov (.tmp 12), none⟩,
  ⟨(some 42), .ar .i64 .shl (.const (.int .i64 1)) (.tmp 41), none⟩,
  ⟨(some 43), .ar .i64 .andNot (.tmp 40) (.tmp 42), none⟩,
  ⟨(some 44), .call 67 [(.tmp 38), (.tmp 39), (.tmp 43)], none⟩,
  ⟨(some 13), .mov (.tmp 44), none⟩])
 (.seq (.ops [⟨(some 14), .mov (.const (.int .i64 0)), none⟩])
 (.seq (.seq (.ops [⟨(some 15), .mov (.const (.int .i64 0)), none⟩])
 (.block 2 (.loop (.seq (.seq (.ops [⟨(some 45), .mov (.tmp 15), none⟩,
  ⟨(some 46), .mov (.tmp 13), none⟩,
  ⟨(some 47), .lenS (.tmp 46), none⟩,
  ⟨(some 48), .ar .i64 .lss (.tmp 45) (.tmp 47), none⟩])
 (.cond (.tmp 48) .skip
 (.exit 2)))
 (.seq (.block 3 (.ops [⟨(some 51), .mov (.tmp 14), none⟩,
  ⟨(some 52), .mov (.tmp 0), none⟩,
  ⟨(some 53), .mov (.tmp 1), none⟩,
  ⟨(some 54), .mov (.tmp 13), none⟩,
  ⟨(some 55), .mov (.tmp 15), none⟩,
  ⟨(some 56), .idxS 1 (.tmp 54) (.tmp 55), none⟩,
  ⟨(some 57), .load1 (.tmp 56), none⟩,
  ⟨(some 58), .mov (.tmp 3), none⟩,
  ⟨(some 59), .call 46 [(.tmp 52), (.tmp 53), (.tmp 57), (.tmp 58)], none⟩,
  ⟨(some 60), .raw (.call ⟨.builtin .max, ⟨[(.tmp 51), (.tmp 59)]⟩, ⟨[3, 3]⟩⟩) 3, none⟩,
  ⟨(some 14), .mov (.tmp 60), none⟩]))
 (.ops [⟨(some 49), .mov (.tmp 15), none⟩,
  ⟨(some 50), .ar .i64 .add (.tmp 49) (.const (.int .i64 1)), none⟩,
  ⟨(some 15), .mov (.tmp 50), none⟩]))))))
 (.ops [⟨(some 61), .mov (.tmp 11), none⟩,
  ⟨(some 62), .mov (.tmp 14), none⟩,
  ⟨(some 63), .ar .i64 .add (.tmp 62) (.const (.int .i64 1)), none⟩,
  ⟨(some 64), .raw (.call ⟨.builtin .min, ⟨[(.tmp 61), (.tmp 63)]⟩, ⟨[3, 3]⟩⟩) 3, none⟩,
  ⟨(some 11), .mov (.tmp 64), none⟩]))))))
 (.ops [⟨(some 31), .mov (.tmp 12), none⟩,
  ⟨(some 32), .ar .i64 .add (.tmp 31) (.const (.int .i64 1)), none⟩,
  ⟨(some 12), .mov (.tmp 32), none⟩]))))))
 (.seq (.ops [⟨(some 65), .mov (.tmp 3), none⟩,
  ⟨(some 66), .mov (.tmp 2), none⟩,
  ⟨(some 67), .mov (.tmp 11), none⟩,
  ⟨none, .raw (.mapUpdate 67 (.tmp 65) (.tmp 66) (.tmp 67)) 0, none⟩])
 (.seq (.ops [⟨(some 68), .mov (.tmp 11), none⟩,
  ⟨(some 8), .mov (.tmp 68), none⟩])
 .ret)))))))
theorem enter46 {xs : List Value} {h : Hp} {Q : Value → Hp → Prop} (hl : xs.length ≤ 69) (w : wq E 69 none c46 (frameOf xs) h [] (leaveQ E [.tmp 8] Q)) : CallP E 46 xs h Q :=
  CallP.enterQ (fn := Try.f46) (fn_get Try.func46) (code := Try.f46.body.get rfl) rfl rfl rfl (by kernel_rfl) rfl (fun _ => rfl) hl w
theorem can46 : callable E 46 = true := callable_get Try.func46 rfl rfl

/-- tosher/tosherref08.Middle -/
def c47 : C := (.seq (.ops [⟨(some 4), .mov (.const (.int .i64 0)), none⟩,
  ⟨(some 5), .mov (.const (.int .i64 0)), none⟩])
 (.seq (.ops [⟨(some 12), .mov (.tmp 0), none⟩,
  ⟨(some 6), .mov (.const (.int .i64 0)), none⟩,
  ⟨(some 7), .mov (.tmp 12), none⟩])
 (.seq (.seq (.ops [⟨(some 8), .mov (.const (.int .i64 0)), none⟩])
 (.block 0 (.loop (.seq (.seq (.ops [⟨(some 13), .mov (.tmp 8), none⟩,
  ⟨(some 14), .mov (.tmp 0), none⟩,
  ⟨(some 15), .ar .i64 .lss (.tmp 13) (.tmp 14), none⟩])
 (.cond (.tmp 15) .skip
 (.exit 0)))
 (.seq (.block 1 (.seq (.ops [⟨(some 18), .mov (.tmp 0), none⟩,
  ⟨(some 19), .mov (.tmp 1), none⟩,
  ⟨(some 20), .mov (.tmp 0), none⟩,
  ⟨(some 21), .ar .i64 .shl (.const (.int .i64 1)) (.tmp 20), none⟩,
  ⟨(some 22), .ar .i64 .sub (.tmp 21) (.const (.int .i64 1)), none⟩,
  ⟨(some 23), .mov (.tmp 8), none⟩,
  ⟨(some 24), .ar .i64 .shl (.const (.int .i64 1)) (.tmp 23), none⟩,
  ⟨(some 25), .ar .i64 .andNot (.tmp 22) (.tmp 24), none⟩,
  ⟨(some 26), .call 67 [(.tmp 18), (.tmp 19), (.tmp 25)], none⟩,
  ⟨(some 9), .mov (.tmp 26), none⟩])
 (.seq (.ops [⟨(some 10), .mov (.const (.int .i64 0)), none⟩])
 (.seq (.seq (.ops [⟨(some 11), .mov (.const (.int .i64 0)), none⟩])
 (.block 2 (.loop (.seq (.seq (.ops [⟨(some 27), .mov (.tmp 11), none⟩,
  ⟨(some 28), .mov (.tmp 9), none⟩,
  ⟨(some 29), .lenS (.tmp 28), none⟩,
  ⟨(some 30), .ar .i64 .lss (.tmp 27) (.tmp 29), none⟩])
 (.cond (.tmp 30) .skip
 (.exit 2)))
 (.seq (.block 3 (.ops [⟨(some 33), .mov (.tmp 10), none⟩,
  ⟨(some 34), .mov (.tmp 9), none⟩,
  ⟨(some 35), .mov (.tmp 11), none⟩,
  ⟨(some 36), .idxS 1 (.tmp 34) (.tmp 35), none⟩,
  ⟨(some 37), .load1 (.tmp 36), none⟩,
  ⟨(some 38), .call 74 [(.tmp 37)], none⟩,
  ⟨(some 39), .raw (.call ⟨.builtin .max, ⟨[(.tmp 33), (.tmp 38)]⟩, ⟨[3, 3]⟩⟩) 3, none⟩,
  ⟨(some 10), .mov (.tmp 39), none⟩]))
 (.ops [⟨(some 31), .mov (.tmp 11), none⟩,
  ⟨(some 32), .ar .i64 .add (.tmp 31) (.const (.int .i64 1)), none⟩,
  ⟨(some 11), .mov (.tmp 32), none⟩]))))))
 (.seq (.ops [⟨(some 40), .mov (.tmp 10), none⟩,
  ⟨(some 41), .mov (.tmp 7), none⟩,
  ⟨(some 42), .ar .i64 .lss (.tmp 40) (.tmp 41), none⟩])
 (.cond (.tmp 42) (.seq (.ops [⟨(some 43), .mov (.tmp 8), none⟩,
  ⟨(some 6), .mov (.tmp 43), none⟩])
 (.ops [⟨(some 44), .mov (.tmp 10), none⟩,
  ⟨(some 7), .mov (.tmp 44), none⟩]))
 .skip))))))
 (.ops [⟨(some 16), .mov (.tmp 8), none⟩,
  ⟨(some 17), .ar .i64 .add (.tmp 16) (.const (.int .i64 1)), none⟩,
  ⟨(some 8), .mov (.tmp 17), none⟩]))))))
 (.seq (.ops [⟨(some 45), .mov (.tmp 6), none⟩,
  ⟨(some 46), .mov (.tmp 7), none⟩,
  ⟨(some 4), .mov (.tmp 45), none⟩,
  ⟨(some 5), .mov (.tmp 46), none⟩])
 .ret))))
theorem enter47 {xs : List Value} {h : Hp} {Q : Value → Hp → Prop} (hl : xs.length ≤ 47) (w : wq E 47 none c47 (frameOf xs) h [] (leaveQ E [.tmp 4, .tmp 5] Q)) : CallP E 47 xs h Q :=
  CallP.enterQ (fn := Try.f47) (fn_get Try.func47) (code := Try.f47.body.get rfl) rfl rfl rfl (by kernel_rfl) rfl (fun _ => rfl) hl w
theorem can47 : callable E 47 = true := callable_get Try.func47 rfl rfl

/-- tosher/tosherref08.Marks -/
def c48 : C := (.seq (.ops [⟨(some 6), .mov (.const (.bool false)), none⟩])
 (.seq (.seq (.ops [⟨(some 14), .mov (.tmp 2), none⟩,
  ⟨(some 15), .lenS (.tmp 14), none⟩,
  ⟨(some 16), .mov (.tmp 0), none⟩,
  ⟨(some 17), .ar .i64 .neq (.tmp 15) (.tmp 16), none⟩])
 (.cond (.tmp 17) (.seq (.ops [⟨(some 6), .mov (.const (.bool false)), none⟩])
 .ret)
 .skip))
 (.seq (.seq (.ops [⟨(some 7), .mov (.const (.int .i64 0)), none⟩])
 (.block 0 (.loop (.seq (.seq (.ops [⟨(some 18), .mov (.tmp 7), none⟩,
  ⟨(some 19), .mov (.tmp 0), none⟩,
  ⟨(some 20), .ar .i64 .lss (.tmp 18) (.tmp 19), none⟩])
 (.cond (.tmp 20) .skip
 (.exit 0)))
 (.seq (.block 1 (.seq (.ops [⟨(some 23), .mov (.tmp 2), none⟩,
  ⟨(some 24), .mov (.tmp 7), none⟩,
  ⟨(some 25), .idxS 1 (.tmp 23) (.tmp 24), none⟩,
  ⟨(some 26), .load1 (.tmp 25), none⟩,
  ⟨(some 27), .ar .i64 .lss (.tmp 26) (.const (.int .i64 0)), none⟩,
  ⟨(some 28), .mov (.tmp 27), none⟩,
  ⟨(some 29), .mov (.tmp 2), (some (28, false))⟩,
  ⟨(some 30), .mov (.tmp 7), (some (28, false))⟩,
  ⟨(some 31), .idxS 1 (.tmp 29) (.tmp 30), (some (28, false))⟩,
  ⟨(some 32), .load1 (.tmp 31), (some (28, false))⟩,
  ⟨(some 33), .ar .i64 .gtr (.tmp 32) (.const (.int .i64 10)), (some (28, false))⟩,
  ⟨(some 34), .pick (.tmp 28) (.const (.bool true)) (.tmp 33), none⟩])
 (.cond (.tmp 34) (.seq (.ops [⟨(some 6), .mov (.const (.bool false)), none⟩])
 .ret)
 .skip)))
 (.ops [⟨(some 21), .mov (.tmp 7), none⟩,
  ⟨(some 22), .ar .i64 .add (.tmp 21) (.const (.int .i64 1)), none⟩,
  ⟨(some 7), .mov (.tmp 22), none⟩]))))))
 (.seq (.seq (.ops [⟨(some 8), .mov (.const (.int .i64 0)), none⟩])
 (.block 2 (.loop (.seq (.seq (.ops [⟨(some 35), .mov (.tmp 8), none⟩,
  ⟨(some 36), .ar .i64 .leq (.tmp 35) (.const (.int .i64 10)), none⟩])
 (.cond (.tmp 36) .skip
 (.exit 2)))
 (.seq (.block 3 (.seq (.ops [⟨(some 9), .mov (.const (.int .i64 0)), none⟩,
  ⟨(some 10), .mov (.const (.int .i64 0)), none⟩])
 (.seq (.seq (.ops [⟨(some 11), .mov (.const (.int .i64 0)), none⟩])
 (.block 4 (.loop (.seq (.seq (.ops [⟨(some 39), .mov (.tmp 11), none⟩,
  ⟨(some 40), .mov (.tmp 0), none⟩,
  ⟨(some 41), .ar .i64 .lss (.tmp 39) (.tmp 40), none⟩])
 (.cond (.tmp 41) .skip
 (.exit 4)))
 (.seq (.block 5 (.seq (.seq (.ops [⟨(some 44), .mov (.tmp 2), none⟩,
  ⟨(some 45), .mov (.tmp 11), none⟩,
  ⟨(some 46), .idxS 1 (.tmp 44) (.tmp 45), none⟩,
  ⟨(some 47), .load1 (.tmp 46), none⟩,
  ⟨(some 48), .mov (.tmp 8), none⟩,
  ⟨(some 49), .ar .i64 .leq (.tmp 47) (.tmp 48), none⟩])
 (.cond (.tmp 49) (.ops [⟨(some 50), .mov (.tmp 9), none⟩,
  ⟨(some 51), .mov (.tmp 11), none⟩,
  ⟨(some 52), .ar .i64 .shl (.const (.int .i64 1)) (.tmp 51), none⟩,
  ⟨(some 53), .ar .i64 .or (.tmp 50) (.tmp 52), none⟩,
  ⟨(some 9), .mov (.tmp 53), none⟩])
 .skip))
 (.seq (.ops [⟨(some 54), .mov (.tmp 2), none⟩,
  ⟨(some 55), .mov (.tmp 11), none⟩,
  ⟨(some 56), .idxS 1 (.tmp 54) (.tmp 55), none⟩,
  ⟨(some 57), .load1 (.tmp 56), none⟩,
  ⟨(some 58), .mov (.tmp 8), none⟩,
  ⟨(some 59), .ar .i64 .eql (.tmp 57) (.tmp 58), none⟩])
 (.cond (.tmp 59) (.ops [⟨(some 60), .mov (.tmp 10), none⟩,
  ⟨(some 61), .mov (.tmp 11), none⟩,
  ⟨(some 62), .ar .i64 .shl (.const (.int .i64 1)) (.tmp 61), none⟩,
  ⟨(some 63), .ar .i64 .or (.tmp 60) (.tmp 62), none⟩,
  ⟨(some 10), .mov (.tmp 63), none⟩])
 .skip))))
 (.ops [⟨(some 42), .mov (.tmp 11), none⟩,
  ⟨(some 43), .ar .i64 .add (.tmp 42) (.const (.int .i64 1)), none⟩,
  ⟨(some 11), .mov (.tmp 43), none⟩]))))))
 (.seq (.ops [⟨(some 64), .mov (.tmp 0), none⟩,
  ⟨(some 65), .mov (.tmp 1), none⟩,
  ⟨(some 66), .mov (.tmp 9), none⟩,
  ⟨(some 67), .call 67 [(.tmp 64), (.tmp 65), (.tmp 66)], none⟩,
  ⟨(some 12), .mov (.tmp 67), none⟩])
 (.seq (.ops [⟨(some 13), .mov (.const (.int .i64 0)), none⟩])
 (.block 6 (.loop (.seq (.seq (.ops [⟨(some 68), .mov (.tmp 13), none⟩,
  ⟨(some 69), .mov (.tmp 12), none⟩,
  ⟨(some 70), .lenS (.tmp 69), none⟩,
  ⟨(some 71), .ar .i64 .lss (.tmp 68) (.tmp 70), none⟩])
 (.cond (.tmp 71) .skip
 (.exit 6)))
 (.seq (.block 7 (.seq (.ops [⟨(some 74), .mov (.tmp 12), none⟩,
  ⟨(some 75), .mov (.tmp 13), none⟩,
  ⟨(some 76), .idxS 1 (.tmp 74) (.tmp 75), none⟩,
  ⟨(some 77), .load1 (.tmp 76), none⟩,
  ⟨(some 78), .mov (.tmp 10), none⟩,
  ⟨(some 79), .ar .i64 .and (.tmp 77) (.tmp 78), none⟩,
  ⟨(some 80), .call 74 [(.tmp 79)], none⟩,
  ⟨(some 81), .ar .i64 .gtr (.tmp 80) (.const (.int .i64 1)), none⟩])
 (.cond (.tmp 81) (.seq (.ops [⟨(some 6), .mov (.const (.bool false)), none⟩])
 .ret)
 .skip)))
 (.ops [⟨(some 72), .mov (.tmp 13), none⟩,
  ⟨(some 73), .ar .i64 .add (.tmp 72) (.const (.int .i64 1)), none⟩,
  ⟨(some 13), .mov (.tmp 73), none⟩]))))))))))
 (.ops [⟨(some 37), .mov (.tmp 8), none⟩,
  ⟨(some 38), .ar .i64 .add (.tmp 37) (.const (.int .i64 1)), none⟩,
  ⟨(some 8), .mov (.tmp 38), none⟩]))))))
 (.seq (.ops [⟨(some 6), .mov (.const (.bool true)), none⟩])
 .ret)))))
theorem enter48 {xs : List Value} {h : Hp} {Q : Value → Hp → Prop} (hl : xs.length ≤ 82) (w : wq E 82 none c48 (frameOf xs) h [] (leaveQ E [.tmp 6] Q)) : CallP E 48 xs h Q :=
  CallP.enterQ (fn := Try.f48) (fn_get Try.func48) (code := Try.f48.body.get rfl) rfl rfl rfl (by kernel_rfl) rfl (fun _ => rfl) hl w
theorem can48 : callable E 48 = true := callable_get Try.func48 rfl rfl

/-- tosher/tosherref08.Parts -/
def c67 : C := (.seq (.ops [⟨(some 6), .mov (.const (.slice none 0 0)), none⟩])
 (.seq (.ops [⟨(some 7), .mov (.const (.slice none 0 0)), none⟩])
 (.seq (.seq (.ops [⟨(some 8), .mov (.const (.int .i64 0)), none⟩])
 (.block 0 (.loop (.seq (.seq (.ops [⟨(some 14), .mov (.tmp 8), none⟩,
  ⟨(some 15), .mov (.tmp 0), none⟩,
  ⟨(some 16), .ar .i64 .lss (.tmp 14) (.tmp 15), none⟩])
 (.cond (.tmp 16) .skip
 (.exit 0)))
 (.seq (.block 1 (.seq (.seq (.ops [⟨(some 19), .mov (.tmp 2), none⟩,
  ⟨(some 20), .mov (.tmp 8), none⟩,
  ⟨(some 21), .ar .i64 .shr (.tmp 19) (.tmp 20), none⟩,
  ⟨(some 22), .ar .i64 .rem (.tmp 21) (.const (.int .i64 2)), none⟩,
  ⟨(some 23), .ar .i64 .eql (.tmp 22) (.const (.int .i64 0)), none⟩])
 (.cond (.tmp 23) (.exit 1)
 .skip))
 (.seq (.ops [⟨(some 24), .mov (.tmp 8), none⟩,
  ⟨(some 25), .ar .i64 .shl (.const (.int .i64 1)) (.tmp 24), none⟩,
  ⟨(some 9), .mov (.tmp 25), none⟩])
 (.seq (.seq (.ops [⟨(some 10), .mov (.const (.int .i64 0)), none⟩])
 (.block 2 (.loop (.seq (.seq (.ops [⟨(some 26), .mov (.tmp 10), none⟩,
  ⟨(some 27), .mov (.tmp 0), none⟩,
  ⟨(some 28), .ar .i64 .lss (.tmp 26) (.tmp 27), none⟩])
 (.cond (.tmp 28) .skip
 (.exit 2)))
 (.seq (.block 3 (.seq (.ops [⟨(some 11), .mov (.const (.int .i64 0)), none⟩])
 (.block 4 (.loop (.seq (.seq (.ops [⟨(some 31), .mov (.tmp 11), none⟩,
  ⟨(some 32), .mov (.tmp 1), none⟩,
  ⟨(some 33), .lenS (.tmp 32), none⟩,
  ⟨(some 34), .ar .i64 .lss (.tmp 31) (.tmp 33), none⟩])
 (.cond (.tmp 34) .skip
 (.exit 4)))
 (.seq (.block 5 (.seq (.ops [⟨(some 37), .mov (.tmp 1), none⟩,
  ⟨(some 38), .mov (.tmp 11), none⟩,
  ⟨(some 39), .idxS 2 (.tmp 37) (.tmp 38), none⟩,
  ⟨(some 40), .idxA 2 1 (.tmp 39) (.const (.int .i64 0)), none⟩,
  ⟨(some 41), .load1 (.tmp 40), none⟩,
  ⟨(some 42), .ar .i64 .shl (.const (.int .i64 1)) (.tmp 41), none⟩,
  ⟨(some 43), .mov (.tmp 1), none⟩,
  ⟨(some 44), .mov (.tmp 11), none⟩,
  ⟨(some 45), .idxS 2 (.tmp 43) (.tmp 44), none⟩,
  ⟨(some 46), .idxA 2 1 (.tmp 45) (.const (.int .i64 1)), none⟩,
  ⟨(some 47), .load1 (.tmp 46), none⟩,
  ⟨(some 48), .ar .i64 .shl (.const (.int .i64 1)) (.tmp 47), none⟩,
  ⟨(some 12), .mov (.tmp 42), none⟩,
  ⟨(some 13), .mov (.tmp 48), none⟩])
 (.seq (.ops [⟨(some 49), .mov (.tmp 2), none⟩,
  ⟨(some 50), .mov (.tmp 12), none⟩,
  ⟨(some 51), .ar .i64 .and (.tmp 49) (.tmp 50), none⟩,
  ⟨(some 52), .ar .i64 .neq (.tmp 51) (.const (.int .i64 0)), none⟩,
  ⟨(some 53), .mov (.tmp 52), none⟩,
  ⟨(some 54), .mov (.tmp 2), (some (53, true))⟩,
  ⟨(some 55), .mov (.tmp 13), (some (53, true))⟩,
  ⟨(some 56), .ar .i64 .and (.tmp 54) (.tmp 55), (some (53, true))⟩,
  ⟨(some 57), .ar .i64 .neq (.tmp 56) (.const (.int .i64 0)), (some (53, true))⟩,
  ⟨(some 58), .pick (.tmp 53) (.tmp 57) (.const (.bool false)), none⟩,
  ⟨(some 59), .mov (.tmp 58), none⟩,
  ⟨(some 60), .mov (.tmp 9), (some (59, true))⟩,
  ⟨(some 61), .mov (.tmp 12), (some (59, true))⟩,
  ⟨(some 62), .mov (.tmp 13), (some (59, true))⟩,
  ⟨(some 63), .ar .i64 .or (.tmp 61) (.tmp 62), (some (59, true))⟩,
  ⟨(some 64), .ar .i64 .and (.tmp 60) (.tmp 63), (some (59, true))⟩,
  ⟨(some 65), .ar .i64 .neq (.tmp 64) (.const (.int .i64 0)), (some (59, true))⟩,
  ⟨(some 66), .pick (.tmp 59) (.tmp 65) (.const (.bool false)), none⟩])
 (.cond (.tmp 66) (.ops [⟨(some 67), .mov (.tmp 9), none⟩,
  ⟨(some 68), .mov (.tmp 12), none⟩,
  ⟨(some 69), .ar .i64 .or (.tmp 67) (.tmp 68), none⟩,
  ⟨(some 70), .mov (.tmp 13), none⟩,
  ⟨(some 71), .ar .i64 .or (.tmp 69) (.tmp 70), none⟩,
  ⟨(some 9), .mov (.tmp 71), none⟩])
 .skip))))
 (.ops [⟨(some 35), .mov (.tmp 11), none⟩,
  ⟨(some 36), .ar .i64 .add (.tmp 35) (.const (.int .i64 1)), none⟩,
  ⟨(some 11), .mov (.tmp 36), none⟩])))))))
 (.ops [⟨(some 29), .mov (.tmp 10), none⟩,
  ⟨(some 30), .ar .i64 .add (.tmp 29) (.const (.int .i64 1)), none⟩,
  ⟨(some 10), .mov (.tmp 30), none⟩]))))))
 (.seq (.ops [⟨(some 72), .mov (.tmp 7), none⟩,
  ⟨(some 73), .mov (.tmp 9), none⟩,
  ⟨(some 74), .slit 3 1 [(.int .i64 0)] [(0, 1, (.tmp 73))], none⟩,
  ⟨(some 75), .append 3 1 8 (.tmp 72) (.tmp 74), none⟩,
  ⟨(some 7), .mov (.tmp 75), none⟩])
 (.ops [⟨(some 76), .mov (.tmp 2), none⟩,
  ⟨(some 77), .mov (.tmp 9), none⟩,
  ⟨(some 78), .ar .i64 .andNot (.tmp 76) (.tmp 77), none⟩,
  ⟨(some 2), .mov (.tmp 78), none⟩]))))))
 (.ops [⟨(some 17), .mov (.tmp 8), none⟩,
  ⟨(some 18), .ar .i64 .add (.tmp 17) (.const (.int .i64 1)), none⟩,
  ⟨(some 8), .mov (.tmp 18), none⟩]))))))
 (.seq (.ops [⟨(some 79), .mov (.tmp 7), none⟩,
  ⟨(some 6), .mov (.tmp 79), none⟩])
 .ret))))
theorem enter67 {xs : List Value} {h : Hp} {Q : Value → Hp → Prop} (hl : xs.length ≤ 80) (w : wq E 80 none c67 (frameOf xs) h [] (leaveQ E [.tmp 6] Q)) : CallP E 67 xs h Q :=
  CallP.enterQ (fn := Try.f67) (fn_get Try.func67) (code := Try.f67.body.get rfl) rfl rfl rfl (by kernel_rfl) rfl (fun _ => rfl) hl w
theorem can67 : callable E 67 = true := callable_get Try.func67 rfl rfl

/-- tosher/search.checked -/
def c68 : C := (.seq (.ops [⟨(some 4), .alloc 102 [(.int .i64 0), (.int .i64 0), (.int .i64 0), (.int .i64 0), (.int .i64 0), (.int .i64 0), (.int .i64 0), (.int .i64 0), (.int .i64 0), (.int .i64 0), (.int .i64 0)], none⟩,
  ⟨(some 5), .mov (.const (.int .i64 0)), none⟩])
 (.seq (.seq (.ops [⟨(some 8), .mov (.tmp 0), none⟩,
  ⟨(some 9), .ar .i64 .lss (.tmp 8) (.const (.int .i64 1)), none⟩,
  ⟨(some 10), .mov (.tmp 9), none⟩,
  ⟨(some 11), .mov (.tmp 0), (some (10, false))⟩,
  ⟨(some 12), .ar .i64 .gtr (.tmp 11) (.const (.int .i64 10)), (some (10, false))⟩,
  ⟨(some 13), .pick (.tmp 10) (.const (.bool true)) (.tmp 12), none⟩])
 (.cond (.tmp 13) (.seq (.ops [⟨(some 14), .aggr [(.int .i64 0), (.int .i64 0), (.int .i64 0), (.int .i64 0), (.int .i64 0), (.int .i64 0), (.int .i64 0), (.int .i64 0), (.int .i64 0), (.int .i64 0), (.int .i64 0)] [], none⟩,
  ⟨none, .store 11 (.tmp 4) (.tmp 14), none⟩,
  ⟨(some 5), .mov (.const (.int .i64 1)), none⟩])
 .ret)
 .skip))
 (.seq (.ops [⟨(some 16), .mov (.tmp 0), none⟩,
  ⟨(some 17), .mov (.tmp 1), none⟩,
  ⟨(some 18), .call 84 [(.tmp 16), (.tmp 17)], none⟩,
  ⟨(some 15), .mov (.tmp 18), none⟩,
  ⟨(some 19), .ext (.tmp 15) 0, none⟩,
  ⟨(some 20), .ext (.tmp 15) 1, none⟩,
  ⟨(some 6), .alloc 102 [(.int .i64 0), (.int .i64 0), (.int .i64 0), (.int .i64 0), (.int .i64 0), (.int .i64 0), (.int .i64 0), (.int .i64 0), (.int .i64 0), (.int .i64 0), (.int .i64 0)], none⟩,
  ⟨none, .store 11 (.tmp 6) (.tmp 19), none⟩,
  ⟨(some 7), .mov (.tmp 20), none⟩])
 (.seq (.seq (.ops [⟨(some 21), .mov (.tmp 7), none⟩,
  ⟨(some 22), .not (.tmp 21), none⟩])
 (.cond (.tmp 22) (.seq (.ops [⟨(some 23), .aggr [(.int .i64 0), (.int .i64 0), (.int .i64 0), (.int .i64 0), (.int .i64 0), (.int .i64 0), (.int .i64 0), (.int .i64 0), (.int .i64 0), (.int .i64 0), (.int .i64 0)] [], none⟩,
  ⟨none, .store 11 (.tmp 4) (.tmp 23), none⟩,
  ⟨(some 5), .mov (.const (.int .i64 81)), none⟩])
 .ret)
 .skip))
 (.seq (.ops [⟨(some 24), .loadN 11 (.tmp 6), none⟩,
  ⟨none, .store 11 (.tmp 4) (.tmp 24), none⟩,
  ⟨(some 5), .mov (.const (.int .i64 0)), none⟩])
 .ret)))))
theorem enter68 {xs : List Value} {h : Hp} {Q : Value → Hp → Prop} (hl : xs.length ≤ 25) (w : wq E 25 none c68 (frameOf xs) h [] (leaveQ E [.cell 4 102, .tmp 5] Q)) : CallP E 68 xs h Q :=
  CallP.enterQ (fn := Try.f68) (fn_get Try.func68) (code := Try.f68.body.get rfl) rfl rfl rfl (by kernel_rfl) rfl (fun _ => rfl) hl w
theorem can68 : callable E 68 = true := callable_get Try.func68 rfl rfl

/-- (tosher/search.known).best -/
def c69 : C := (.seq (.ops [⟨(some 4), .box 102 (.tmp 1), none⟩,
  ⟨(some 6), .alloc 85 [(.int .i64 0), (.int .i64 0)], none⟩])
 (.seq (.seq (.ops [⟨(some 15), .mov (.tmp 0), none⟩,
  ⟨(some 16), .mov (.tmp 2), none⟩,
  ⟨(some 17), .raw (.lookup 106 (.tmp 15) (.tmp 16) true) 122, none⟩,
  ⟨(some 14), .mov (.tmp 17), none⟩,
  ⟨(some 18), .ext (.tmp 14) 0, none⟩,
  ⟨(some 19), .ext (.tmp 14) 1, none⟩,
  ⟨(some 7), .alloc 85 [(.int .i64 0), (.int .i64 0)], none⟩,
  ⟨none, .store 2 (.tmp 7) (.tmp 18), none⟩,
  ⟨(some 8), .mov (.tmp 19), none⟩])
 (.seq (.ops [⟨(some 20), .mov (.tmp 8), none⟩])
 (.cond (.tmp 20) (.seq (.ops [⟨(some 21), .loadN 2 (.tmp 7), none⟩,
  ⟨none, .store 2 (.tmp 6) (.tmp 21), none⟩])
 .ret)
 .skip)))
 (.seq (.ops [⟨(some 22), .aggr [(.int .i64 0), (.int .i64 0)] [(1, 1, (.const (.int .i64 (-1))))], none⟩,
  ⟨(some 9), .alloc 85 [(.int .i64 0), (.int .i64 0)], none⟩,
  ⟨none, .store 2 (.tmp 9) (.tmp 22), none⟩])
 (.seq (.seq (.ops [⟨(some 23), .fldA 0 (.tmp 4), none⟩,
  ⟨(some 24), .load1 (.tmp 23), none⟩,
  ⟨(some 25), .mov (.const (.int .i64 0)), none⟩])
 (.block 0 (.loop (.seq (.ops [⟨(some 26), .ar .i64 .lss (.tmp 25) (.tmp 24), none⟩])
 (.seq (.cond (.tmp 26) .skip
 (.exit 0))
 (.seq (.block 1 (.seq (.ops [⟨(some 27), .mov (.tmp 25), none⟩,
  ⟨(some 10), .mov (.tmp 27), none⟩])
 (.seq (.seq (.ops [⟨(some 28), .mov (.tmp 2), none⟩,
  ⟨(some 29), .mov (.tmp 10), none⟩,
  ⟨(some 30), .call 85 [(.tmp 28), (.tmp 29)], none⟩,
  ⟨(some 31), .not (.tmp 30), none⟩])
 (.cond (.tmp 31) (.exit 1)
 .skip))
 (.seq (.ops [⟨(some 32), .mov (.tmp 10), none⟩,
  ⟨(some 33), .aggr [(.int .i64 0), (.int .i64 0)] [(1, 1, (.tmp 32))], none⟩,
  ⟨(some 11), .alloc 85 [(.int .i64 0), (.int .i64 0)], none⟩,
  ⟨none, .store 2 (.tmp 11) (.tmp 33), none⟩])
 (.seq (.seq (.ops [⟨(some 34), .loadN 11 (.tmp 4), none⟩,
  ⟨(some 35), .mov (.tmp 2), none⟩,
  ⟨(some 36), .mov (.tmp 10), none⟩,
  ⟨(some 37), .call 86 [(.tmp 34), (.tmp 35), (.tmp 36)], none⟩,
  ⟨(some 38), .lenS (.tmp 37), none⟩,
  ⟨(some 39), .mov (.const (.int .i64 0)), none⟩])
 (.block 2 (.loop (.seq (.ops [⟨(some 40), .ar .i64 .lss (.tmp 39) (.tmp 38), none⟩])
 (.seq (.cond (.tmp 40) .skip
 (.exit 2))
 (.seq (.block 3 (.seq (.ops [⟨(some 41), .idxS 1 (.tmp 37) (.tmp 39), none⟩,
  ⟨(some 42), .load1 (.tmp 41), none⟩,
  ⟨(some 13), .mov (.tmp 42), none⟩])
 (.draw [⟨(some 43), .fldA 0 (.tmp 11), none⟩,
  ⟨(some 44), .load1 (.tmp 43), none⟩,
  ⟨(some 45), .mov (.tmp 0), none⟩,
  ⟨(some 46), .loadN 11 (.tmp 4), none⟩,
  ⟨(some 47), .mov (.tmp 13), none⟩,
  ⟨(some 48), .call 69 [(.tmp 45), (.tmp 46), (.tmp 47)], none⟩,
  ⟨(some 49), .fld1 0 (.tmp 48), none⟩,
  ⟨(some 50), .ar .i64 .add (.const (.int .i64 1)) (.tmp 49), none⟩,
  ⟨(some 51), .raw (.call ⟨.builtin .max, ⟨[(.tmp 44), (.tmp 50)]⟩, ⟨[3, 3]⟩⟩) 3, none⟩,
  ⟨(some 52), .fldA 0 (.tmp 11), none⟩,
  ⟨none, .store 1 (.tmp 52) (.tmp 51), none⟩]
  [⟨false, true, [false, false, false, false, false, false, false, false, false, false, false], [false, false, false, false, false, true, false, false, false, false, false]⟩,
  ⟨false, true, [false, false, false, false, false, false, false, false, false, false, false], [false, false, false, false, false, true, false, false, false, false, false]⟩,
  ⟨false, false, [false, false, false, false, false, false, false, false, false, false, false], [false, false, false, false, false, false, false, false, false, false, false]⟩,
  ⟨false, false, [false, false, false, false, false, false, false, false, false, false, false], [false, false, false, false, false, false, false, false, false, false, false]⟩,
  ⟨false, false, [false, false, false, false, false, false, false, false, false, false, false], [false, false, false, false, false, false, false, false, false, false, false]⟩,
  ⟨true, false, [false, false, false, false, false, false, false, false, false, false, false], [false, false, false, false, false, true, false, false, false, false, false]⟩,
  ⟨false, false, [false, false, false, false, false, true, false, false, false, false, false], [false, false, false, false, false, true, false, false, false, false, false]⟩,
  ⟨false, false, [false, false, false, false, false, true, false, false, false, false, false], [false, false, false, false, false, true, false, false, false, false, false]⟩,
  ⟨false, false, [false, false, false, false, false, true, false, false, false, false, false], [false, false, false, false, false, true, false, false, false, false, false]⟩,
  ⟨false, false, [false, false, false, false, false, true, false, false, false, false, false], [false, false, false, false, false, true, false, false, false, false, false]⟩,
  ⟨true, false, [false, false, false, false, false, true, false, false, false, false, false], [false, false, false, false, false, true, false, false, false, false, true]⟩])))
 (.ops [⟨(some 53), .ar .i64 .add (.tmp 39) (.const (.int .i64 1)), none⟩,
  ⟨(some 39), .mov (.tmp 53), none⟩])))))))
 (.seq (.seq (.ops [⟨(some 54), .fldA 1 (.tmp 9), none⟩,
  ⟨(some 55), .load1 (.tmp 54), none⟩,
  ⟨(some 56), .ar .i64 .lss (.tmp 55) (.const (.int .i64 0)), none⟩])
 (.cond (.tmp 56) (.ops [⟨(some 57), .loadN 2 (.tmp 11), none⟩,
  ⟨none, .store 2 (.tmp 9) (.tmp 57), none⟩])
 .skip))
 (.ops [⟨(some 58), .loadN 2 (.tmp 9), none⟩,
  ⟨(some 59), .loadN 2 (.tmp 11), none⟩,
  ⟨(some 60), .call 87 [(.tmp 58), (.tmp 59), (.func 88)], none⟩,
  ⟨none, .store 2 (.tmp 9) (.tmp 60), none⟩])))))))
 (.ops [⟨(some 61), .ar .i64 .add (.tmp 25) (.const (.int .i64 1)), none⟩,
  ⟨(some 25), .mov (.tmp 61), none⟩])))))))
 (.seq (.ops [⟨(some 62), .mov (.tmp 0), none⟩,
  ⟨(some 63), .mov (.tmp 2), none⟩,
  ⟨(some 64), .loadN 2 (.tmp 9), none⟩,
  ⟨none, .raw (.mapUpdate 106 (.tmp 62) (.tmp 63) (.tmp 64)) 0, none⟩])
 (.seq (.ops [⟨(some 65), .loadN 2 (.tmp 9), none⟩,
  ⟨none, .store 2 (.tmp 6) (.tmp 65), none⟩])
 .ret))))))
theorem enter69 {xs : List Value} {h : Hp} {Q : Value → Hp → Prop} (hl : xs.length ≤ 66) (w : wq E 66 none c69 (frameOf xs) h [] (leaveQ E [.cell 6 85] Q)) : CallP E 69 xs h Q :=
  CallP.enterQ (fn := Try.f69) (fn_get Try.func69) (code := Try.f69.body.get rfl) rfl rfl rfl (by kernel_rfl) rfl (fun _ => rfl) hl w
theorem can69 : callable E 69 = true := callable_get Try.func69 rfl rfl

/-- (tosher/search.tree).all -/
def c70 : C := (.seq (.ops [⟨(some 1), .box 102 (.tmp 0), none⟩,
  ⟨(some 2), .mov (.const (.int .i64 0)), none⟩])
 (.seq (.ops [⟨(some 3), .fldA 0 (.tmp 1), none⟩,
  ⟨(some 4), .load1 (.tmp 3), none⟩,
  ⟨(some 5), .ar .i64 .shl (.const (.int .i64 1)) (.tmp 4), none⟩,
  ⟨(some 6), .ar .i64 .sub (.tmp 5) (.const (.int .i64 1)), none⟩,
  ⟨(some 2), .mov (.tmp 6), none⟩])
 .ret))
theorem enter70 {xs : List Value} {h : Hp} {Q : Value → Hp → Prop} (hl : xs.length ≤ 7) (w : wq E 7 none c70 (frameOf xs) h [] (leaveQ E [.tmp 2] Q)) : CallP E 70 xs h Q :=
  CallP.enterQ (fn := Try.f70) (fn_get Try.func70) (code := Try.f70.body.get rfl) rfl rfl rfl (by kernel_rfl) rfl (fun _ => rfl) hl w
theorem can70 : callable E 70 = true := callable_get Try.func70 rfl rfl

/-- (tosher/search.tree).marks -/
def c71 : C := (.seq (.ops [⟨(some 1), .box 102 (.tmp 0), none⟩,
  ⟨(some 2), .mov (.const (.slice none 0 0)), none⟩])
 (.seq (.ops [⟨(some 6), .fldA 0 (.tmp 1), none⟩,
  ⟨(some 7), .load1 (.tmp 6), none⟩,
  ⟨(some 8), .make 3 [(.int .i64 0)] 8 (.tmp 7) (.tmp 7), none⟩,
  ⟨(some 3), .alloc 22 [(.slice none 0 0)], none⟩,
  ⟨none, .store 1 (.tmp 3) (.tmp 8), none⟩])
 (.seq (.ops [⟨(some 9), .newMap, none⟩,
  ⟨(some 4), .alloc 106 [(.map none)], none⟩,
  ⟨none, .store 1 (.tmp 4) (.tmp 9), none⟩])
 (.seq (.ops [⟨(some 5), .alloc 127 [.nilFunc], none⟩])
 (.seq (.ops [⟨(some 10), .func (.func 89) [] [(.tmp 4), (.tmp 1), (.tmp 3), (.tmp 5)], none⟩,
  ⟨none, .store 1 (.tmp 5) (.tmp 10), none⟩])
 (.seq (.draw [⟨(some 11), .load1 (.tmp 5), none⟩,
  ⟨(some 12), .loadN 11 (.tmp 1), none⟩,
  ⟨(some 13), .call 70 [(.tmp 12)], none⟩,
  ⟨(some 14), .callv (.tmp 11) [(.tmp 13)], none⟩]
  [⟨false, true, [false, false, false, false], [false, false, true, false]⟩,
  ⟨false, false, [false, false, false, false], [false, false, false, false]⟩,
  ⟨true, false, [false, false, false, false], [false, false, true, false]⟩,
  ⟨true, false, [false, false, true, false], [false, false, true, true]⟩])
 (.seq (.ops [⟨(some 15), .load1 (.tmp 3), none⟩,
  ⟨(some 2), .mov (.tmp 15), none⟩])
 .ret)))))))
theorem enter71 {xs : List Value} {h : Hp} {Q : Value → Hp → Prop} (hl : xs.length ≤ 16) (w : wq E 16 none c71 (frameOf xs) h [] (leaveQ E [.tmp 2] Q)) : CallP E 71 xs h Q :=
  CallP.enterQ (fn := Try.f71) (fn_get Try.func71) (code := Try.f71.body.get rfl) rfl rfl rfl (by kernel_rfl) rfl (fun _ => rfl) hl w
theorem can71 : callable E 71 = true := callable_get Try.func71 rfl rfl

/-- (tosher/search.tree).areMarks -/
def c72 : C := (.seq (.ops [⟨(some 2), .box 102 (.tmp 0), none⟩,
  ⟨(some 4), .mov (.const (.bool false)), none⟩])
 (.scope (.seq (.seq (.ops [⟨(some 14), .mov (.tmp 1), none⟩,
  ⟨(some 15), .lenS (.tmp 14), none⟩,
  ⟨(some 16), .fldA 0 (.tmp 2), none⟩,
  ⟨(some 17), .load1 (.tmp 16), none⟩,
  ⟨(some 18), .ar .i64 .neq (.tmp 15) (.tmp 17), none⟩])
 (.cond (.tmp 18) (.seq (.ops [⟨(some 4), .mov (.const (.bool false)), none⟩])
 .ret)
 .skip))
 (.seq (.ops [⟨(some 5), .mov (.const (.bool true)), none⟩])
 (.seq .skip
 (.seq (.seq (.ops [⟨(some 19), .mov (.tmp 1), none⟩,
  ⟨(some 20), .lenS (.tmp 19), none⟩,
  ⟨(some 21), .mov (.const (.int .i64 0)), none⟩])
 (.block 0 (.loop (.seq (.ops [⟨(some 22), .ar .i64 .lss (.tmp 21) (.tmp 20), none⟩])
 (.seq (.cond (.tmp 22) .skip
 (.exit 0))
 (.seq (.block 1 (.seq (.ops [⟨(some 23), .idxS 1 (.tmp 19) (.tmp 21), none⟩,
  ⟨(some 24), .load1 (.tmp 23), none⟩,
  ⟨(some 7), .mov (.tmp 24), none⟩])
 (.seq (.seq (.ops [⟨(some 25), .mov (.tmp 7), none⟩,
  ⟨(some 26), .ar .i64 .lss (.tmp 25) (.const (.int .i64 0)), none⟩,
  ⟨(some 27), .mov (.tmp 26), none⟩,
  ⟨(some 28), .mov (.tmp 7), (some (27, false))⟩,
  ⟨(some 29), .ar .i64 .gtr (.tmp 28) (.const (.int .i64 10)), (some (27, false))⟩,
  ⟨(some 30), .pick (.tmp 27) (.const (.bool true)) (.tmp 29), none⟩])
 (.cond (.tmp 30) (.seq (.ops [⟨(some 5), .mov (.const (.bool false)), none⟩])
 (.exit 0))
 .skip))
 (.seq (.ops [⟨(some 8), .mov (.const (.int .i64 0)), none⟩,
  ⟨(some 9), .mov (.const (.int .i64 0)), none⟩])
 (.seq (.seq (.ops [⟨(some 31), .mov (.tmp 1), none⟩,
  ⟨(some 32), .lenS (.tmp 31), none⟩,
  ⟨(some 33), .mov (.const (.int .i64 0)), none⟩])
 (.block 2 (.loop (.seq (.ops [⟨(some 34), .ar .i64 .lss (.tmp 33) (.tmp 32), none⟩])
 (.seq (.cond (.tmp 34) .skip
 (.exit 2))
 (.seq (.block 3 (.seq (.ops [⟨(some 35), .mov (.tmp 33), none⟩,
  ⟨(some 36), .idxS 1 (.tmp 31) (.tmp 33), none⟩,
  ⟨(some 37), .load1 (.tmp 36), none⟩,
  ⟨(some 10), .mov (.tmp 35), none⟩,
  ⟨(some 11), .mov (.tmp 37), none⟩])
 (.seq (.seq (.ops [⟨(some 38), .mov (.tmp 11), none⟩,
  ⟨(some 39), .mov (.tmp 7), none⟩,
  ⟨(some 40), .ar .i64 .eql (.tmp 38) (.tmp 39), none⟩])
 (.cond (.tmp 40) (.ops [⟨(some 41), .mov (.tmp 8), none⟩,
  ⟨(some 42), .mov (.tmp 10), none⟩,
  ⟨(some 43), .ar .i64 .shl (.const (.int .i64 1)) (.tmp 42), none⟩,
  ⟨(some 44), .ar .i64 .or (.tmp 41) (.tmp 43), none⟩,
  ⟨(some 8), .mov (.tmp 44), none⟩])
 .skip))
 (.seq (.ops [⟨(some 45), .mov (.tmp 11), none⟩,
  ⟨(some 46), .mov (.tmp 7), none⟩,
  ⟨(some 47), .ar .i64 .leq (.tmp 45) (.tmp 46), none⟩])
 (.cond (.tmp 47) (.ops [⟨(some 48), .mov (.tmp 9), none⟩,
  ⟨(some 49), .mov (.tmp 10), none⟩,
  ⟨(some 50), .ar .i64 .shl (.const (.int .i64 1)) (.tmp 49), none⟩,
  ⟨(some 51), .ar .i64 .or (.tmp 48) (.tmp 50), none⟩,
  ⟨(some 9), .mov (.tmp 51), none⟩])
 .skip)))))
 (.ops [⟨(some 52), .ar .i64 .add (.tmp 33) (.const (.int .i64 1)), none⟩,
  ⟨(some 33), .mov (.tmp 52), none⟩])))))))
 (.seq (.ops [⟨(some 53), .loadN 11 (.tmp 2), none⟩,
  ⟨(some 54), .mov (.tmp 9), none⟩,
  ⟨(some 55), .call 90 [(.tmp 53), (.tmp 54)], none⟩,
  ⟨(some 56), .lenS (.tmp 55), none⟩,
  ⟨(some 57), .mov (.const (.int .i64 0)), none⟩])
 (.block 4 (.loop (.seq (.ops [⟨(some 58), .ar .i64 .lss (.tmp 57) (.tmp 56), none⟩])
 (.seq (.cond (.tmp 58) .skip
 (.exit 4))
 (.seq (.block 5 (.seq (.ops [⟨(some 59), .idxS 1 (.tmp 55) (.tmp 57), none⟩,
  ⟨(some 60), .load1 (.tmp 59), none⟩,
  ⟨(some 13), .mov (.tmp 60), none⟩])
 (.seq (.ops [⟨(some 61), .mov (.tmp 13), none⟩,
  ⟨(some 62), .mov (.tmp 8), none⟩,
  ⟨(some 63), .ar .i64 .and (.tmp 61) (.tmp 62), none⟩,
  ⟨(some 64), .call 91 [(.tmp 63)], none⟩,
  ⟨(some 65), .ar .i64 .gtr (.tmp 64) (.const (.int .i64 1)), none⟩])
 (.cond (.tmp 65) (.seq (.ops [⟨(some 5), .mov (.const (.bool false)), none⟩])
 (.exit 0))
 .skip))))
 (.ops [⟨(some 66), .ar .i64 .add (.tmp 57) (.const (.int .i64 1)), none⟩,
  ⟨(some 57), .mov (.tmp 66), none⟩]))))))))))))
 (.ops [⟨(some 67), .ar .i64 .add (.tmp 21) (.const (.int .i64 1)), none⟩,
  ⟨(some 21), .mov (.tmp 67), none⟩])))))))
 (.seq (.ops [⟨(some 68), .mov (.tmp 5), none⟩,
  ⟨(some 4), .mov (.tmp 68), none⟩])
 .ret)))))))
theorem enter72 {xs : List Value} {h : Hp} {Q : Value → Hp → Prop} (hl : xs.length ≤ 69) (w : wq E 69 none c72 (frameOf xs) h [] (leaveQ E [.tmp 4] Q)) : CallP E 72 xs h Q :=
  CallP.enterQ (fn := Try.f72) (fn_get Try.func72) (code := Try.f72.body.get rfl) rfl rfl rfl (by kernel_rfl) rfl (fun _ => rfl) hl w
theorem can72 : callable E 72 = true := callable_get Try.func72 rfl rfl

/-- (tosher/search.tree).middle -/
def c73 : C := (.seq (.ops [⟨(some 1), .box 102 (.tmp 0), none⟩,
  ⟨(some 2), .alloc 85 [(.int .i64 0), (.int .i64 0)], none⟩])
 (.seq (.ops [⟨(some 8), .fldA 0 (.tmp 1), none⟩,
  ⟨(some 9), .load1 (.tmp 8), none⟩,
  ⟨(some 10), .aggr [(.int .i64 0), (.int .i64 0)] [(0, 1, (.tmp 9)), (1, 1, (.const (.int .i64 0)))], none⟩,
  ⟨(some 3), .alloc 85 [(.int .i64 0), (.int .i64 0)], none⟩,
  ⟨none, .store 2 (.tmp 3) (.tmp 10), none⟩])
 (.seq (.seq (.ops [⟨(some 11), .fldA 0 (.tmp 1), none⟩,
  ⟨(some 12), .load1 (.tmp 11), none⟩,
  ⟨(some 13), .mov (.const (.int .i64 0)), none⟩])
 (.block 0 (.loop (.seq (.ops [⟨(some 14), .ar .i64 .lss (.tmp 13) (.tmp 12), none⟩])
 (.seq (.cond (.tmp 14) .skip
 (.exit 0))
 (.seq (.block 1 (.seq (.ops [⟨(some 15), .mov (.tmp 13), none⟩,
  ⟨(some 4), .mov (.tmp 15), none⟩])
 (.seq (.ops [⟨(some 16), .mov (.tmp 4), none⟩,
  ⟨(some 17), .aggr [(.int .i64 0), (.int .i64 0)] [(0, 1, (.const (.int .i64 0))), (1, 1, (.tmp 16))], none⟩,
  ⟨(some 5), .alloc 85 [(.int .i64 0), (.int .i64 0)], none⟩,
  ⟨none, .store 2 (.tmp 5) (.tmp 17), none⟩])
 (.seq (.seq (.draw [⟨(some 18), .loadN 11 (.tmp 1), none⟩,
  ⟨(some 19), .loadN 11 (.tmp 1), none⟩,
  ⟨(some 20), .call 70 [(.tmp 19)], none⟩,
  ⟨(some 21), .mov (.tmp 4), none⟩,
  ⟨(some 22), .call 86 [(.tmp 18), (.tmp 20), (.tmp 21)], none⟩,
  ⟨(some 23), .lenS (.tmp 22), none⟩,
  ⟨(some 24), .mov (.const (.int .i64 0)), none⟩]
  [⟨false, true, [false, false, false, false, false, false, false], [false, false, true, false, false, false, false]⟩,
  ⟨false, false, [false, false, false, false, false, false, false], [false, false, false, false, false, false, false]⟩,
  ⟨true, false, [false, false, false, false, false, false, false], [false, false, true, false, false, false, false]⟩,
  ⟨false, true, [false, false, false, false, false, false, false], [false, false, true, false, false, false, false]⟩,
  ⟨true, false, [false, false, true, false, false, false, false], [false, false, true, false, true, false, false]⟩,
  ⟨false, false, [false, false, true, false, true, false, false], [false, false, true, false, true, false, false]⟩,
  ⟨false, true, [false, false, false, false, false, false, false], [false, false, true, false, true, false, false]⟩])
 (.block 2 (.loop (.seq (.ops [⟨(some 25), .ar .i64 .lss (.tmp 24) (.tmp 23), none⟩])
 (.seq (.cond (.tmp 25) .skip
 (.exit 2))
 (.seq (.block 3 (.seq (.ops [⟨(some 26), .idxS 1 (.tmp 22) (.tmp 24), none⟩,
  ⟨(some 27), .load1 (.tmp 26), none⟩,
  ⟨(some 7), .mov (.tmp 27), none⟩])
 (.draw [⟨(some 28), .fldA 0 (.tmp 5), none⟩,
  ⟨(some 29), .load1 (.tmp 28), none⟩,
  ⟨(some 30), .mov (.tmp 7), none⟩,
  ⟨(some 31), .call 91 [(.tmp 30)], none⟩,
  ⟨(some 32), .raw (.call ⟨.builtin .max, ⟨[(.tmp 29), (.tmp 31)]⟩, ⟨[3, 3]⟩⟩) 3, none⟩,
  ⟨(some 33), .fldA 0 (.tmp 5), none⟩,
  ⟨none, .store 1 (.tmp 33) (.tmp 32), none⟩]
  [⟨false, true, [false, false, false, false, false, false, false], [false, false, false, true, false, false, false]⟩,
  ⟨false, true, [false, false, false, false, false, false, false], [false, false, false, true, false, false, false]⟩,
  ⟨false, false, [false, false, false, false, false, false, false], [false, false, false, false, false, false, false]⟩,
  ⟨true, false, [false, false, false, false, false, false, false], [false, false, false, true, false, false, false]⟩,
  ⟨false, false, [false, false, false, true, false, false, false], [false, false, false, true, false, false, false]⟩,
  ⟨false, false, [false, false, false, true, false, false, false], [false, false, false, true, false, false, false]⟩,
  ⟨true, false, [false, false, false, true, false, false, false], [false, false, false, true, false, false, true]⟩])))
 (.ops [⟨(some 34), .ar .i64 .add (.tmp 24) (.const (.int .i64 1)), none⟩,
  ⟨(some 24), .mov (.tmp 34), none⟩])))))))
 (.ops [⟨(some 35), .loadN 2 (.tmp 3), none⟩,
  ⟨(some 36), .loadN 2 (.tmp 5), none⟩,
  ⟨(some 37), .call 87 [(.tmp 35), (.tmp 36), (.func 88)], none⟩,
  ⟨none, .store 2 (.tmp 3) (.tmp 37), none⟩])))))
 (.ops [⟨(some 38), .ar .i64 .add (.tmp 13) (.const (.int .i64 1)), none⟩,
  ⟨(some 13), .mov (.tmp 38), none⟩])))))))
 (.seq (.ops [⟨(some 39), .loadN 2 (.tmp 3), none⟩,
  ⟨none, .store 2 (.tmp 2) (.tmp 39), none⟩])
 .ret))))
theorem enter73 {xs : List Value} {h : Hp} {Q : Value → Hp → Prop} (hl : xs.length ≤ 40) (w : wq E 40 none c73 (frameOf xs) h [] (leaveQ E [.cell 2 85] Q)) : CallP E 73 xs h Q :=
  CallP.enterQ (fn := Try.f73) (fn_get Try.func73) (code := Try.f73.body.get rfl) rfl rfl rfl (by kernel_rfl) rfl (fun _ => rfl) hl w
theorem can73 : callable E 73 = true := callable_get Try.func73 rfl rfl

/-- tosher/tosherref08.Size -/
def c74 : C := (.seq (.ops [⟨(some 2), .mov (.const (.int .i64 0)), none⟩])
 (.seq (.ops [⟨(some 3), .mov (.const (.int .i64 0)), none⟩])
 (.seq (.seq (.ops [⟨(some 4), .mov (.const (.int .i64 0)), none⟩])
 (.block 0 (.loop (.seq (.seq (.ops [⟨(some 5), .mov (.tmp 0), none⟩,
  ⟨(some 6), .mov (.tmp 4), none⟩,
  ⟨(some 7), .ar .i64 .shr (.tmp 5) (.tmp 6), none⟩,
  ⟨(some 8), .ar .i64 .gtr (.tmp 7) (.const (.int .i64 0)), none⟩])
 (.cond (.tmp 8) .skip
 (.exit 0)))
 (.seq (.block 1 (.ops [⟨(some 11), .mov (.tmp 3), none⟩,
  ⟨(some 12), .mov (.tmp 0), none⟩,
  ⟨(some 13), .mov (.tmp 4), none⟩,
  ⟨(some 14), .ar .i64 .shr (.tmp 12) (.tmp 13), none⟩,
  ⟨(some 15), .ar .i64 .rem (.tmp 14) (.const (.int .i64 2)), none⟩,
  ⟨(some 16), .ar .i64 .add (.tmp 11) (.tmp 15), none⟩,
  ⟨(some 3), .mov (.tmp 16), none⟩]))
 (.ops [⟨(some 9), .mov (.tmp 4), none⟩,
  ⟨(some 10), .ar .i64 .add (.tmp 9) (.const (.int .i64 1)), none⟩,
  ⟨(some 4), .mov (.tmp 10), none⟩]))))))
 (.seq (.ops [⟨(some 17), .mov (.tmp 3), none⟩,
  ⟨(some 2), .mov (.tmp 17), none⟩])
 .ret))))
theorem enter74 {xs : List Value} {h : Hp} {Q : Value → Hp → Prop} (hl : xs.length ≤ 18) (w : wq E 18 none c74 (frameOf xs) h [] (leaveQ E [.tmp 2] Q)) : CallP E 74 xs h Q :=
  CallP.enterQ (fn := Try.f74) (fn_get Try.func74) (code := Try.f74.body.get rfl) rfl rfl rfl (by kernel_rfl) rfl (fun _ => rfl) hl w
theorem can74 : callable E 74 = true := callable_get Try.func74 rfl rfl

/-- tosher/search.read -/
def c84 : C := (.seq (.ops [⟨(some 4), .alloc 102 [(.int .i64 0), (.int .i64 0), (.int .i64 0), (.int .i64 0), (.int .i64 0), (.int .i64 0), (.int .i64 0), (.int .i64 0), (.int .i64 0), (.int .i64 0), (.int .i64 0)], none⟩,
  ⟨(some 5), .mov (.const (.bool false)), none⟩])
 (.seq (.ops [⟨(some 9), .mov (.tmp 0), none⟩,
  ⟨(some 10), .aggr [(.int .i64 0), (.int .i64 0), (.int .i64 0), (.int .i64 0), (.int .i64 0), (.int .i64 0), (.int .i64 0), (.int .i64 0), (.int .i64 0), (.int .i64 0), (.int .i64 0)] [(0, 1, (.tmp 9))], none⟩,
  ⟨(some 6), .alloc 102 [(.int .i64 0), (.int .i64 0), (.int .i64 0), (.int .i64 0), (.int .i64 0), (.int .i64 0), (.int .i64 0), (.int .i64 0), (.int .i64 0), (.int .i64 0), (.int .i64 0)], none⟩,
  ⟨none, .store 11 (.tmp 6) (.tmp 10), none⟩])
 (.seq (.seq (.ops [⟨(some 11), .mov (.tmp 1), none⟩,
  ⟨(some 12), .lenS (.tmp 11), none⟩,
  ⟨(some 13), .mov (.tmp 0), none⟩,
  ⟨(some 14), .ar .i64 .sub (.tmp 13) (.const (.int .i64 1)), none⟩,
  ⟨(some 15), .ar .i64 .neq (.tmp 12) (.tmp 14), none⟩])
 (.cond (.tmp 15) (.seq (.ops [⟨(some 16), .aggr [(.int .i64 0), (.int .i64 0), (.int .i64 0), (.int .i64 0), (.int .i64 0), (.int .i64 0), (.int .i64 0), (.int .i64 0), (.int .i64 0), (.int .i64 0), (.int .i64 0)] [], none⟩,
  ⟨none, .store 11 (.tmp 4) (.tmp 16), none⟩,
  ⟨(some 5), .mov (.const (.bool false)), none⟩])
 .ret)
 .skip))
 (.seq (.seq (.ops [⟨(some 17), .mov (.tmp 1), none⟩,
  ⟨(some 18), .lenS (.tmp 17), none⟩,
  ⟨(some 19), .mov (.const (.int .i64 0)), none⟩])
 (.block 0 (.loop (.seq (.ops [⟨(some 20), .ar .i64 .lss (.tmp 19) (.tmp 18), none⟩])
 (.seq (.cond (.tmp 20) .skip
 (.exit 0))
 (.seq (.block 1 (.seq (.ops [⟨(some 21), .mov (.tmp 19), none⟩,
  ⟨(some 22), .idxS 2 (.tmp 17) (.tmp 19), none⟩,
  ⟨(some 23), .loadN 2 (.tmp 22), none⟩,
  ⟨(some 8), .alloc 81 [(.int .i64 0), (.int .i64 0)], none⟩,
  ⟨(some 7), .mov (.tmp 21), none⟩,
  ⟨none, .store 2 (.tmp 8) (.tmp 23), none⟩])
 (.seq (.seq (.ops [⟨(some 24), .idxA 2 1 (.tmp 8) (.const (.int .i64 0)), none⟩,
  ⟨(some 25), .load1 (.tmp 24), none⟩,
  ⟨(some 26), .ar .i64 .lss (.tmp 25) (.const (.int .i64 0)), none⟩,
  ⟨(some 27), .mov (.tmp 26), none⟩,
  ⟨(some 28), .idxA 2 1 (.tmp 8) (.const (.int .i64 0)), (some (27, false))⟩,
  ⟨(some 29), .load1 (.tmp 28), (some (27, false))⟩,
  ⟨(some 30), .idxA 2 1 (.tmp 8) (.const (.int .i64 1)), (some (27, false))⟩,
  ⟨(some 31), .load1 (.tmp 30), (some (27, false))⟩,
  ⟨(some 32), .ar .i64 .geq (.tmp 29) (.tmp 31), (some (27, false))⟩,
  ⟨(some 33), .pick (.tmp 27) (.const (.bool true)) (.tmp 32), none⟩,
  ⟨(some 34), .mov (.tmp 33), none⟩,
  ⟨(some 35), .idxA 2 1 (.tmp 8) (.const (.int .i64 1)), (some (34, false))⟩,
  ⟨(some 36), .load1 (.tmp 35), (some (34, false))⟩,
  ⟨(some 37), .mov (.tmp 0), (some (34, false))⟩,
  ⟨(some 38), .ar .i64 .geq (.tmp 36) (.tmp 37), (some (34, false))⟩,
  ⟨(some 39), .pick (.tmp 34) (.const (.bool true)) (.tmp 38), none⟩])
 (.cond (.tmp 39) (.seq (.ops [⟨(some 40), .aggr [(.int .i64 0), (.int .i64 0), (.int .i64 0), (.int .i64 0), (.int .i64 0), (.int .i64 0), (.int .i64 0), (.int .i64 0), (.int .i64 0), (.int .i64 0), (.int .i64 0)] [], none⟩,
  ⟨none, .store 11 (.tmp 4) (.tmp 40), none⟩,
  ⟨(some 5), .mov (.const (.bool false)), none⟩])
 .ret)
 .skip))
 (.seq (.seq (.ops [⟨(some 41), .mov (.tmp 7), none⟩,
  ⟨(some 42), .ar .i64 .gtr (.tmp 41) (.const (.int .i64 0)), none⟩,
  ⟨(some 43), .mov (.tmp 42), none⟩,
  ⟨(some 44), .mov (.tmp 1), (some (43, true))⟩,
  ⟨(some 45), .mov (.tmp 7), (some (43, true))⟩,
  ⟨(some 46), .ar .i64 .sub (.tmp 45) (.const (.int .i64 1)), (some (43, true))⟩,
  ⟨(some 47), .idxS 2 (.tmp 44) (.tmp 46), (some (43, true))⟩,
  ⟨(some 48), .cutA 2 1 (.tmp 47) none none none, (some (43, true))⟩,
  ⟨(some 49), .cutA 2 1 (.tmp 8) none none none, (some (43, true))⟩,
  ⟨(some 50), .call 93 [(.tmp 48), (.tmp 49)], (some (43, true))⟩,
  ⟨(some 51), .ar .i64 .geq (.tmp 50) (.const (.int .i64 0)), (some (43, true))⟩,
  ⟨(some 52), .pick (.tmp 43) (.tmp 51) (.const (.bool false)), none⟩])
 (.cond (.tmp 52) (.seq (.ops [⟨(some 53), .aggr [(.int .i64 0), (.int .i64 0), (.int .i64 0), (.int .i64 0), (.int .i64 0), (.int .i64 0), (.int .i64 0), (.int .i64 0), (.int .i64 0), (.int .i64 0), (.int .i64 0)] [], none⟩,
  ⟨none, .store 11 (.tmp 4) (.tmp 53), none⟩,
  ⟨(some 5), .mov (.const (.bool false)), none⟩])
 .ret)
 .skip))
 (.seq (.ops [⟨(some 54), .idxA 2 1 (.tmp 8) (.const (.int .i64 0)), none⟩,
  ⟨(some 55), .load1 (.tmp 54), none⟩,
  ⟨(some 56), .fldA 1 (.tmp 6), none⟩,
  ⟨(some 57), .idxA 10 1 (.tmp 56) (.tmp 55), none⟩,
  ⟨(some 58), .load1 (.tmp 57), none⟩,
  ⟨(some 59), .idxA 2 1 (.tmp 8) (.const (.int .i64 1)), none⟩,
  ⟨(some 60), .load1 (.tmp 59), none⟩,
  ⟨(some 61), .ar .i64 .shl (.const (.int .i64 1)) (.tmp 60), none⟩,
  ⟨(some 62), .ar .i64 .or (.tmp 58) (.tmp 61), none⟩,
  ⟨(some 63), .fldA 1 (.tmp 6), none⟩,
  ⟨(some 64), .idxA 10 1 (.tmp 63) (.tmp 55), none⟩,
  ⟨none, .store 1 (.tmp 64) (.tmp 62), none⟩])
 (.ops [⟨(some 65), .idxA 2 1 (.tmp 8) (.const (.int .i64 1)), none⟩,
  ⟨(some 66), .load1 (.tmp 65), none⟩,
  ⟨(some 67), .fldA 1 (.tmp 6), none⟩,
  ⟨(some 68), .idxA 10 1 (.tmp 67) (.tmp 66), none⟩,
  ⟨(some 69), .load1 (.tmp 68), none⟩,
  ⟨(some 70), .idxA 2 1 (.tmp 8) (.const (.int .i64 0)), none⟩,
  ⟨(some 71), .load1 (.tmp 70), none⟩,
  ⟨(some 72), .ar .i64 .shl (.const (.int .i64 1)) (.tmp 71), none⟩,
  ⟨(some 73), .ar .i64 .or (.tmp 69) (.tmp 72), none⟩,
  ⟨(some 74), .fldA 1 (.tmp 6), none⟩,
  ⟨(some 75), .idxA 10 1 (.tmp 74) (.tmp 66), none⟩,
  ⟨none, .store 1 (.tmp 75) (.tmp 73), none⟩]))))))
 (.ops [⟨(some 76), .ar .i64 .add (.tmp 19) (.const (.int .i64 1)), none⟩,
  ⟨(some 19), .mov (.tmp 76), none⟩])))))))
 (.seq (.draw [⟨(some 77), .loadN 11 (.tmp 6), none⟩,
  ⟨(some 78), .loadN 11 (.tmp 6), none⟩,
  ⟨(some 79), .loadN 11 (.tmp 6), none⟩,
  ⟨(some 80), .call 70 [(.tmp 79)], none⟩,
  ⟨(some 81), .call 90 [(.tmp 78), (.tmp 80)], none⟩,
  ⟨(some 82), .lenS (.tmp 81), none⟩,
  ⟨(some 83), .ar .i64 .eql (.tmp 82) (.const (.int .i64 1)), none⟩,
  ⟨none, .store 11 (.tmp 4) (.tmp 77), none⟩,
  ⟨(some 5), .mov (.tmp 83), none⟩]
  [⟨false, true, [false, false, false, false, false, false, false, false, false], [false, false, false, true, true, false, false, false, false]⟩,
  ⟨false, true, [false, false, false, false, false, false, false, false, false], [false, false, false, true, false, false, false, false, false]⟩,
  ⟨false, false, [false, false, false, false, false, false, false, false, false], [false, false, false, false, false, false, false, false, false]⟩,
  ⟨true, false, [false, false, false, false, false, false, false, false, false], [false, false, false, true, false, false, false, false, false]⟩,
  ⟨true, false, [false, false, false, true, false, false, false, false, false], [false, false, false, true, true, false, false, false, false]⟩,
  ⟨false, true, [false, false, false, true, true, false, false, false, false], [false, false, false, true, true, false, false, true, false]⟩,
  ⟨false, true, [false, false, false, true, true, false, false, false, false], [false, false, false, true, true, false, false, true, false]⟩,
  ⟨true, false, [false, false, false, true, true, false, false, false, false], [false, false, false, true, true, false, false, true, false]⟩,
  ⟨false, false, [false, false, false, true, true, false, false, true, false], [false, false, false, true, true, false, false, true, false]⟩])
 .ret)))))
theorem enter84 {xs : List Value} {h : Hp} {Q : Value → Hp → Prop} (hl : xs.length ≤ 84) (w : wq E 84 none c84 (frameOf xs) h [] (leaveQ E [.cell 4 102, .tmp 5] Q)) : CallP E 84 xs h Q :=
  CallP.enterQ (fn := Try.f84) (fn_get Try.func84) (code := Try.f84.body.get rfl) rfl rfl rfl (by kernel_rfl) rfl (fun _ => rfl) hl w
theorem can84 : callable E 84 = true := callable_get Try.func84 rfl rfl

/-- tosher/search.has -/
def c85 : C := (.seq (.ops [⟨(some 4), .mov (.const (.bool false)), none⟩])
 (.seq (.ops [⟨(some 5), .mov (.tmp 0), none⟩,
  ⟨(some 6), .mov (.tmp 1), none⟩,
  ⟨(some 7), .ar .i64 .shr (.tmp 5) (.tmp 6), none⟩,
  ⟨(some 8), .ar .i64 .and (.tmp 7) (.const (.int .i64 1)), none⟩,
  ⟨(some 9), .ar .i64 .eql (.tmp 8) (.const (.int .i64 1)), none⟩,
  ⟨(some 4), .mov (.tmp 9), none⟩])
 .ret))
theorem enter85 {xs : List Value} {h : Hp} {Q : Value → Hp → Prop} (hl : xs.length ≤ 10) (w : wq E 10 none c85 (frameOf xs) h [] (leaveQ E [.tmp 4] Q)) : CallP E 85 xs h Q :=
  CallP.enterQ (fn := Try.f85) (fn_get Try.func85) (code := Try.f85.body.get rfl) rfl rfl rfl (by kernel_rfl) rfl (fun _ => rfl) hl w
theorem can85 : callable E 85 = true := callable_get Try.func85 rfl rfl

/-- (tosher/search.tree).partsWithout -/
def c86 : C := (.seq (.ops [⟨(some 3), .box 102 (.tmp 0), none⟩,
  ⟨(some 6), .mov (.const (.slice none 0 0)), none⟩])
 (.seq (.ops [⟨(some 7), .loadN 11 (.tmp 3), none⟩,
  ⟨(some 8), .mov (.tmp 1), none⟩,
  ⟨(some 9), .mov (.tmp 2), none⟩,
  ⟨(some 10), .ar .i64 .shl (.const (.int .i64 1)) (.tmp 9), none⟩,
  ⟨(some 11), .ar .i64 .andNot (.tmp 8) (.tmp 10), none⟩,
  ⟨(some 12), .call 90 [(.tmp 7), (.tmp 11)], none⟩,
  ⟨(some 6), .mov (.tmp 12), none⟩])
 .ret))
theorem enter86 {xs : List Value} {h : Hp} {Q : Value → Hp → Prop} (hl : xs.length ≤ 13) (w : wq E 13 none c86 (frameOf xs) h [] (leaveQ E [.tmp 6] Q)) : CallP E 86 xs h Q :=
  CallP.enterQ (fn := Try.f86) (fn_get Try.func86) (code := Try.f86.body.get rfl) rfl rfl rfl (by kernel_rfl) rfl (fun _ => rfl) hl w
theorem can86 : callable E 86 = true := callable_get Try.func86 rfl rfl

/-- tosher/search.better[tosher/search.choice] -/
def c87 : C := (.seq (.ops [⟨(some 3), .box 85 (.tmp 0), none⟩,
  ⟨(some 4), .box 85 (.tmp 1), none⟩,
  ⟨(some 6), .alloc 85 [(.int .i64 0), (.int .i64 0)], none⟩])
 (.seq (.seq (.draw [⟨(some 7), .mov (.tmp 2), none⟩,
  ⟨(some 8), .loadN 2 (.tmp 4), none⟩,
  ⟨(some 9), .callv (.tmp 7) [(.tmp 8)], none⟩,
  ⟨(some 10), .mov (.tmp 2), none⟩,
  ⟨(some 11), .loadN 2 (.tmp 3), none⟩,
  ⟨(some 12), .callv (.tmp 10) [(.tmp 11)], none⟩,
  ⟨(some 13), .ar .i64 .lss (.tmp 9) (.tmp 12), none⟩]
  [⟨false, false, [false, false, false, false, false, false, false], [false, false, false, false, false, false, false]⟩,
  ⟨false, false, [false, false, false, false, false, false, false], [false, false, false, false, false, false, false]⟩,
  ⟨true, false, [false, false, false, false, false, false, false], [false, false, true, false, false, false, false]⟩,
  ⟨false, true, [false, false, false, false, false, false, false], [false, false, true, false, false, false, false]⟩,
  ⟨false, true, [false, false, false, false, false, false, false], [false, false, true, false, false, false, false]⟩,
  ⟨true, false, [false, false, true, false, false, false, false], [false, false, true, false, false, true, false]⟩,
  ⟨false, false, [false, false, true, false, false, true, false], [false, false, true, false, false, true, false]⟩])
 (.cond (.tmp 13) (.seq (.ops [⟨(some 14), .loadN 2 (.tmp 4), none⟩,
  ⟨none, .store 2 (.tmp 6) (.tmp 14), none⟩])
 .ret)
 .skip))
 (.seq (.ops [⟨(some 15), .loadN 2 (.tmp 3), none⟩,
  ⟨none, .store 2 (.tmp 6) (.tmp 15), none⟩])
 .ret)))
theorem enter87 {xs : List Value} {h : Hp} {Q : Value → Hp → Prop} (hl : xs.length ≤ 16) (w : wq E 16 none c87 (frameOf xs) h [] (leaveQ E [.cell 6 85] Q)) : CallP E 87 xs h Q :=
  CallP.enterQ (fn := Try.f87) (fn_get Try.func87) (code := Try.f87.body.get rfl) rfl rfl rfl (by kernel_rfl) rfl (fun _ => rfl) hl w
theorem can87 : callable E 87 = true := callable_get Try.func87 rfl rfl

/-- (tosher/search.choice).price -/
def c88 : C := (.seq (.ops [⟨(some 1), .box 85 (.tmp 0), none⟩,
  ⟨(some 2), .mov (.const (.int .i64 0)), none⟩])
 (.seq (.ops [⟨(some 3), .fldA 0 (.tmp 1), none⟩,
  ⟨(some 4), .load1 (.tmp 3), none⟩,
  ⟨(some 2), .mov (.tmp 4), none⟩])
 .ret))
theorem enter88 {xs : List Value} {h : Hp} {Q : Value → Hp → Prop} (hl : xs.length ≤ 5) (w : wq E 5 none c88 (frameOf xs) h [] (leaveQ E [.tmp 2] Q)) : CallP E 88 xs h Q :=
  CallP.enterQ (fn := Try.f88) (fn_get Try.func88) (code := Try.f88.body.get rfl) rfl rfl rfl (by kernel_rfl) rfl (fun _ => rfl) hl w
theorem can88 : callable E 88 = true := callable_get Try.func88 rfl rfl

/-- (tosher/search.tree).marks$1 -/
def c89 : C := (.seq (.ops [⟨(some 9), .load1 (.tmp 1), none⟩,
  ⟨(some 10), .loadN 11 (.tmp 2), none⟩,
  ⟨(some 11), .mov (.tmp 0), none⟩,
  ⟨(some 12), .call 69 [(.tmp 9), (.tmp 10), (.tmp 11)], none⟩,
  ⟨(some 6), .alloc 85 [(.int .i64 0), (.int .i64 0)], none⟩,
  ⟨none, .store 2 (.tmp 6) (.tmp 12), none⟩])
 (.seq (.ops [⟨(some 13), .load1 (.tmp 3), none⟩,
  ⟨(some 14), .fldA 1 (.tmp 6), none⟩,
  ⟨(some 15), .load1 (.tmp 14), none⟩,
  ⟨(some 16), .fldA 0 (.tmp 6), none⟩,
  ⟨(some 17), .load1 (.tmp 16), none⟩,
  ⟨(some 18), .idxS 1 (.tmp 13) (.tmp 15), none⟩,
  ⟨none, .store 1 (.tmp 18) (.tmp 17), none⟩])
 (.seq (.ops [⟨(some 19), .loadN 11 (.tmp 2), none⟩,
  ⟨(some 20), .mov (.tmp 0), none⟩,
  ⟨(some 21), .fldA 1 (.tmp 6), none⟩,
  ⟨(some 22), .load1 (.tmp 21), none⟩,
  ⟨(some 23), .call 86 [(.tmp 19), (.tmp 20), (.tmp 22)], none⟩,
  ⟨(some 24), .lenS (.tmp 23), none⟩,
  ⟨(some 25), .mov (.const (.int .i64 0)), none⟩])
 (.block 0 (.loop (.seq (.ops [⟨(some 26), .ar .i64 .lss (.tmp 25) (.tmp 24), none⟩])
 (.seq (.cond (.tmp 26) .skip
 (.exit 0))
 (.seq (.block 1 (.seq (.ops [⟨(some 27), .idxS 1 (.tmp 23) (.tmp 25), none⟩,
  ⟨(some 28), .load1 (.tmp 27), none⟩,
  ⟨(some 8), .mov (.tmp 28), none⟩])
 (.ops [⟨(some 29), .load1 (.tmp 4), none⟩,
  ⟨(some 30), .mov (.tmp 8), none⟩,
  ⟨(some 31), .callv (.tmp 29) [(.tmp 30)], none⟩])))
 (.ops [⟨(some 32), .ar .i64 .add (.tmp 25) (.const (.int .i64 1)), none⟩,
  ⟨(some 25), .mov (.tmp 32), none⟩])))))))))
theorem enter89 {xs : List Value} {h : Hp} {Q : Value → Hp → Prop} (hl : xs.length ≤ 33) (w : wq E 33 none c89 (frameOf xs) h [] (leaveQ E [] Q)) : CallP E 89 xs h Q :=
  CallP.enterQ (fn := Try.f89) (fn_get Try.func89) (code := Try.f89.body.get rfl) rfl rfl rfl (by kernel_rfl) rfl (fun _ => rfl) hl w
theorem can89 : callable E 89 = true := callable_get Try.func89 rfl rfl

/-- (tosher/search.tree).parts -/
def c90 : C := (.seq (.ops [⟨(some 2), .box 102 (.tmp 0), none⟩,
  ⟨(some 4), .mov (.const (.slice none 0 0)), none⟩])
 (.seq (.ops [⟨(some 5), .mov (.const (.slice none 0 0)), none⟩])
 (.seq (.block 0 (.loop (.seq (.seq (.ops [⟨(some 8), .mov (.tmp 1), none⟩,
  ⟨(some 9), .ar .i64 .neq (.tmp 8) (.const (.int .i64 0)), none⟩])
 (.cond (.tmp 9) .skip
 (.exit 0)))
 (.block 1 (.seq (.ops [⟨(some 10), .mov (.tmp 1), none⟩,
  ⟨(some 11), .mov (.tmp 1), none⟩,
  ⟨(some 12), .raw (.unOp .neg 3 (.tmp 11)) 3, none⟩,
  ⟨(some 13), .ar .i64 .and (.tmp 10) (.tmp 12), none⟩,
  ⟨(some 6), .mov (.tmp 13), none⟩])
 (.seq (.seq (.ops [⟨(some 14), .fldA 0 (.tmp 2), none⟩,
  ⟨(some 15), .load1 (.tmp 14), none⟩,
  ⟨(some 16), .mov (.const (.int .i64 0)), none⟩])
 (.block 2 (.loop (.seq (.ops [⟨(some 17), .ar .i64 .lss (.tmp 16) (.tmp 15), none⟩])
 (.seq (.cond (.tmp 17) .skip
 (.exit 2))
 (.seq (.block 3 (.seq (.ops [⟨(some 18), .fldA 0 (.tmp 2), none⟩,
  ⟨(some 19), .load1 (.tmp 18), none⟩,
  ⟨(some 20), .mov (.const (.int .i64 0)), none⟩])
 (.block 4 (.loop (.seq (.ops [⟨(some 21), .ar .i64 .lss (.tmp 20) (.tmp 19), none⟩])
 (.seq (.cond (.tmp 21) .skip
 (.exit 4))
 (.seq (.block 5 (.seq (.ops [⟨(some 22), .mov (.tmp 20), none⟩,
  ⟨(some 7), .mov (.tmp 22), none⟩])
 (.seq (.ops [⟨(some 23), .mov (.tmp 6), none⟩,
  ⟨(some 24), .mov (.tmp 7), none⟩,
  ⟨(some 25), .call 85 [(.tmp 23), (.tmp 24)], none⟩])
 (.cond (.tmp 25) (.ops [⟨(some 26), .mov (.tmp 6), none⟩,
  ⟨(some 27), .mov (.tmp 7), none⟩,
  ⟨(some 28), .fldA 1 (.tmp 2), none⟩,
  ⟨(some 29), .idxA 10 1 (.tmp 28) (.tmp 27), none⟩,
  ⟨(some 30), .load1 (.tmp 29), none⟩,
  ⟨(some 31), .mov (.tmp 1), none⟩,
  ⟨(some 32), .ar .i64 .and (.tmp 30) (.tmp 31), none⟩,
  ⟨(some 33), .ar .i64 .or (.tmp 26) (.tmp 32), none⟩,
  ⟨(some 6), .mov (.tmp 33), none⟩])
 .skip))))
 (.ops [⟨(some 34), .ar .i64 .add (.tmp 20) (.const (.int .i64 1)), none⟩,
  ⟨(some 20), .mov (.tmp 34), none⟩]))))))))
 (.ops [⟨(some 35), .ar .i64 .add (.tmp 16) (.const (.int .i64 1)), none⟩,
  ⟨(some 16), .mov (.tmp 35), none⟩])))))))
 (.seq (.ops [⟨(some 36), .mov (.tmp 5), none⟩,
  ⟨(some 37), .mov (.tmp 6), none⟩,
  ⟨(some 38), .slit 3 1 [(.int .i64 0)] [(0, 1, (.tmp 37))], none⟩,
  ⟨(some 39), .append 3 1 8 (.tmp 36) (.tmp 38), none⟩,
  ⟨(some 5), .mov (.tmp 39), none⟩])
 (.ops [⟨(some 40), .mov (.tmp 1), none⟩,
  ⟨(some 41), .mov (.tmp 6), none⟩,
  ⟨(some 42), .ar .i64 .andNot (.tmp 40) (.tmp 41), none⟩,
  ⟨(some 1), .mov (.tmp 42), none⟩]))))))))
 (.seq (.ops [⟨(some 43), .mov (.tmp 5), none⟩,
  ⟨(some 4), .mov (.tmp 43), none⟩])
 .ret))))
theorem enter90 {xs : List Value} {h : Hp} {Q : Value → Hp → Prop} (hl : xs.length ≤ 44) (w : wq E 44 none c90 (frameOf xs) h [] (leaveQ E [.tmp 4] Q)) : CallP E 90 xs h Q :=
  CallP.enterQ (fn := Try.f90) (fn_get Try.func90) (code := Try.f90.body.get rfl) rfl rfl rfl (by kernel_rfl) rfl (fun _ => rfl) hl w
theorem can90 : callable E 90 = true := callable_get Try.func90 rfl rfl

/-- tosher/search.size -/
def c91 : C := (.seq (.ops [⟨(some 2), .mov (.const (.int .i64 0)), none⟩])
 (.seq (.ops [⟨(some 3), .mov (.tmp 0), none⟩,
  ⟨(some 4), .cint .u64 (.tmp 3), none⟩,
  ⟨(some 5), .call 94 [(.tmp 4)], none⟩,
  ⟨(some 2), .mov (.tmp 5), none⟩])
 .ret))
theorem enter91 {xs : List Value} {h : Hp} {Q : Value → Hp → Prop} (hl : xs.length ≤ 6) (w : wq E 6 none c91 (frameOf xs) h [] (leaveQ E [.tmp 2] Q)) : CallP E 91 xs h Q :=
  CallP.enterQ (fn := Try.f91) (fn_get Try.func91) (code := Try.f91.body.get rfl) rfl rfl rfl (by kernel_rfl) rfl (fun _ => rfl) hl w
theorem can91 : callable E 91 = true := callable_get Try.func91 rfl rfl

/-- (tosher/search.part).gates -/
def c92 : C := (.seq (.ops [⟨(some 1), .box 115 (.tmp 0), none⟩,
  ⟨(some 2), .mov (.const .nilFunc), none⟩])
 (.seq (.ops [⟨(some 3), .func (.func 95) [] [(.tmp 1)], none⟩,
  ⟨(some 2), .mov (.tmp 3), none⟩])
 .ret))
theorem enter92 {xs : List Value} {h : Hp} {Q : Value → Hp → Prop} (hl : xs.length ≤ 4) (w : wq E 4 none c92 (frameOf xs) h [] (leaveQ E [.tmp 2] Q)) : CallP E 92 xs h Q :=
  CallP.enterQ (fn := Try.f92) (fn_get Try.func92) (code := Try.f92.body.get rfl) rfl rfl rfl (by kernel_rfl) rfl (fun _ => rfl) hl w
theorem can92 : callable E 92 = true := callable_get Try.func92 rfl rfl

/-- slices.Compare[[]int,int] -/
def c93 : C := (.seq (.ops [⟨(some 4), .mov (.const (.int .i64 0)), none⟩])
 (.seq (.seq (.ops [⟨(some 9), .mov (.tmp 0), none⟩,
  ⟨(some 10), .lenS (.tmp 9), none⟩,
  ⟨(some 11), .mov (.const (.int .i64 0)), none⟩])
 (.block 0 (.loop (.seq (.ops [⟨(some 12), .ar .i64 .lss (.tmp 11) (.tmp 10), none⟩])
 (.seq (.cond (.tmp 12) .skip
 (.exit 0))
 (.seq (.block 1 (.seq (.ops [⟨(some 13), .mov (.tmp 11), none⟩,
  ⟨(some 14), .idxS 1 (.tmp 9) (.tmp 11), none⟩,
  ⟨(some 15), .load1 (.tmp 14), none⟩,
  ⟨(some 5), .mov (.tmp 13), none⟩,
  ⟨(some 6), .mov (.tmp 15), none⟩])
 (.seq (.seq (.ops [⟨(some 16), .mov (.tmp 5), none⟩,
  ⟨(some 17), .mov (.tmp 1), none⟩,
  ⟨(some 18), .lenS (.tmp 17), none⟩,
  ⟨(some 19), .ar .i64 .geq (.tmp 16) (.tmp 18), none⟩])
 (.cond (.tmp 19) (.seq (.ops [⟨(some 4), .mov (.const (.int .i64 1)), none⟩])
 .ret)
 .skip))
 (.seq (.ops [⟨(some 20), .mov (.tmp 1), none⟩,
  ⟨(some 21), .mov (.tmp 5), none⟩,
  ⟨(some 22), .idxS 1 (.tmp 20) (.tmp 21), none⟩,
  ⟨(some 23), .load1 (.tmp 22), none⟩,
  ⟨(some 7), .mov (.tmp 23), none⟩])
 (.seq (.ops [⟨(some 24), .mov (.tmp 6), none⟩,
  ⟨(some 25), .mov (.tmp 7), none⟩,
  ⟨(some 26), .call 96 [(.tmp 24), (.tmp 25)], none⟩,
  ⟨(some 8), .mov (.tmp 26), none⟩])
 (.seq (.ops [⟨(some 27), .mov (.tmp 8), none⟩,
  ⟨(some 28), .ar .i64 .neq (.tmp 27) (.const (.int .i64 0)), none⟩])
 (.cond (.tmp 28) (.seq (.ops [⟨(some 29), .mov (.tmp 8), none⟩,
  ⟨(some 4), .mov (.tmp 29), none⟩])
 .ret)
 .skip)))))))
 (.ops [⟨(some 30), .ar .i64 .add (.tmp 11) (.const (.int .i64 1)), none⟩,
  ⟨(some 11), .mov (.tmp 30), none⟩])))))))
 (.seq (.seq (.ops [⟨(some 31), .mov (.tmp 0), none⟩,
  ⟨(some 32), .lenS (.tmp 31), none⟩,
  ⟨(some 33), .mov (.tmp 1), none⟩,
  ⟨(some 34), .lenS (.tmp 33), none⟩,
  ⟨(some 35), .ar .i64 .lss (.tmp 32) (.tmp 34), none⟩])
 (.cond (.tmp 35) (.seq (.ops [⟨(some 4), .mov (.const (.int .i64 (-1))), none⟩])
 .ret)
 .skip))
 (.seq (.ops [⟨(some 4), .mov (.const (.int .i64 0)), none⟩])
 .ret))))
theorem enter93 {xs : List Value} {h : Hp} {Q : Value → Hp → Prop} (hl : xs.length ≤ 36) (w : wq E 36 none c93 (frameOf xs) h [] (leaveQ E [.tmp 4] Q)) : CallP E 93 xs h Q :=
  CallP.enterQ (fn := Try.f93) (fn_get Try.func93) (code := Try.f93.body.get rfl) rfl rfl rfl (by kernel_rfl) rfl (fun _ => rfl) hl w
theorem can93 : callable E 93 = true := callable_get Try.func93 rfl rfl

/-- math/bits.OnesCount -/
def c94 : C := (.seq (.ops [⟨(some 2), .mov (.const (.int .i64 0)), none⟩])
 (.seq (.cond (.const (.bool false)) (.seq (.ops [⟨(some 3), .mov (.tmp 0), none⟩,
  ⟨(some 4), .cint .u32 (.tmp 3), none⟩,
  ⟨(some 5), .call 97 [(.tmp 4)], none⟩,
  ⟨(some 2), .mov (.tmp 5), none⟩])
 .ret)
 .skip)
 (.seq (.ops [⟨(some 6), .mov (.tmp 0), none⟩,
  ⟨(some 7), .call 98 [(.tmp 6)], none⟩,
  ⟨(some 2), .mov (.tmp 7), none⟩])
 .ret)))
theorem enter94 {xs : List Value} {h : Hp} {Q : Value → Hp → Prop} (hl : xs.length ≤ 8) (w : wq E 8 none c94 (frameOf xs) h [] (leaveQ E [.tmp 2] Q)) : CallP E 94 xs h Q :=
  CallP.enterQ (fn := Try.f94) (fn_get Try.func94) (code := Try.f94.body.get rfl) rfl rfl rfl (by kernel_rfl) rfl (fun _ => rfl) hl w
theorem can94 : callable E 94 = true := callable_get Try.func94 rfl rfl

/-- (tosher/search.part).gates$1 -/
def c95 : C := (.seq (.ops [⟨(some 4), .fldA 0 (.tmp 1), none⟩,
  ⟨(some 5), .load1 (.tmp 4), none⟩,
  ⟨(some 3), .mov (.tmp 5), none⟩])
 (.block 0 (.loop (.seq (.seq (.ops [⟨(some 6), .mov (.tmp 3), none⟩,
  ⟨(some 7), .fldA 1 (.tmp 1), none⟩,
  ⟨(some 8), .load1 (.tmp 7), none⟩,
  ⟨(some 9), .ar .i64 .lss (.tmp 6) (.tmp 8), none⟩])
 (.cond (.tmp 9) .skip
 (.exit 0)))
 (.seq (.block 1 (.seq (.ops [⟨(some 12), .mov (.tmp 0), none⟩,
  ⟨(some 13), .mov (.tmp 3), none⟩,
  ⟨(some 14), .callv (.tmp 12) [(.tmp 13)], none⟩,
  ⟨(some 15), .not (.tmp 14), none⟩])
 (.cond (.tmp 15) .ret
 .skip)))
 (.ops [⟨(some 10), .mov (.tmp 3), none⟩,
  ⟨(some 11), .ar .i64 .add (.tmp 10) (.const (.int .i64 1)), none⟩,
  ⟨(some 3), .mov (.tmp 11), none⟩]))))))
theorem enter95 {xs : List Value} {h : Hp} {Q : Value → Hp → Prop} (hl : xs.length ≤ 16) (w : wq E 16 none c95 (frameOf xs) h [] (leaveQ E [] Q)) : CallP E 95 xs h Q :=
  CallP.enterQ (fn := Try.f95) (fn_get Try.func95) (code := Try.f95.body.get rfl) rfl rfl rfl (by kernel_rfl) rfl (fun _ => rfl) hl w
theorem can95 : callable E 95 = true := callable_get Try.func95 rfl rfl

/-- cmp.Compare[int] -/
def c96 : C := (.seq (.ops [⟨(some 4), .mov (.const (.int .i64 0)), none⟩])
 (.seq (.ops [⟨(some 7), .mov (.tmp 0), none⟩,
  ⟨(some 8), .call 99 [(.tmp 7)], none⟩,
  ⟨(some 5), .mov (.tmp 8), none⟩])
 (.seq (.ops [⟨(some 9), .mov (.tmp 1), none⟩,
  ⟨(some 10), .call 99 [(.tmp 9)], none⟩,
  ⟨(some 6), .mov (.tmp 10), none⟩])
 (.seq (.seq (.ops [⟨(some 11), .mov (.tmp 5), none⟩])
 (.cond (.tmp 11) (.seq (.seq (.ops [⟨(some 12), .mov (.tmp 6), none⟩])
 (.cond (.tmp 12) (.seq (.ops [⟨(some 4), .mov (.const (.int .i64 0)), none⟩])
 .ret)
 .skip))
 (.seq (.ops [⟨(some 4), .mov (.const (.int .i64 (-1))), none⟩])
 .ret))
 .skip))
 (.seq (.seq (.ops [⟨(some 13), .mov (.tmp 6), none⟩])
 (.cond (.tmp 13) (.seq (.ops [⟨(some 4), .mov (.const (.int .i64 1)), none⟩])
 .ret)
 .skip))
 (.seq (.seq (.ops [⟨(some 14), .mov (.tmp 0), none⟩,
  ⟨(some 15), .mov (.tmp 1), none⟩,
  ⟨(some 16), .ar .i64 .lss (.tmp 14) (.tmp 15), none⟩])
 (.cond (.tmp 16) (.seq (.ops [⟨(some 4), .mov (.const (.int .i64 (-1))), none⟩])
 .ret)
 .skip))
 (.seq (.seq (.ops [⟨(some 17), .mov (.tmp 0), none⟩,
  ⟨(some 18), .mov (.tmp 1), none⟩,
  ⟨(some 19), .ar .i64 .gtr (.tmp 17) (.tmp 18), none⟩])
 (.cond (.tmp 19) (.seq (.ops [⟨(some 4), .mov (.const (.int .i64 1)), none⟩])
 .ret)
 .skip))
 (.seq (.ops [⟨(some 4), .mov (.const (.int .i64 0)), none⟩])
 .ret))))))))
theorem enter96 {xs : List Value} {h : Hp} {Q : Value → Hp → Prop} (hl : xs.length ≤ 20) (w : wq E 20 none c96 (frameOf xs) h [] (leaveQ E [.tmp 4] Q)) : CallP E 96 xs h Q :=
  CallP.enterQ (fn := Try.f96) (fn_get Try.func96) (code := Try.f96.body.get rfl) rfl rfl rfl (by kernel_rfl) rfl (fun _ => rfl) hl w
theorem can96 : callable E 96 = true := callable_get Try.func96 rfl rfl

/-- math/bits.OnesCount64 -/
def c98 : C := (.seq (.ops [⟨(some 2), .mov (.const (.int .i64 0)), none⟩])
 (.seq (.ops [⟨(some 3), .mov (.tmp 0), none⟩,
  ⟨(some 4), .ar .u64 .shr (.tmp 3) (.const (.int .u64 1)), none⟩,
  ⟨(some 5), .ar .u64 .and (.tmp 4) (.const (.int .u64 6148914691236517205)), none⟩,
  ⟨(some 6), .mov (.tmp 0), none⟩,
  ⟨(some 7), .ar .u64 .and (.tmp 6) (.const (.int .u64 6148914691236517205)), none⟩,
  ⟨(some 8), .ar .u64 .add (.tmp 5) (.tmp 7), none⟩,
  ⟨(some 0), .mov (.tmp 8), none⟩])
 (.seq (.ops [⟨(some 9), .mov (.tmp 0), none⟩,
  ⟨(some 10), .ar .u64 .shr (.tmp 9) (.const (.int .u64 2)), none⟩,
  ⟨(some 11), .ar .u64 .and (.tmp 10) (.const (.int .u64 3689348814741910323)), none⟩,
  ⟨(some 12), .mov (.tmp 0), none⟩,
  ⟨(some 13), .ar .u64 .and (.tmp 12) (.const (.int .u64 3689348814741910323)), none⟩,
  ⟨(some 14), .ar .u64 .add (.tmp 11) (.tmp 13), none⟩,
  ⟨(some 0), .mov (.tmp 14), none⟩])
 (.seq (.ops [⟨(some 15), .mov (.tmp 0), none⟩,
  ⟨(some 16), .ar .u64 .shr (.tmp 15) (.const (.int .u64 4)), none⟩,
  ⟨(some 17), .mov (.tmp 0), none⟩,
  ⟨(some 18), .ar .u64 .add (.tmp 16) (.tmp 17), none⟩,
  ⟨(some 19), .ar .u64 .and (.tmp 18) (.const (.int .u64 1085102592571150095)), none⟩,
  ⟨(some 0), .mov (.tmp 19), none⟩])
 (.seq (.ops [⟨(some 20), .mov (.tmp 0), none⟩,
  ⟨(some 21), .mov (.tmp 0), none⟩,
  ⟨(some 22), .ar .u64 .shr (.tmp 21) (.const (.int .u64 8)), none⟩,
  ⟨(some 23), .ar .u64 .add (.tmp 20) (.tmp 22), none⟩,
  ⟨(some 0), .mov (.tmp 23), none⟩])
 (.seq (.ops [⟨(some 24), .mov (.tmp 0), none⟩,
  ⟨(some 25), .mov (.tmp 0), none⟩,
  ⟨(some 26), .ar .u64 .shr (.tmp 25) (.const (.int .u64 16)), none⟩,
  ⟨(some 27), .ar .u64 .add (.tmp 24) (.tmp 26), none⟩,
  ⟨(some 0), .mov (.tmp 27), none⟩])
 (.seq (.ops [⟨(some 28), .mov (.tmp 0), none⟩,
  ⟨(some 29), .mov (.tmp 0), none⟩,
  ⟨(some 30), .ar .u64 .shr (.tmp 29) (.const (.int .u64 32)), none⟩,
  ⟨(some 31), .ar .u64 .add (.tmp 28) (.tmp 30), none⟩,
  ⟨(some 0), .mov (.tmp 31), none⟩])
 (.seq (.ops [⟨(some 32), .mov (.tmp 0), none⟩,
  ⟨(some 33), .cint .i64 (.tmp 32), none⟩,
  ⟨(some 34), .ar .i64 .and (.tmp 33) (.const (.int .i64 127)), none⟩,
  ⟨(some 2), .mov (.tmp 34), none⟩])
 .ret))))))))
theorem enter98 {xs : List Value} {h : Hp} {Q : Value → Hp → Prop} (hl : xs.length ≤ 35) (w : wq E 35 none c98 (frameOf xs) h [] (leaveQ E [.tmp 2] Q)) : CallP E 98 xs h Q :=
  CallP.enterQ (fn := Try.f98) (fn_get Try.func98) (code := Try.f98.body.get rfl) rfl rfl rfl (by kernel_rfl) rfl (fun _ => rfl) hl w
theorem can98 : callable E 98 = true := callable_get Try.func98 rfl rfl

/-- cmp.isNaN[int] -/
def c99 : C := (.seq (.ops [⟨(some 2), .mov (.const (.bool false)), none⟩])
 (.seq (.ops [⟨(some 3), .mov (.tmp 0), none⟩,
  ⟨(some 4), .mov (.tmp 0), none⟩,
  ⟨(some 5), .ar .i64 .neq (.tmp 3) (.tmp 4), none⟩,
  ⟨(some 2), .mov (.tmp 5), none⟩])
 .ret))
theorem enter99 {xs : List Value} {h : Hp} {Q : Value → Hp → Prop} (hl : xs.length ≤ 6) (w : wq E 6 none c99 (frameOf xs) h [] (leaveQ E [.tmp 2] Q)) : CallP E 99 xs h Q :=
  CallP.enterQ (fn := Try.f99) (fn_get Try.func99) (code := Try.f99.body.get rfl) rfl rfl rfl (by kernel_rfl) rfl (fun _ => rfl) hl w
theorem can99 : callable E 99 = true := callable_get Try.func99 rfl rfl
end
end Go.Proofs.Yticmdpcahpimhaa
