/- The code of the functions that SKnuthM comes to. -/
import Derived.Test.YticmdpcahpimhaaTypesC
set_option maxRecDepth 100000
set_option linter.unusedSectionVars false
set_option linter.unusedVariables false
namespace Go.Proofs.Yticmdpcahpimhaa
open Go.Rx Go.RowKit
noncomputable section
variable [Unknowns]
/-- tosher/tosherlaw08.SearchChecks -/
def c3 : C := (.seq (.ops [⟨(some 6), .mov (.const (.bool false)), none⟩])
 (.seq (.ops [⟨(some 34), .mov (.tmp 0), none⟩,
  ⟨(some 35), .call 16 [(.tmp 34), (.const (.int .i64 13))], none⟩,
  ⟨(some 36), .mov (.tmp 1), none⟩,
  ⟨(some 37), .call 16 [(.tmp 36), (.const (.int .i64 14))], none⟩,
  ⟨(some 38), .mov (.tmp 2), none⟩,
  ⟨(some 39), .call 16 [(.tmp 38), (.const (.int .i64 13))], none⟩,
  ⟨(some 7), .mov (.tmp 35), none⟩,
  ⟨(some 8), .mov (.tmp 37), none⟩,
  ⟨(some 9), .mov (.tmp 39), none⟩])
 (.seq (.ops [⟨(some 10), .mov (.const (.int .i64 0)), none⟩])
 (.seq (.seq (.ops [⟨(some 40), .mov (.tmp 7), none⟩,
  ⟨(some 41), .call 17 [(.tmp 40)], none⟩,
  ⟨(some 42), .not (.tmp 41), none⟩])
 (.cond (.tmp 42) (.ops [⟨(some 10), .mov (.const (.int .i64 80)), none⟩])
 .skip))
 (.seq (.seq (.ops [⟨(some 43), .mov (.tmp 7), none⟩,
  ⟨(some 44), .call 18 [(.tmp 43)], none⟩,
  ⟨(some 45), .mov (.tmp 10), none⟩,
  ⟨(some 46), .ar .i64 .neq (.tmp 44) (.tmp 45), none⟩])
 (.cond (.tmp 46) (.seq (.ops [⟨(some 6), .mov (.const (.bool false)), none⟩])
 .ret)
 .skip))
 (.seq (.seq (.ops [⟨(some 47), .mov (.tmp 10), none⟩,
  ⟨(some 48), .ar .i64 .neq (.tmp 47) (.const (.int .i64 0)), none⟩])
 (.cond (.tmp 48) (.seq (.ops [⟨(some 50), .mov (.tmp 7), none⟩,
  ⟨(some 51), .mov (.tmp 9), none⟩,
  ⟨(some 52), .call 19 [(.tmp 50), (.tmp 51)], none⟩,
  ⟨(some 49), .mov (.tmp 52), none⟩,
  ⟨(some 53), .ext (.tmp 49) 0, none⟩,
  ⟨(some 54), .ext (.tmp 49) 1, none⟩,
  ⟨(some 11), .mov (.tmp 53), none⟩,
  ⟨(some 12), .mov (.tmp 54), none⟩])
 (.seq (.ops [⟨(some 56), .mov (.tmp 7), none⟩,
  ⟨(some 57), .call 20 [(.tmp 56)], none⟩,
  ⟨(some 55), .mov (.tmp 57), none⟩,
  ⟨(some 58), .ext (.tmp 55) 0, none⟩,
  ⟨(some 59), .ext (.tmp 55) 1, none⟩,
  ⟨(some 60), .ext (.tmp 55) 2, none⟩,
  ⟨(some 13), .mov (.tmp 58), none⟩,
  ⟨(some 14), .mov (.tmp 59), none⟩,
  ⟨(some 15), .mov (.tmp 60), none⟩])
 (.seq (.ops [⟨(some 61), .mov (.tmp 12), none⟩,
  ⟨(some 62), .mov (.tmp 10), none⟩,
  ⟨(some 63), .ar .i64 .neq (.tmp 61) (.tmp 62), none⟩,
  ⟨(some 64), .mov (.tmp 63), none⟩,
  ⟨(some 65), .mov (.tmp 15), (some (64, false))⟩,
  ⟨(some 66), .mov (.tmp 10), (some (64, false))⟩,
  ⟨(some 67), .ar .i64 .neq (.tmp 65) (.tmp 66), (some (64, false))⟩,
  ⟨(some 68), .pick (.tmp 64) (.const (.bool true)) (.tmp 67), none⟩,
  ⟨(some 69), .mov (.tmp 68), none⟩,
  ⟨(some 70), .mov (.tmp 11), (some (69, false))⟩,
  ⟨(some 71), .pick (.tmp 69) (.const (.bool true)) (.tmp 70), none⟩,
  ⟨(some 72), .mov (.tmp 71), none⟩,
  ⟨(some 73), .mov (.tmp 13), (some (72, false))⟩,
  ⟨(some 74), .mov (.tmp 14), (some (72, false))⟩,
  ⟨(some 75), .lenS (.tmp 74), (some (72, false))⟩,
  ⟨(some 76), .ar .i64 .add (.tmp 73) (.tmp 75), (some (72, false))⟩,
  ⟨(some 77), .ar .i64 .neq (.tmp 76) (.const (.int .i64 0)), (some (72, false))⟩,
  ⟨(some 78), .pick (.tmp 72) (.const (.bool true)) (.tmp 77), none⟩])
 (.cond (.tmp 78) (.seq (.ops [⟨(some 6), .mov (.const (.bool false)), none⟩])
 .ret)
 .skip))))
 (.ops [⟨(some 10), .mov (.const (.int .i64 1)), none⟩])))
 (.seq (.ops [⟨(some 79), .mov (.tmp 7), none⟩,
  ⟨(some 80), .call 17 [(.tmp 79)], none⟩,
  ⟨(some 81), .not (.tmp 80), none⟩,
  ⟨(some 16), .mov (.tmp 81), none⟩])
 (.seq (.ops [⟨(some 83), .mov (.tmp 7), none⟩,
  ⟨(some 84), .lenS (.tmp 83), none⟩,
  ⟨(some 85), .mov (.tmp 9), none⟩,
  ⟨(some 86), .call 21 [(.tmp 84), (.tmp 85)], none⟩,
  ⟨(some 82), .mov (.tmp 86), none⟩,
  ⟨(some 87), .ext (.tmp 82) 0, none⟩,
  ⟨(some 88), .ext (.tmp 82) 1, none⟩,
  ⟨(some 17), .mov (.tmp 87), none⟩,
  ⟨(some 18), .mov (.tmp 88), none⟩])
 (.seq (.seq (.ops [⟨(some 89), .mov (.tmp 16), none⟩,
  ⟨(some 90), .mov (.tmp 89), none⟩,
  ⟨(some 91), .mov (.tmp 7), (some (90, false))⟩,
  ⟨(some 92), .mov (.tmp 8), (some (90, false))⟩,
  ⟨(some 93), .call 22 [(.tmp 91), (.tmp 92)], (some (90, false))⟩,
  ⟨(some 94), .not (.tmp 93), (some (90, false))⟩,
  ⟨(some 95), .pick (.tmp 90) (.const (.bool true)) (.tmp 94), none⟩])
 (.cond (.tmp 95) (.seq (.ops [⟨(some 97), .mov (.tmp 7), none⟩,
  ⟨(some 98), .mov (.tmp 8), none⟩,
  ⟨(some 99), .call 23 [(.tmp 97), (.tmp 98)], none⟩,
  ⟨(some 96), .mov (.tmp 99), none⟩,
  ⟨(some 100), .ext (.tmp 96) 0, none⟩,
  ⟨(some 101), .ext (.tmp 96) 1, none⟩,
  ⟨(some 102), .ext (.tmp 96) 2, none⟩,
  ⟨(some 19), .mov (.tmp 100), none⟩,
  ⟨(some 20), .mov (.tmp 101), none⟩,
  ⟨(some 21), .mov (.tmp 102), none⟩])
 (.seq (.ops [⟨(some 104), .mov (.tmp 7), none⟩,
  ⟨(some 105), .mov (.tmp 8), none⟩,
  ⟨(some 106), .mov (.tmp 9), none⟩,
  ⟨(some 107), .call 24 [(.tmp 104), (.tmp 105), (.tmp 106)], none⟩,
  ⟨(some 103), .mov (.tmp 107), none⟩,
  ⟨(some 108), .ext (.tmp 103) 0, none⟩,
  ⟨(some 109), .ext (.tmp 103) 1, none⟩,
  ⟨(some 22), .mov (.tmp 108), none⟩,
  ⟨(some 23), .mov (.tmp 109), none⟩])
 (.seq (.ops [⟨(some 110), .mov (.tmp 21), none⟩,
  ⟨(some 111), .mov (.tmp 10), none⟩,
  ⟨(some 112), .ar .i64 .neq (.tmp 110) (.tmp 111), none⟩,
  ⟨(some 113), .mov (.tmp 112), none⟩,
  ⟨(some 114), .mov (.tmp 23), (some (113, false))⟩,
  ⟨(some 115), .mov (.tmp 10), (some (113, false))⟩,
  ⟨(some 116), .ar .i64 .neq (.tmp 114) (.tmp 115), (some (113, false))⟩,
  ⟨(some 117), .pick (.tmp 113) (.const (.bool true)) (.tmp 116), none⟩,
  ⟨(some 118), .mov (.tmp 117), none⟩,
  ⟨(some 119), .mov (.tmp 19), (some (118, false))⟩,
  ⟨(some 120), .mov (.tmp 20), (some (118, false))⟩,
  ⟨(some 121), .lenS (.tmp 120), (some (118, false))⟩,
  ⟨(some 122), .ar .i64 .add (.tmp 119) (.tmp 121), (some (118, false))⟩,
  ⟨(some 123), .mov (.tmp 22), (some (118, false))⟩,
  ⟨(some 124), .ar .i64 .add (.tmp 122) (.tmp 123), (some (118, false))⟩,
  ⟨(some 125), .ar .i64 .neq (.tmp 124) (.const (.int .i64 0)), (some (118, false))⟩,
  ⟨(some 126), .pick (.tmp 118) (.const (.bool true)) (.tmp 125), none⟩])
 (.cond (.tmp 126) (.seq (.ops [⟨(some 6), .mov (.const (.bool false)), none⟩])
 .ret)
 .skip))))
 .skip))
 (.seq (.seq (.ops [⟨(some 127), .mov (.tmp 16), none⟩,
  ⟨(some 128), .mov (.tmp 127), none⟩,
  ⟨(some 129), .mov (.tmp 18), (some (128, false))⟩,
  ⟨(some 130), .not (.tmp 129), (some (128, false))⟩,
  ⟨(some 131), .pick (.tmp 128) (.const (.bool true)) (.tmp 130), none⟩])
 (.cond (.tmp 131) (.seq (.ops [⟨(some 133), .mov (.tmp 7), none⟩,
  ⟨(some 134), .mov (.tmp 9), none⟩,
  ⟨(some 135), .call 25 [(.tmp 133), (.tmp 134)], none⟩,
  ⟨(some 132), .mov (.tmp 135), none⟩,
  ⟨(some 136), .ext (.tmp 132) 0, none⟩,
  ⟨(some 137), .ext (.tmp 132) 1, none⟩,
  ⟨(some 24), .mov (.tmp 136), none⟩,
  ⟨(some 25), .mov (.tmp 137), none⟩])
 (.seq (.ops [⟨(some 139), .mov (.tmp 7), none⟩,
  ⟨(some 140), .mov (.tmp 8), none⟩,
  ⟨(some 141), .mov (.tmp 9), none⟩,
  ⟨(some 142), .call 24 [(.tmp 139), (.tmp 140), (.tmp 141)], none⟩,
  ⟨(some 138), .mov (.tmp 142), none⟩,
  ⟨(some 143), .ext (.tmp 138) 0, none⟩,
  ⟨(some 144), .ext (.tmp 138) 1, none⟩,
  ⟨(some 26), .mov (.tmp 143), none⟩,
  ⟨(some 27), .mov (.tmp 144), none⟩])
 (.seq (.ops [⟨(some 146), .mov (.tmp 7), none⟩,
  ⟨(some 147), .mov (.tmp 9), none⟩,
  ⟨(some 148), .call 26 [(.tmp 146), (.tmp 147), (.const (.int .i64 0))], none⟩,
  ⟨(some 145), .mov (.tmp 148), none⟩,
  ⟨(some 149), .ext (.tmp 145) 0, none⟩,
  ⟨(some 150), .ext (.tmp 145) 1, none⟩,
  ⟨(some 28), .mov (.tmp 149), none⟩,
  ⟨(some 29), .mov (.tmp 150), none⟩])
 (.seq (.ops [⟨(some 151), .mov (.tmp 25), none⟩,
  ⟨(some 152), .mov (.tmp 10), none⟩,
  ⟨(some 153), .ar .i64 .eql (.tmp 151) (.tmp 152), none⟩,
  ⟨(some 154), .mov (.tmp 153), none⟩,
  ⟨(some 155), .mov (.tmp 27), (some (154, true))⟩,
  ⟨(some 156), .mov (.tmp 10), (some (154, true))⟩,
  ⟨(some 157), .ar .i64 .eql (.tmp 155) (.tmp 156), (some (154, true))⟩,
  ⟨(some 158), .pick (.tmp 154) (.tmp 157) (.const (.bool false)), none⟩,
  ⟨(some 159), .mov (.tmp 158), none⟩,
  ⟨(some 160), .mov (.tmp 29), (some (159, true))⟩,
  ⟨(some 161), .mov (.tmp 10), (some (159, true))⟩,
  ⟨(some 162), .ar .i64 .eql (.tmp 160) (.tmp 161), (some (159, true))⟩,
  ⟨(some 163), .pick (.tmp 159) (.tmp 162) (.const (.bool false)), none⟩,
  ⟨(some 164), .mov (.tmp 163), none⟩,
  ⟨(some 165), .mov (.tmp 24), (some (164, true))⟩,
  ⟨(some 166), .lenS (.tmp 165), (some (164, true))⟩,
  ⟨(some 167), .mov (.tmp 26), (some (164, true))⟩,
  ⟨(some 168), .ar .i64 .add (.tmp 166) (.tmp 167), (some (164, true))⟩,
  ⟨(some 169), .mov (.tmp 28), (some (164, true))⟩,
  ⟨(some 170), .lenS (.tmp 169), (some (164, true))⟩,
  ⟨(some 171), .ar .i64 .add (.tmp 168) (.tmp 170), (some (164, true))⟩,
  ⟨(some 172), .ar .i64 .eql (.tmp 171) (.const (.int .i64 0)), (some (164, true))⟩,
  ⟨(some 173), .pick (.tmp 164) (.tmp 172) (.const (.bool false)), none⟩,
  ⟨(some 174), .mov (.tmp 173), none⟩,
  ⟨(some 175), .call 27 [], (some (174, true))⟩,
  ⟨(some 176), .pick (.tmp 174) (.tmp 175) (.const (.bool false)), none⟩,
  ⟨(some 6), .mov (.tmp 176), none⟩])
 .ret))))
 .skip))
 (.seq (.ops [⟨(some 178), .mov (.tmp 7), none⟩,
  ⟨(some 179), .mov (.tmp 9), none⟩,
  ⟨(some 180), .mov (.tmp 17), none⟩,
  ⟨(some 181), .lenS (.tmp 180), none⟩,
  ⟨(some 182), .call 26 [(.tmp 178), (.tmp 179), (.tmp 181)], none⟩,
  ⟨(some 177), .mov (.tmp 182), none⟩,
  ⟨(some 183), .ext (.tmp 177) 0, none⟩,
  ⟨(some 184), .ext (.tmp 177) 1, none⟩,
  ⟨(some 30), .mov (.tmp 183), none⟩,
  ⟨(some 31), .mov (.tmp 184), none⟩])
 (.seq (.ops [⟨(some 186), .mov (.tmp 7), none⟩,
  ⟨(some 187), .mov (.tmp 9), none⟩,
  ⟨(some 188), .call 26 [(.tmp 186), (.tmp 187), (.const (.int .i64 (-1)))], none⟩,
  ⟨(some 185), .mov (.tmp 188), none⟩,
  ⟨(some 189), .ext (.tmp 185) 0, none⟩,
  ⟨(some 190), .ext (.tmp 185) 1, none⟩,
  ⟨(some 32), .mov (.tmp 189), none⟩,
  ⟨(some 33), .mov (.tmp 190), none⟩])
 (.seq (.ops [⟨(some 191), .mov (.tmp 31), none⟩,
  ⟨(some 192), .ar .i64 .eql (.tmp 191) (.const (.int .i64 1)), none⟩,
  ⟨(some 193), .mov (.tmp 192), none⟩,
  ⟨(some 194), .mov (.tmp 33), (some (193, true))⟩,
  ⟨(some 195), .ar .i64 .eql (.tmp 194) (.const (.int .i64 1)), (some (193, true))⟩,
  ⟨(some 196), .pick (.tmp 193) (.tmp 195) (.const (.bool false)), none⟩,
  ⟨(some 197), .mov (.tmp 196), none⟩,
  ⟨(some 198), .mov (.tmp 30), (some (197, true))⟩,
  ⟨(some 199), .lenS (.tmp 198), (some (197, true))⟩,
  ⟨(some 200), .mov (.tmp 32), (some (197, true))⟩,
  ⟨(some 201), .lenS (.tmp 200), (some (197, true))⟩,
  ⟨(some 202), .ar .i64 .add (.tmp 199) (.tmp 201), (some (197, true))⟩,
  ⟨(some 203), .ar .i64 .eql (.tmp 202) (.const (.int .i64 0)), (some (197, true))⟩,
  ⟨(some 204), .pick (.tmp 197) (.tmp 203) (.const (.bool false)), none⟩,
  ⟨(some 205), .mov (.tmp 204), none⟩,
  ⟨(some 206), .call 27 [], (some (205, true))⟩,
  ⟨(some 207), .pick (.tmp 205) (.tmp 206) (.const (.bool false)), none⟩,
  ⟨(some 6), .mov (.tmp 207), none⟩])
 .ret)))))))))))))
theorem enter3 {xs : List Value} {h : Hp} {Q : Value → Hp → Prop} (hl : xs.length ≤ 208) (w : wq E 208 none c3 (frameOf xs) h [] (leaveQ E [.tmp 6] Q)) : CallP E 3 xs h Q :=
  CallP.enterQ (fn := Try.f3) (fn_get Try.func3) (code := Try.f3.body.get rfl) rfl rfl rfl (by kernel_rfl) rfl (fun _ => rfl) hl w
theorem can3 : callable E 3 = true := callable_get Try.func3 rfl rfl

/-- tosher/tosherlaw08.SearchPlans -/
def c4 : C := (.seq (.ops [⟨(some 6), .mov (.const (.bool false)), none⟩])
 (.seq (.ops [⟨(some 23), .mov (.tmp 0), none⟩,
  ⟨(some 24), .call 28 [(.tmp 23)], none⟩,
  ⟨(some 7), .mov (.tmp 24), none⟩])
 (.seq (.ops [⟨(some 25), .mov (.tmp 1), none⟩,
  ⟨(some 26), .mov (.tmp 7), none⟩,
  ⟨(some 27), .lenS (.tmp 26), none⟩,
  ⟨(some 28), .call 29 [(.tmp 25), (.tmp 27)], none⟩,
  ⟨(some 8), .mov (.tmp 28), none⟩])
 (.seq (.ops [⟨(some 29), .mov (.tmp 2), none⟩,
  ⟨(some 30), .call 16 [(.tmp 29), (.const (.int .i64 13))], none⟩,
  ⟨(some 9), .mov (.tmp 30), none⟩])
 (.seq (.seq (.ops [⟨(some 10), .mov (.const (.int .i64 0)), none⟩])
 (.block 0 (.loop (.seq (.seq (.ops [⟨(some 31), .mov (.tmp 10), none⟩,
  ⟨(some 32), .ar .i64 .lss (.tmp 31) (.const (.int .i64 2)), none⟩])
 (.cond (.tmp 32) .skip
 (.exit 0)))
 (.seq (.block 1 (.seq (.ops [⟨(some 36), .mov (.tmp 7), none⟩,
  ⟨(some 37), .mov (.tmp 9), none⟩,
  ⟨(some 38), .call 19 [(.tmp 36), (.tmp 37)], none⟩,
  ⟨(some 35), .mov (.tmp 38), none⟩,
  ⟨(some 39), .ext (.tmp 35) 0, none⟩,
  ⟨(some 40), .ext (.tmp 35) 1, none⟩,
  ⟨(some 11), .mov (.tmp 39), none⟩,
  ⟨(some 12), .mov (.tmp 40), none⟩])
 (.seq (.ops [⟨(some 42), .mov (.tmp 7), none⟩,
  ⟨(some 43), .lenS (.tmp 42), none⟩,
  ⟨(some 44), .mov (.tmp 9), none⟩,
  ⟨(some 45), .call 21 [(.tmp 43), (.tmp 44)], none⟩,
  ⟨(some 41), .mov (.tmp 45), none⟩,
  ⟨(some 46), .ext (.tmp 41) 0, none⟩,
  ⟨(some 47), .ext (.tmp 41) 1, none⟩,
  ⟨(some 13), .mov (.tmp 46), none⟩,
  ⟨(some 14), .mov (.tmp 47), none⟩])
 (.seq (.seq (.ops [⟨(some 48), .mov (.tmp 12), none⟩,
  ⟨(some 49), .ar .i64 .neq (.tmp 48) (.const (.int .i64 0)), none⟩,
  ⟨(some 50), .mov (.tmp 49), none⟩,
  ⟨(some 51), .mov (.tmp 11), (some (50, false))⟩,
  ⟨(some 52), .mov (.tmp 14), (some (50, false))⟩,
  ⟨(some 53), .raw (.binOp .neq 4 (.tmp 51) (.tmp 52) 4) 4, (some (50, false))⟩,
  ⟨(some 54), .pick (.tmp 50) (.const (.bool true)) (.tmp 53), none⟩])
 (.cond (.tmp 54) (.seq (.ops [⟨(some 6), .mov (.const (.bool false)), none⟩])
 .ret)
 .skip))
 (.seq (.seq (.ops [⟨(some 55), .mov (.tmp 14), none⟩])
 (.cond (.tmp 55) (.seq (.ops [⟨(some 56), .mov (.tmp 7), none⟩,
  ⟨(some 57), .mov (.tmp 13), none⟩,
  ⟨(some 58), .call 30 [(.tmp 56), (.tmp 57)], none⟩,
  ⟨(some 15), .mov (.tmp 58), none⟩])
 (.seq (.ops [⟨(some 60), .mov (.tmp 7), none⟩,
  ⟨(some 61), .mov (.tmp 9), none⟩,
  ⟨(some 62), .call 25 [(.tmp 60), (.tmp 61)], none⟩,
  ⟨(some 59), .mov (.tmp 62), none⟩,
  ⟨(some 63), .ext (.tmp 59) 0, none⟩,
  ⟨(some 64), .ext (.tmp 59) 1, none⟩,
  ⟨(some 16), .mov (.tmp 63), none⟩,
  ⟨(some 17), .mov (.tmp 64), none⟩])
 (.seq (.ops [⟨(some 66), .mov (.tmp 7), none⟩,
  ⟨(some 67), .mov (.tmp 8), none⟩,
  ⟨(some 68), .mov (.tmp 9), none⟩,
  ⟨(some 69), .call 24 [(.tmp 66), (.tmp 67), (.tmp 68)], none⟩,
  ⟨(some 65), .mov (.tmp 69), none⟩,
  ⟨(some 70), .ext (.tmp 65) 0, none⟩,
  ⟨(some 71), .ext (.tmp 65) 1, none⟩,
  ⟨(some 18), .mov (.tmp 70), none⟩,
  ⟨(some 19), .mov (.tmp 71), none⟩])
 (.seq (.seq (.ops [⟨(some 72), .mov (.tmp 17), none⟩,
  ⟨(some 73), .ar .i64 .neq (.tmp 72) (.const (.int .i64 0)), none⟩,
  ⟨(some 74), .mov (.tmp 73), none⟩,
  ⟨(some 75), .mov (.tmp 16), (some (74, false))⟩,
  ⟨(some 76), .mov (.tmp 15), (some (74, false))⟩,
  ⟨(some 77), .call 31 [(.tmp 75), (.tmp 76)], (some (74, false))⟩,
  ⟨(some 78), .not (.tmp 77), (some (74, false))⟩,
  ⟨(some 79), .pick (.tmp 74) (.const (.bool true)) (.tmp 78), none⟩,
  ⟨(some 80), .mov (.tmp 79), none⟩,
  ⟨(some 81), .mov (.tmp 19), (some (80, false))⟩,
  ⟨(some 82), .ar .i64 .neq (.tmp 81) (.const (.int .i64 0)), (some (80, false))⟩,
  ⟨(some 83), .pick (.tmp 80) (.const (.bool true)) (.tmp 82), none⟩,
  ⟨(some 84), .mov (.tmp 83), none⟩,
  ⟨(some 85), .mov (.tmp 18), (some (84, false))⟩,
  ⟨(some 86), .mov (.tmp 8), (some (84, false))⟩,
  ⟨(some 87), .mov (.tmp 15), (some (84, false))⟩,
  ⟨(some 88), .call 32 [(.tmp 86), (.tmp 87)], (some (84, false))⟩,
  ⟨(some 89), .ar .i64 .neq (.tmp 85) (.tmp 88), (some (84, false))⟩,
  ⟨(some 90), .pick (.tmp 84) (.const (.bool true)) (.tmp 89), none⟩])
 (.cond (.tmp 90) (.seq (.ops [⟨(some 6), .mov (.const (.bool false)), none⟩])
 .ret)
 .skip))
 (.seq (.ops [⟨(some 20), .mov (.const (.int .i64 0)), none⟩])
 (.block 2 (.loop (.seq (.seq (.ops [⟨(some 91), .mov (.tmp 20), none⟩,
  ⟨(some 92), .mov (.tmp 13), none⟩,
  ⟨(some 93), .lenS (.tmp 92), none⟩,
  ⟨(some 94), .ar .i64 .lss (.tmp 91) (.tmp 93), none⟩])
 (.cond (.tmp 94) .skip
 (.exit 2)))
 (.seq (.block 3 (.seq (.ops [⟨(some 98), .mov (.tmp 7), none⟩,
  ⟨(some 99), .mov (.tmp 9), none⟩,
  ⟨(some 100), .mov (.tmp 20), none⟩,
  ⟨(some 101), .call 26 [(.tmp 98), (.tmp 99), (.tmp 100)], none⟩,
  ⟨(some 97), .mov (.tmp 101), none⟩,
  ⟨(some 102), .ext (.tmp 97) 0, none⟩,
  ⟨(some 103), .ext (.tmp 97) 1, none⟩,
  ⟨(some 21), .mov (.tmp 102), none⟩,
  ⟨(some 22), .mov (.tmp 103), none⟩])
 (.seq (.ops [⟨(some 104), .mov (.tmp 22), none⟩,
  ⟨(some 105), .ar .i64 .neq (.tmp 104) (.const (.int .i64 0)), none⟩,
  ⟨(some 106), .mov (.tmp 105), none⟩,
  ⟨(some 107), .mov (.tmp 21), (some (106, false))⟩,
  ⟨(some 108), .mov (.tmp 13), (some (106, false))⟩,
  ⟨(some 109), .mov (.tmp 20), (some (106, false))⟩,
  ⟨(some 110), .idxS 1 (.tmp 108) (.tmp 109), (some (106, false))⟩,
  ⟨(some 111), .load1 (.tmp 110), (some (106, false))⟩,
  ⟨(some 112), .call 31 [(.tmp 107), (.tmp 111)], (some (106, false))⟩,
  ⟨(some 113), .not (.tmp 112), (some (106, false))⟩,
  ⟨(some 114), .pick (.tmp 106) (.const (.bool true)) (.tmp 113), none⟩])
 (.cond (.tmp 114) (.seq (.ops [⟨(some 6), .mov (.const (.bool false)), none⟩])
 .ret)
 .skip))))
 (.ops [⟨(some 95), .mov (.tmp 20), none⟩,
  ⟨(some 96), .ar .i64 .add (.tmp 95) (.const (.int .i64 1)), none⟩,
  ⟨(some 20), .mov (.tmp 96), none⟩]))))))))))
 .skip))
 (.ops [⟨(some 115), .mov (.tmp 2), none⟩,
  ⟨(some 116), .mov (.tmp 7), none⟩,
  ⟨(some 117), .lenS (.tmp 116), none⟩,
  ⟨(some 118), .call 33 [(.tmp 115), (.const (.int .i64 0)), (.tmp 117)], none⟩,
  ⟨(some 9), .mov (.tmp 118), none⟩]))))))
 (.ops [⟨(some 33), .mov (.tmp 10), none⟩,
  ⟨(some 34), .ar .i64 .add (.tmp 33) (.const (.int .i64 1)), none⟩,
  ⟨(some 10), .mov (.tmp 34), none⟩]))))))
 (.seq (.ops [⟨(some 119), .call 27 [], none⟩,
  ⟨(some 6), .mov (.tmp 119), none⟩])
 .ret))))))
theorem enter4 {xs : List Value} {h : Hp} {Q : Value → Hp → Prop} (hl : xs.length ≤ 120) (w : wq E 120 none c4 (frameOf xs) h [] (leaveQ E [.tmp 6] Q)) : CallP E 4 xs h Q :=
  CallP.enterQ (fn := Try.f4) (fn_get Try.func4) (code := Try.f4.body.get rfl) rfl rfl rfl (by kernel_rfl) rfl (fun _ => rfl) hl w
theorem can4 : callable E 4 = true := callable_get Try.func4 rfl rfl

/-- tosher/tosherlaw08.SearchBests -/
def c5 : C := (.seq (.ops [⟨(some 4), .mov (.const (.bool false)), none⟩])
 (.seq (.ops [⟨(some 17), .mov (.tmp 0), none⟩,
  ⟨(some 18), .call 28 [(.tmp 17)], none⟩,
  ⟨(some 5), .mov (.tmp 18), none⟩])
 (.seq (.ops [⟨(some 19), .mov (.tmp 1), none⟩,
  ⟨(some 20), .mov (.tmp 5), none⟩,
  ⟨(some 21), .lenS (.tmp 20), none⟩,
  ⟨(some 22), .call 29 [(.tmp 19), (.tmp 21)], none⟩,
  ⟨(some 6), .mov (.tmp 22), none⟩])
 (.seq (.ops [⟨(some 24), .mov (.tmp 5), none⟩,
  ⟨(some 25), .call 20 [(.tmp 24)], none⟩,
  ⟨(some 23), .mov (.tmp 25), none⟩,
  ⟨(some 26), .ext (.tmp 23) 0, none⟩,
  ⟨(some 27), .ext (.tmp 23) 1, none⟩,
  ⟨(some 28), .ext (.tmp 23) 2, none⟩,
  ⟨(some 7), .mov (.tmp 26), none⟩,
  ⟨(some 8), .mov (.tmp 27), none⟩,
  ⟨(some 9), .mov (.tmp 28), none⟩])
 (.seq (.ops [⟨(some 30), .mov (.tmp 5), none⟩,
  ⟨(some 31), .mov (.tmp 6), none⟩,
  ⟨(some 32), .call 23 [(.tmp 30), (.tmp 31)], none⟩,
  ⟨(some 29), .mov (.tmp 32), none⟩,
  ⟨(some 33), .ext (.tmp 29) 0, none⟩,
  ⟨(some 34), .ext (.tmp 29) 1, none⟩,
  ⟨(some 35), .ext (.tmp 29) 2, none⟩,
  ⟨(some 10), .mov (.tmp 33), none⟩,
  ⟨(some 11), .mov (.tmp 34), none⟩,
  ⟨(some 12), .mov (.tmp 35), none⟩])
 (.seq (.ops [⟨(some 37), .mov (.tmp 5), none⟩,
  ⟨(some 38), .lenS (.tmp 37), none⟩,
  ⟨(some 39), .mov (.tmp 8), none⟩,
  ⟨(some 40), .call 21 [(.tmp 38), (.tmp 39)], none⟩,
  ⟨(some 36), .mov (.tmp 40), none⟩,
  ⟨(some 41), .ext (.tmp 36) 0, none⟩,
  ⟨(some 42), .ext (.tmp 36) 1, none⟩,
  ⟨(some 13), .mov (.tmp 41), none⟩,
  ⟨(some 14), .mov (.tmp 42), none⟩])
 (.seq (.ops [⟨(some 44), .mov (.tmp 5), none⟩,
  ⟨(some 45), .lenS (.tmp 44), none⟩,
  ⟨(some 46), .mov (.tmp 11), none⟩,
  ⟨(some 47), .call 21 [(.tmp 45), (.tmp 46)], none⟩,
  ⟨(some 43), .mov (.tmp 47), none⟩,
  ⟨(some 48), .ext (.tmp 43) 0, none⟩,
  ⟨(some 49), .ext (.tmp 43) 1, none⟩,
  ⟨(some 15), .mov (.tmp 48), none⟩,
  ⟨(some 16), .mov (.tmp 49), none⟩])
 (.seq (.ops [⟨(some 50), .mov (.tmp 9), none⟩,
  ⟨(some 51), .ar .i64 .eql (.tmp 50) (.const (.int .i64 0)), none⟩,
  ⟨(some 52), .mov (.tmp 51), none⟩,
  ⟨(some 53), .mov (.tmp 12), (some (52, true))⟩,
  ⟨(some 54), .ar .i64 .eql (.tmp 53) (.const (.int .i64 0)), (some (52, true))⟩,
  ⟨(some 55), .pick (.tmp 52) (.tmp 54) (.const (.bool false)), none⟩,
  ⟨(some 56), .mov (.tmp 55), none⟩,
  ⟨(some 57), .mov (.tmp 14), (some (56, true))⟩,
  ⟨(some 58), .pick (.tmp 56) (.tmp 57) (.const (.bool false)), none⟩,
  ⟨(some 59), .mov (.tmp 58), none⟩,
  ⟨(some 60), .mov (.tmp 16), (some (59, true))⟩,
  ⟨(some 61), .pick (.tmp 59) (.tmp 60) (.const (.bool false)), none⟩,
  ⟨(some 62), .mov (.tmp 61), none⟩,
  ⟨(some 63), .mov (.tmp 7), (some (62, true))⟩,
  ⟨(some 64), .mov (.tmp 5), (some (62, true))⟩,
  ⟨(some 65), .mov (.tmp 5), (some (62, true))⟩,
  ⟨(some 66), .lenS (.tmp 65), (some (62, true))⟩,
  ⟨(some 67), .call 34 [(.tmp 64), (.const (.slice none 0 0)), (.const (.int .i64 0)), (.tmp 66)], (some (62, true))⟩,
  ⟨(some 68), .ar .i64 .eql (.tmp 63) (.tmp 67), (some (62, true))⟩,
  ⟨(some 69), .pick (.tmp 62) (.tmp 68) (.const (.bool false)), none⟩,
  ⟨(some 70), .mov (.tmp 69), none⟩,
  ⟨(some 71), .mov (.tmp 7), (some (70, true))⟩,
  ⟨(some 72), .mov (.tmp 5), (some (70, true))⟩,
  ⟨(some 73), .mov (.tmp 13), (some (70, true))⟩,
  ⟨(some 74), .call 30 [(.tmp 72), (.tmp 73)], (some (70, true))⟩,
  ⟨(some 75), .call 35 [(.tmp 74)], (some (70, true))⟩,
  ⟨(some 76), .ar .i64 .eql (.tmp 71) (.tmp 75), (some (70, true))⟩,
  ⟨(some 77), .pick (.tmp 70) (.tmp 76) (.const (.bool false)), none⟩,
  ⟨(some 78), .mov (.tmp 77), none⟩,
  ⟨(some 79), .mov (.tmp 10), (some (78, true))⟩,
  ⟨(some 80), .mov (.tmp 5), (some (78, true))⟩,
  ⟨(some 81), .mov (.tmp 6), (some (78, true))⟩,
  ⟨(some 82), .mov (.tmp 5), (some (78, true))⟩,
  ⟨(some 83), .lenS (.tmp 82), (some (78, true))⟩,
  ⟨(some 84), .call 34 [(.tmp 80), (.tmp 81), (.const (.int .i64 0)), (.tmp 83)], (some (78, true))⟩,
  ⟨(some 85), .ar .i64 .eql (.tmp 79) (.tmp 84), (some (78, true))⟩,
  ⟨(some 86), .pick (.tmp 78) (.tmp 85) (.const (.bool false)), none⟩,
  ⟨(some 87), .mov (.tmp 86), none⟩,
  ⟨(some 88), .mov (.tmp 10), (some (87, true))⟩,
  ⟨(some 89), .mov (.tmp 6), (some (87, true))⟩,
  ⟨(some 90), .mov (.tmp 5), (some (87, true))⟩,
  ⟨(some 91), .mov (.tmp 15), (some (87, true))⟩,
  ⟨(some 92), .call 30 [(.tmp 90), (.tmp 91)], (some (87, true))⟩,
  ⟨(some 93), .call 32 [(.tmp 89), (.tmp 92)], (some (87, true))⟩,
  ⟨(some 94), .ar .i64 .eql (.tmp 88) (.tmp 93), (some (87, true))⟩,
  ⟨(some 95), .pick (.tmp 87) (.tmp 94) (.const (.bool false)), none⟩,
  ⟨(some 96), .mov (.tmp 95), none⟩,
  ⟨(some 97), .call 27 [], (some (96, true))⟩,
  ⟨(some 98), .pick (.tmp 96) (.tmp 97) (.const (.bool false)), none⟩,
  ⟨(some 4), .mov (.tmp 98), none⟩])
 .ret))))))))
theorem enter5 {xs : List Value} {h : Hp} {Q : Value → Hp → Prop} (hl : xs.length ≤ 99) (w : wq E 99 none c5 (frameOf xs) h [] (leaveQ E [.tmp 4] Q)) : CallP E 5 xs h Q :=
  CallP.enterQ (fn := Try.f5) (fn_get Try.func5) (code := Try.f5.body.get rfl) rfl rfl rfl (by kernel_rfl) rfl (fun _ => rfl) hl w
theorem can5 : callable E 5 = true := callable_get Try.func5 rfl rfl

/-- tosher/tosherlaw08.SearchCounts -/
def c6 : C := (.seq (.ops [⟨(some 2), .mov (.const (.bool false)), none⟩])
 (.seq (.seq (.ops [⟨(some 3), .mov (.const (.int .i64 0)), none⟩])
 (.block 0 (.loop (.seq (.seq (.ops [⟨(some 6), .mov (.tmp 3), none⟩,
  ⟨(some 7), .ar .i64 .lss (.tmp 6) (.const (.int .i64 2)), none⟩])
 (.cond (.tmp 7) .skip
 (.exit 0)))
 (.seq (.block 1 (.seq (.ops [⟨(some 11), .mov (.tmp 0), none⟩,
  ⟨(some 12), .call 36 [(.tmp 11)], none⟩,
  ⟨(some 10), .mov (.tmp 12), none⟩,
  ⟨(some 13), .ext (.tmp 10) 0, none⟩,
  ⟨(some 14), .ext (.tmp 10) 1, none⟩,
  ⟨(some 4), .mov (.tmp 13), none⟩,
  ⟨(some 5), .mov (.tmp 14), none⟩])
 (.seq (.seq (.ops [⟨(some 15), .mov (.tmp 0), none⟩,
  ⟨(some 16), .ar .i64 .lss (.tmp 15) (.const (.int .i64 0)), none⟩,
  ⟨(some 17), .mov (.tmp 16), none⟩,
  ⟨(some 18), .mov (.tmp 0), (some (17, false))⟩,
  ⟨(some 19), .ar .i64 .gtr (.tmp 18) (.const (.int .i64 30)), (some (17, false))⟩,
  ⟨(some 20), .pick (.tmp 17) (.const (.bool true)) (.tmp 19), none⟩])
 (.cond (.tmp 20) (.seq (.ops [⟨(some 21), .mov (.tmp 5), none⟩,
  ⟨(some 22), .ar .i64 .neq (.tmp 21) (.const (.int .i64 1)), none⟩,
  ⟨(some 23), .mov (.tmp 22), none⟩,
  ⟨(some 24), .mov (.tmp 4), (some (23, false))⟩,
  ⟨(some 25), .ar .i64 .neq (.tmp 24) (.const (.int .i64 0)), (some (23, false))⟩,
  ⟨(some 26), .pick (.tmp 23) (.const (.bool true)) (.tmp 25), none⟩])
 (.cond (.tmp 26) (.seq (.ops [⟨(some 2), .mov (.const (.bool false)), none⟩])
 .ret)
 .skip))
 (.seq (.ops [⟨(some 27), .mov (.tmp 5), none⟩,
  ⟨(some 28), .ar .i64 .neq (.tmp 27) (.const (.int .i64 0)), none⟩,
  ⟨(some 29), .mov (.tmp 28), none⟩,
  ⟨(some 30), .mov (.tmp 4), (some (29, false))⟩,
  ⟨(some 31), .mov (.tmp 0), (some (29, false))⟩,
  ⟨(some 32), .call 37 [(.tmp 31)], (some (29, false))⟩,
  ⟨(some 33), .ar .i64 .neq (.tmp 30) (.tmp 32), (some (29, false))⟩,
  ⟨(some 34), .pick (.tmp 29) (.const (.bool true)) (.tmp 33), none⟩])
 (.cond (.tmp 34) (.seq (.ops [⟨(some 2), .mov (.const (.bool false)), none⟩])
 .ret)
 .skip))))
 (.ops [⟨(some 35), .mov (.tmp 0), none⟩,
  ⟨(some 36), .cint .u64 (.tmp 35), none⟩,
  ⟨(some 37), .ar .u64 .rem (.tmp 36) (.const (.int .u64 31)), none⟩,
  ⟨(some 38), .cint .i64 (.tmp 37), none⟩,
  ⟨(some 0), .mov (.tmp 38), none⟩]))))
 (.ops [⟨(some 8), .mov (.tmp 3), none⟩,
  ⟨(some 9), .ar .i64 .add (.tmp 8) (.const (.int .i64 1)), none⟩,
  ⟨(some 3), .mov (.tmp 9), none⟩]))))))
 (.seq (.ops [⟨(some 39), .call 27 [], none⟩,
  ⟨(some 2), .mov (.tmp 39), none⟩])
 .ret)))
theorem enter6 {xs : List Value} {h : Hp} {Q : Value → Hp → Prop} (hl : xs.length ≤ 40) (w : wq E 40 none c6 (frameOf xs) h [] (leaveQ E [.tmp 2] Q)) : CallP E 6 xs h Q :=
  CallP.enterQ (fn := Try.f6) (fn_get Try.func6) (code := Try.f6.body.get rfl) rfl rfl rfl (by kernel_rfl) rfl (fun _ => rfl) hl w
theorem can6 : callable E 6 = true := callable_get Try.func6 rfl rfl

/-- tosher/tosherlaw08.SearchTrees -/
def c7 : C := (.seq (.ops [⟨(some 4), .mov (.const (.bool false)), none⟩])
 (.seq (.ops [⟨(some 16), .mov (.tmp 1), none⟩,
  ⟨(some 17), .call 38 [(.tmp 16)], none⟩,
  ⟨(some 5), .mov (.tmp 17), none⟩])
 (.seq (.ops [⟨(some 18), .mov (.tmp 0), none⟩,
  ⟨(some 19), .mov (.tmp 5), none⟩,
  ⟨(some 20), .call 39 [(.tmp 18), (.tmp 19)], none⟩,
  ⟨(some 6), .mov (.tmp 20), none⟩])
 (.seq (.seq (.ops [⟨(some 21), .mov (.tmp 0), none⟩,
  ⟨(some 22), .mov (.tmp 5), none⟩,
  ⟨(some 23), .call 40 [(.tmp 21), (.tmp 22)], none⟩,
  ⟨(some 24), .mov (.tmp 6), none⟩,
  ⟨(some 25), .ar .i64 .neq (.tmp 23) (.tmp 24), none⟩])
 (.cond (.tmp 25) (.seq (.ops [⟨(some 4), .mov (.const (.bool false)), none⟩])
 .ret)
 .skip))
 (.seq (.seq (.ops [⟨(some 26), .mov (.tmp 6), none⟩,
  ⟨(some 27), .ar .i64 .eql (.tmp 26) (.const (.int .i64 0)), none⟩])
 (.cond (.tmp 27) (.seq (.ops [⟨(some 28), .call 27 [], none⟩,
  ⟨(some 4), .mov (.tmp 28), none⟩])
 .ret)
 .skip))
 (.seq (.ops [⟨(some 30), .mov (.tmp 0), none⟩,
  ⟨(some 31), .mov (.tmp 5), none⟩,
  ⟨(some 32), .call 41 [(.tmp 30), (.tmp 31)], none⟩,
  ⟨(some 29), .mov (.tmp 32), none⟩,
  ⟨(some 33), .ext (.tmp 29) 0, none⟩,
  ⟨(some 34), .ext (.tmp 29) 1, none⟩,
  ⟨(some 7), .mov (.tmp 33), none⟩,
  ⟨(some 8), .mov (.tmp 34), none⟩])
 (.seq (.ops [⟨(some 36), .mov (.tmp 0), none⟩,
  ⟨(some 37), .mov (.tmp 5), none⟩,
  ⟨(some 38), .call 42 [(.tmp 36), (.tmp 37)], none⟩,
  ⟨(some 35), .mov (.tmp 38), none⟩,
  ⟨(some 39), .ext (.tmp 35) 0, none⟩,
  ⟨(some 40), .ext (.tmp 35) 1, none⟩,
  ⟨(some 9), .mov (.tmp 39), none⟩,
  ⟨(some 10), .mov (.tmp 40), none⟩])
 (.seq (.ops [⟨(some 42), .mov (.tmp 0), none⟩,
  ⟨(some 43), .mov (.tmp 5), none⟩,
  ⟨(some 44), .call 43 [(.tmp 42), (.tmp 43), (.const (.slice none 0 0))], none⟩,
  ⟨(some 41), .mov (.tmp 44), none⟩,
  ⟨(some 45), .ext (.tmp 41) 0, none⟩,
  ⟨(some 46), .ext (.tmp 41) 1, none⟩,
  ⟨(some 11), .mov (.tmp 45), none⟩,
  ⟨(some 12), .mov (.tmp 46), none⟩])
 (.seq (.ops [⟨(some 48), .mov (.tmp 0), none⟩,
  ⟨(some 49), .mov (.tmp 5), none⟩,
  ⟨(some 50), .call 44 [(.tmp 48), (.tmp 49)], none⟩,
  ⟨(some 47), .mov (.tmp 50), none⟩,
  ⟨(some 51), .ext (.tmp 47) 0, none⟩,
  ⟨(some 52), .ext (.tmp 47) 1, none⟩,
  ⟨(some 53), .ext (.tmp 47) 2, none⟩,
  ⟨(some 13), .mov (.tmp 51), none⟩,
  ⟨(some 14), .mov (.tmp 52), none⟩,
  ⟨(some 15), .mov (.tmp 53), none⟩])
 (.seq (.ops [⟨(some 54), .mov (.tmp 8), none⟩,
  ⟨(some 55), .mov (.tmp 6), none⟩,
  ⟨(some 56), .ar .i64 .eql (.tmp 54) (.tmp 55), none⟩,
  ⟨(some 57), .mov (.tmp 56), none⟩,
  ⟨(some 58), .mov (.tmp 10), (some (57, true))⟩,
  ⟨(some 59), .mov (.tmp 6), (some (57, true))⟩,
  ⟨(some 60), .ar .i64 .eql (.tmp 58) (.tmp 59), (some (57, true))⟩,
  ⟨(some 61), .pick (.tmp 57) (.tmp 60) (.const (.bool false)), none⟩,
  ⟨(some 62), .mov (.tmp 61), none⟩,
  ⟨(some 63), .mov (.tmp 12), (some (62, true))⟩,
  ⟨(some 64), .mov (.tmp 6), (some (62, true))⟩,
  ⟨(some 65), .ar .i64 .eql (.tmp 63) (.tmp 64), (some (62, true))⟩,
  ⟨(some 66), .pick (.tmp 62) (.tmp 65) (.const (.bool false)), none⟩,
  ⟨(some 67), .mov (.tmp 66), none⟩,
  ⟨(some 68), .mov (.tmp 15), (some (67, true))⟩,
  ⟨(some 69), .mov (.tmp 6), (some (67, true))⟩,
  ⟨(some 70), .ar .i64 .eql (.tmp 68) (.tmp 69), (some (67, true))⟩,
  ⟨(some 71), .pick (.tmp 67) (.tmp 70) (.const (.bool false)), none⟩,
  ⟨(some 72), .mov (.tmp 71), none⟩,
  ⟨(some 73), .mov (.tmp 11), (some (72, true))⟩,
  ⟨(some 74), .not (.tmp 73), (some (72, true))⟩,
  ⟨(some 75), .pick (.tmp 72) (.tmp 74) (.const (.bool false)), none⟩,
  ⟨(some 76), .mov (.tmp 75), none⟩,
  ⟨(some 77), .mov (.tmp 7), (some (76, true))⟩,
  ⟨(some 78), .mov (.tmp 9), (some (76, true))⟩,
  ⟨(some 79), .lenS (.tmp 78), (some (76, true))⟩,
  ⟨(some 80), .ar .i64 .add (.tmp 77) (.tmp 79), (some (76, true))⟩,
  ⟨(some 81), .mov (.tmp 13), (some (76, true))⟩,
  ⟨(some 82), .ar .i64 .add (.tmp 80) (.tmp 81), (some (76, true))⟩,
  ⟨(some 83), .mov (.tmp 14), (some (76, true))⟩,
  ⟨(some 84), .ar .i64 .add (.tmp 82) (.tmp 83), (some (76, true))⟩,
  ⟨(some 85), .ar .i64 .eql (.tmp 84) (.const (.int .i64 0)), (some (76, true))⟩,
  ⟨(some 86), .pick (.tmp 76) (.tmp 85) (.const (.bool false)), none⟩,
  ⟨(some 87), .mov (.tmp 86), none⟩,
  ⟨(some 88), .call 27 [], (some (87, true))⟩,
  ⟨(some 89), .pick (.tmp 87) (.tmp 88) (.const (.bool false)), none⟩,
  ⟨(some 4), .mov (.tmp 89), none⟩])
 .ret))))))))))
theorem enter7 {xs : List Value} {h : Hp} {Q : Value → Hp → Prop} (hl : xs.length ≤ 90) (w : wq E 90 none c7 (frameOf xs) h [] (leaveQ E [.tmp 4] Q)) : CallP E 7 xs h Q :=
  CallP.enterQ (fn := Try.f7) (fn_get Try.func7) (code := Try.f7.body.get rfl) rfl rfl rfl (by kernel_rfl) rfl (fun _ => rfl) hl w
theorem can7 : callable E 7 = true := callable_get Try.func7 rfl rfl

/-- tosher/tosherlaw08.SearchLamps -/
def c10 : C := (.seq (.ops [⟨(some 6), .mov (.const (.bool false)), none⟩])
 (.seq (.seq (.ops [⟨(some 7), .mov (.const (.int .i64 0)), none⟩])
 (.block 0 (.loop (.seq (.seq (.ops [⟨(some 15), .mov (.tmp 7), none⟩,
  ⟨(some 16), .ar .i64 .lss (.tmp 15) (.const (.int .i64 2)), none⟩])
 (.cond (.tmp 16) .skip
 (.exit 0)))
 (.seq (.block 1 (.seq (.ops [⟨(some 20), .mov (.tmp 0), none⟩,
  ⟨(some 21), .mov (.tmp 1), none⟩,
  ⟨(some 22), .call 49 [(.tmp 20), (.tmp 21)], none⟩,
  ⟨(some 19), .mov (.tmp 22), none⟩,
  ⟨(some 23), .ext (.tmp 19) 0, none⟩,
  ⟨(some 24), .ext (.tmp 19) 1, none⟩,
  ⟨(some 8), .mov (.tmp 23), none⟩,
  ⟨(some 9), .mov (.tmp 24), none⟩])
 (.seq (.seq (.ops [⟨(some 25), .mov (.tmp 0), none⟩,
  ⟨(some 26), .ar .i64 .lss (.tmp 25) (.const (.int .i64 0)), none⟩,
  ⟨(some 27), .mov (.tmp 26), none⟩,
  ⟨(some 28), .mov (.tmp 0), (some (27, false))⟩,
  ⟨(some 29), .ar .i64 .gtr (.tmp 28) (.const (.int .i64 20)), (some (27, false))⟩,
  ⟨(some 30), .pick (.tmp 27) (.const (.bool true)) (.tmp 29), none⟩,
  ⟨(some 31), .mov (.tmp 30), none⟩,
  ⟨(some 32), .mov (.tmp 1), (some (31, false))⟩,
  ⟨(some 33), .ar .i64 .lss (.tmp 32) (.const (.int .i64 0)), (some (31, false))⟩,
  ⟨(some 34), .pick (.tmp 31) (.const (.bool true)) (.tmp 33), none⟩,
  ⟨(some 35), .mov (.tmp 34), none⟩,
  ⟨(some 36), .mov (.tmp 1), (some (35, false))⟩,
  ⟨(some 37), .ar .i64 .gtr (.tmp 36) (.const (.int .i64 60)), (some (35, false))⟩,
  ⟨(some 38), .pick (.tmp 35) (.const (.bool true)) (.tmp 37), none⟩])
 (.cond (.tmp 38) (.seq (.ops [⟨(some 39), .mov (.tmp 9), none⟩,
  ⟨(some 40), .ar .i64 .neq (.tmp 39) (.const (.int .i64 1)), none⟩,
  ⟨(some 41), .mov (.tmp 40), none⟩,
  ⟨(some 42), .mov (.tmp 8), (some (41, false))⟩,
  ⟨(some 43), .ar .i64 .neq (.tmp 42) (.const (.int .i64 0)), (some (41, false))⟩,
  ⟨(some 44), .pick (.tmp 41) (.const (.bool true)) (.tmp 43), none⟩])
 (.cond (.tmp 44) (.seq (.ops [⟨(some 6), .mov (.const (.bool false)), none⟩])
 .ret)
 .skip))
 (.seq (.ops [⟨(some 45), .mov (.tmp 9), none⟩,
  ⟨(some 46), .ar .i64 .neq (.tmp 45) (.const (.int .i64 0)), none⟩,
  ⟨(some 47), .mov (.tmp 46), none⟩,
  ⟨(some 48), .mov (.tmp 8), (some (47, false))⟩,
  ⟨(some 49), .mov (.tmp 0), (some (47, false))⟩,
  ⟨(some 50), .mov (.tmp 1), (some (47, false))⟩,
  ⟨(some 51), .call 50 [(.tmp 49), (.tmp 50)], (some (47, false))⟩,
  ⟨(some 52), .ar .i64 .neq (.tmp 48) (.tmp 51), (some (47, false))⟩,
  ⟨(some 53), .pick (.tmp 47) (.const (.bool true)) (.tmp 52), none⟩])
 (.cond (.tmp 53) (.seq (.ops [⟨(some 6), .mov (.const (.bool false)), none⟩])
 .ret)
 .skip))))
 (.seq (.ops [⟨(some 55), .mov (.tmp 0), none⟩,
  ⟨(some 56), .mov (.tmp 2), none⟩,
  ⟨(some 57), .call 51 [(.tmp 55), (.tmp 56)], none⟩,
  ⟨(some 54), .mov (.tmp 57), none⟩,
  ⟨(some 58), .ext (.tmp 54) 0, none⟩,
  ⟨(some 59), .ext (.tmp 54) 1, none⟩,
  ⟨(some 10), .mov (.tmp 58), none⟩,
  ⟨(some 11), .mov (.tmp 59), none⟩])
 (.seq (.ops [⟨(some 61), .mov (.tmp 0), none⟩,
  ⟨(some 62), .mov (.tmp 2), none⟩,
  ⟨(some 63), .call 52 [(.tmp 61), (.tmp 62)], none⟩,
  ⟨(some 60), .mov (.tmp 63), none⟩,
  ⟨(some 64), .ext (.tmp 60) 0, none⟩,
  ⟨(some 65), .ext (.tmp 60) 1, none⟩,
  ⟨(some 12), .mov (.tmp 64), none⟩,
  ⟨(some 13), .mov (.tmp 65), none⟩])
 (.seq (.seq (.ops [⟨(some 66), .mov (.tmp 0), none⟩,
  ⟨(some 67), .ar .i64 .lss (.tmp 66) (.const (.int .i64 1)), none⟩,
  ⟨(some 68), .mov (.tmp 67), none⟩,
  ⟨(some 69), .mov (.tmp 0), (some (68, false))⟩,
  ⟨(some 70), .ar .i64 .gtr (.tmp 69) (.const (.int .i64 20)), (some (68, false))⟩,
  ⟨(some 71), .pick (.tmp 68) (.const (.bool true)) (.tmp 70), none⟩,
  ⟨(some 72), .mov (.tmp 71), none⟩,
  ⟨(some 73), .mov (.tmp 2), (some (72, false))⟩,
  ⟨(some 74), .ar .i64 .lss (.tmp 73) (.const (.int .i64 0)), (some (72, false))⟩,
  ⟨(some 75), .pick (.tmp 72) (.const (.bool true)) (.tmp 74), none⟩,
  ⟨(some 76), .mov (.tmp 75), none⟩,
  ⟨(some 77), .mov (.tmp 2), (some (76, false))⟩,
  ⟨(some 78), .ar .i64 .gtr (.tmp 77) (.const (.int .i64 1000000000000)), (some (76, false))⟩,
  ⟨(some 79), .pick (.tmp 76) (.const (.bool true)) (.tmp 78), none⟩])
 (.cond (.tmp 79) (.seq (.ops [⟨(some 80), .mov (.tmp 11), none⟩,
  ⟨(some 81), .ar .i64 .neq (.tmp 80) (.const (.int .i64 1)), none⟩,
  ⟨(some 82), .mov (.tmp 81), none⟩,
  ⟨(some 83), .mov (.tmp 13), (some (82, false))⟩,
  ⟨(some 84), .ar .i64 .neq (.tmp 83) (.const (.int .i64 1)), (some (82, false))⟩,
  ⟨(some 85), .pick (.tmp 82) (.const (.bool true)) (.tmp 84), none⟩,
  ⟨(some 86), .mov (.tmp 85), none⟩,
  ⟨(some 87), .mov (.tmp 10), (some (86, false))⟩,
  ⟨(some 88), .ar .i64 .neq (.tmp 87) (.const (.int .i64 0)), (some (86, false))⟩,
  ⟨(some 89), .pick (.tmp 86) (.const (.bool true)) (.tmp 88), none⟩,
  ⟨(some 90), .mov (.tmp 89), none⟩,
  ⟨(some 91), .mov (.tmp 12), (some (90, false))⟩,
  ⟨(some 92), .ar .i64 .neq (.tmp 91) (.const (.int .i64 0)), (some (90, false))⟩,
  ⟨(some 93), .pick (.tmp 90) (.const (.bool true)) (.tmp 92), none⟩])
 (.cond (.tmp 93) (.seq (.ops [⟨(some 6), .mov (.const (.bool false)), none⟩])
 .ret)
 .skip))
 (.seq (.ops [⟨(some 94), .mov (.tmp 0), none⟩,
  ⟨(some 95), .mov (.tmp 2), none⟩,
  ⟨(some 96), .call 53 [(.tmp 94), (.tmp 95)], none⟩,
  ⟨(some 14), .mov (.tmp 96), none⟩])
 (.seq (.seq (.ops [⟨(some 97), .mov (.tmp 14), none⟩,
  ⟨(some 98), .ar .i64 .lss (.tmp 97) (.const (.int .i64 0)), none⟩,
  ⟨(some 99), .mov (.tmp 98), none⟩,
  ⟨(some 100), .mov (.tmp 11), (some (99, true))⟩,
  ⟨(some 101), .ar .i64 .neq (.tmp 100) (.const (.int .i64 8)), (some (99, true))⟩,
  ⟨(some 102), .mov (.tmp 101), (some (99, true))⟩,
  ⟨(some 103), .mov (.tmp 10), (some (102, false))⟩,
  ⟨(some 104), .ar .i64 .neq (.tmp 103) (.const (.int .i64 0)), (some (102, false))⟩,
  ⟨(some 105), .pick (.tmp 102) (.const (.bool true)) (.tmp 104), (some (99, true))⟩,
  ⟨(some 106), .pick (.tmp 99) (.tmp 105) (.const (.bool false)), none⟩,
  ⟨(some 107), .mov (.tmp 106), none⟩,
  ⟨(some 108), .mov (.tmp 14), (some (107, false))⟩,
  ⟨(some 109), .ar .i64 .geq (.tmp 108) (.const (.int .i64 0)), (some (107, false))⟩,
  ⟨(some 110), .mov (.tmp 109), (some (107, false))⟩,
  ⟨(some 111), .mov (.tmp 11), (some (110, true))⟩,
  ⟨(some 112), .ar .i64 .neq (.tmp 111) (.const (.int .i64 0)), (some (110, true))⟩,
  ⟨(some 113), .mov (.tmp 112), (some (110, true))⟩,
  ⟨(some 114), .mov (.tmp 10), (some (113, false))⟩,
  ⟨(some 115), .mov (.tmp 14), (some (113, false))⟩,
  ⟨(some 116), .ar .i64 .neq (.tmp 114) (.tmp 115), (some (113, false))⟩,
  ⟨(some 117), .pick (.tmp 113) (.const (.bool true)) (.tmp 116), (some (110, true))⟩,
  ⟨(some 118), .pick (.tmp 110) (.tmp 117) (.const (.bool false)), (some (107, false))⟩,
  ⟨(some 119), .pick (.tmp 107) (.const (.bool true)) (.tmp 118), none⟩])
 (.cond (.tmp 119) (.seq (.ops [⟨(some 6), .mov (.const (.bool false)), none⟩])
 .ret)
 .skip))
 (.block 2 (.seq (.ops [⟨(some 143), .mov (.tmp 2), none⟩,
  ⟨(some 144), .ar .i64 .eql (.tmp 143) (.const (.int .i64 0)), none⟩,
  ⟨(some 142), .mov (.tmp 144), none⟩])
 (.cond (.tmp 142) (.seq (.ops [⟨(some 145), .mov (.tmp 13), none⟩,
  ⟨(some 146), .ar .i64 .neq (.tmp 145) (.const (.int .i64 1)), none⟩,
  ⟨(some 147), .mov (.tmp 146), none⟩,
  ⟨(some 148), .mov (.tmp 12), (some (147, false))⟩,
  ⟨(some 149), .ar .i64 .neq (.tmp 148) (.const (.int .i64 0)), (some (147, false))⟩,
  ⟨(some 150), .pick (.tmp 147) (.const (.bool true)) (.tmp 149), none⟩])
 (.cond (.tmp 150) (.seq (.ops [⟨(some 6), .mov (.const (.bool false)), none⟩])
 .ret)
 .skip))
 (.seq (.ops [⟨(some 152), .mov (.tmp 14), none⟩,
  ⟨(some 153), .ar .i64 .lss (.tmp 152) (.const (.int .i64 0)), none⟩,
  ⟨(some 151), .mov (.tmp 153), none⟩])
 (.cond (.tmp 151) (.seq (.ops [⟨(some 154), .mov (.tmp 13), none⟩,
  ⟨(some 155), .ar .i64 .neq (.tmp 154) (.const (.int .i64 8)), none⟩,
  ⟨(some 156), .mov (.tmp 155), none⟩,
  ⟨(some 157), .mov (.tmp 12), (some (156, false))⟩,
  ⟨(some 158), .ar .i64 .neq (.tmp 157) (.const (.int .i64 0)), (some (156, false))⟩,
  ⟨(some 159), .pick (.tmp 156) (.const (.bool true)) (.tmp 158), none⟩])
 (.cond (.tmp 159) (.seq (.ops [⟨(some 6), .mov (.const (.bool false)), none⟩])
 .ret)
 .skip))
 (.seq (.ops [⟨(some 120), .mov (.tmp 13), none⟩,
  ⟨(some 121), .ar .i64 .neq (.tmp 120) (.const (.int .i64 0)), none⟩,
  ⟨(some 122), .mov (.tmp 121), none⟩,
  ⟨(some 123), .mov (.tmp 0), (some (122, false))⟩,
  ⟨(some 124), .mov (.tmp 14), (some (122, false))⟩,
  ⟨(some 125), .mov (.tmp 2), (some (122, false))⟩,
  ⟨(some 126), .mov (.tmp 12), (some (122, false))⟩,
  ⟨(some 127), .call 54 [(.tmp 123), (.tmp 124), (.tmp 125), (.tmp 126)], (some (122, false))⟩,
  ⟨(some 128), .not (.tmp 127), (some (122, false))⟩,
  ⟨(some 129), .pick (.tmp 122) (.const (.bool true)) (.tmp 128), none⟩,
  ⟨(some 130), .mov (.tmp 129), none⟩,
  ⟨(some 131), .mov (.tmp 12), (some (130, false))⟩,
  ⟨(some 132), .ar .i64 .gtr (.tmp 131) (.const (.int .i64 1)), (some (130, false))⟩,
  ⟨(some 133), .mov (.tmp 132), (some (130, false))⟩,
  ⟨(some 134), .mov (.tmp 0), (some (133, true))⟩,
  ⟨(some 135), .mov (.tmp 14), (some (133, true))⟩,
  ⟨(some 136), .mov (.tmp 2), (some (133, true))⟩,
  ⟨(some 137), .mov (.tmp 12), (some (133, true))⟩,
  ⟨(some 138), .ar .i64 .sub (.tmp 137) (.const (.int .i64 1)), (some (133, true))⟩,
  ⟨(some 139), .call 54 [(.tmp 134), (.tmp 135), (.tmp 136), (.tmp 138)], (some (133, true))⟩,
  ⟨(some 140), .pick (.tmp 133) (.tmp 139) (.const (.bool false)), (some (130, false))⟩,
  ⟨(some 141), .pick (.tmp 130) (.const (.bool true)) (.tmp 140), none⟩])
 (.cond (.tmp 141) (.seq (.ops [⟨(some 6), .mov (.const (.bool false)), none⟩])
 .ret)
 .skip)))))))))))
 (.seq (.ops [⟨(some 160), .mov (.tmp 0), none⟩,
  ⟨(some 161), .cint .u64 (.tmp 160), none⟩,
  ⟨(some 162), .ar .u64 .rem (.tmp 161) (.const (.int .u64 20)), none⟩,
  ⟨(some 163), .cint .i64 (.tmp 162), none⟩,
  ⟨(some 164), .ar .i64 .add (.const (.int .i64 1)) (.tmp 163), none⟩,
  ⟨(some 0), .mov (.tmp 164), none⟩])
 (.seq (.ops [⟨(some 165), .mov (.tmp 1), none⟩,
  ⟨(some 166), .cint .u64 (.tmp 165), none⟩,
  ⟨(some 167), .ar .u64 .rem (.tmp 166) (.const (.int .u64 61)), none⟩,
  ⟨(some 168), .cint .i64 (.tmp 167), none⟩,
  ⟨(some 1), .mov (.tmp 168), none⟩])
 (.seq (.ops [⟨(some 169), .mov (.tmp 2), none⟩,
  ⟨(some 170), .cint .u64 (.tmp 169), none⟩,
  ⟨(some 171), .ar .u64 .rem (.tmp 170) (.const (.int .u64 1000000000001)), none⟩,
  ⟨(some 172), .cint .i64 (.tmp 171), none⟩,
  ⟨(some 2), .mov (.tmp 172), none⟩])
 (.seq (.ops [⟨(some 173), .mov (.tmp 1), none⟩,
  ⟨(some 174), .ar .i64 .rem (.tmp 173) (.const (.int .i64 2)), none⟩,
  ⟨(some 175), .ar .i64 .eql (.tmp 174) (.const (.int .i64 0)), none⟩])
 (.cond (.tmp 175) (.ops [⟨(some 176), .mov (.tmp 2), none⟩,
  ⟨(some 177), .ar .i64 .rem (.tmp 176) (.const (.int .i64 2000)), none⟩,
  ⟨(some 2), .mov (.tmp 177), none⟩])
 .skip)))))))))))
 (.ops [⟨(some 17), .mov (.tmp 7), none⟩,
  ⟨(some 18), .ar .i64 .add (.tmp 17) (.const (.int .i64 1)), none⟩,
  ⟨(some 7), .mov (.tmp 18), none⟩]))))))
 (.seq (.ops [⟨(some 178), .call 27 [], none⟩,
  ⟨(some 6), .mov (.tmp 178), none⟩])
 .ret)))
theorem enter10 {xs : List Value} {h : Hp} {Q : Value → Hp → Prop} (hl : xs.length ≤ 179) (w : wq E 179 none c10 (frameOf xs) h [] (leaveQ E [.tmp 6] Q)) : CallP E 10 xs h Q :=
  CallP.enterQ (fn := Try.f10) (fn_get Try.func10) (code := Try.f10.body.get rfl) rfl rfl rfl (by kernel_rfl) rfl (fun _ => rfl) hl w
theorem can10 : callable E 10 = true := callable_get Try.func10 rfl rfl

/-- tosher/tosherlaw08.SearchKnuth -/
def c11 : C := (.seq (.ops [⟨(some 6), .mov (.const (.bool false)), none⟩])
 (.seq (.ops [⟨(some 31), .mov (.tmp 0), none⟩,
  ⟨(some 32), .cint .u64 (.tmp 31), none⟩,
  ⟨(some 33), .ar .u64 .rem (.tmp 32) (.const (.int .u64 13)), none⟩,
  ⟨(some 34), .cint .i64 (.tmp 33), none⟩,
  ⟨(some 0), .mov (.tmp 34), none⟩])
 (.seq (.ops [⟨(some 7), .mov (.const (.slice none 0 0)), none⟩])
 (.seq (.seq (.ops [⟨(some 8), .mov (.const (.int .i64 0)), none⟩])
 (.block 0 (.loop (.seq (.seq (.ops [⟨(some 35), .mov (.tmp 8), none⟩,
  ⟨(some 36), .mov (.tmp 0), none⟩,
  ⟨(some 37), .ar .i64 .lss (.tmp 35) (.tmp 36), none⟩])
 (.cond (.tmp 37) .skip
 (.exit 0)))
 (.seq (.block 1 (.ops [⟨(some 40), .mov (.tmp 7), none⟩,
  ⟨(some 41), .slit 3 1 [(.int .i64 0)] [(0, 1, (.const (.int .i64 1)))], none⟩,
  ⟨(some 42), .append 3 1 8 (.tmp 40) (.tmp 41), none⟩,
  ⟨(some 7), .mov (.tmp 42), none⟩]))
 (.ops [⟨(some 38), .mov (.tmp 8), none⟩,
  ⟨(some 39), .ar .i64 .add (.tmp 38) (.const (.int .i64 1)), none⟩,
  ⟨(some 8), .mov (.tmp 39), none⟩]))))))
 (.seq (.ops [⟨(some 44), .mov (.tmp 7), none⟩,
  ⟨(some 45), .call 20 [(.tmp 44)], none⟩,
  ⟨(some 43), .mov (.tmp 45), none⟩,
  ⟨(some 46), .ext (.tmp 43) 0, none⟩,
  ⟨(some 47), .ext (.tmp 43) 1, none⟩,
  ⟨(some 48), .ext (.tmp 43) 2, none⟩,
  ⟨(some 9), .mov (.tmp 46), none⟩,
  ⟨(some 10), .mov (.tmp 47), none⟩,
  ⟨(some 11), .mov (.tmp 48), none⟩])
 (.seq (.ops [⟨(some 12), .mov (.const (.int .i64 0)), none⟩])
 (.seq (.block 2 (.loop (.seq (.seq (.ops [⟨(some 49), .mov (.tmp 12), none⟩,
  ⟨(some 50), .ar .i64 .shl (.const (.int .i64 1)) (.tmp 49), none⟩,
  ⟨(some 51), .mov (.tmp 0), none⟩,
  ⟨(some 52), .ar .i64 .add (.tmp 51) (.const (.int .i64 1)), none⟩,
  ⟨(some 53), .ar .i64 .lss (.tmp 50) (.tmp 52), none⟩])
 (.cond (.tmp 53) .skip
 (.exit 2)))
 (.block 3 (.ops [⟨(some 54), .mov (.tmp 12), none⟩,
  ⟨(some 55), .ar .i64 .add (.tmp 54) (.const (.int .i64 1)), none⟩,
  ⟨(some 12), .mov (.tmp 55), none⟩])))))
 (.seq (.ops [⟨(some 57), .mov (.tmp 0), none⟩,
  ⟨(some 58), .call 36 [(.tmp 57)], none⟩,
  ⟨(some 56), .mov (.tmp 58), none⟩,
  ⟨(some 59), .ext (.tmp 56) 0, none⟩,
  ⟨(some 60), .ext (.tmp 56) 1, none⟩,
  ⟨(some 13), .mov (.tmp 59), none⟩,
  ⟨(some 14), .mov (.tmp 60), none⟩])
 (.seq (.ops [⟨(some 62), .mov (.tmp 0), none⟩,
  ⟨(some 63), .ar .i64 .add (.tmp 62) (.const (.int .i64 1)), none⟩,
  ⟨(some 64), .call 36 [(.tmp 63)], none⟩,
  ⟨(some 61), .mov (.tmp 64), none⟩,
  ⟨(some 65), .ext (.tmp 61) 0, none⟩,
  ⟨(some 66), .ext (.tmp 61) 1, none⟩,
  ⟨(some 15), .mov (.tmp 65), none⟩,
  ⟨(some 16), .mov (.tmp 66), none⟩])
 (.seq (.seq (.ops [⟨(some 67), .mov (.tmp 11), none⟩,
  ⟨(some 68), .ar .i64 .neq (.tmp 67) (.const (.int .i64 0)), none⟩,
  ⟨(some 69), .mov (.tmp 68), none⟩,
  ⟨(some 70), .mov (.tmp 9), (some (69, false))⟩,
  ⟨(some 71), .mov (.tmp 12), (some (69, false))⟩,
  ⟨(some 72), .ar .i64 .neq (.tmp 70) (.tmp 71), (some (69, false))⟩,
  ⟨(some 73), .pick (.tmp 69) (.const (.bool true)) (.tmp 72), none⟩,
  ⟨(some 74), .mov (.tmp 73), none⟩,
  ⟨(some 75), .mov (.tmp 14), (some (74, false))⟩,
  ⟨(some 76), .ar .i64 .neq (.tmp 75) (.const (.int .i64 0)), (some (74, false))⟩,
  ⟨(some 77), .pick (.tmp 74) (.const (.bool true)) (.tmp 76), none⟩,
  ⟨(some 78), .mov (.tmp 77), none⟩,
  ⟨(some 79), .mov (.tmp 16), (some (78, false))⟩,
  ⟨(some 80), .ar .i64 .neq (.tmp 79) (.const (.int .i64 0)), (some (78, false))⟩,
  ⟨(some 81), .pick (.tmp 78) (.const (.bool true)) (.tmp 80), none⟩,
  ⟨(some 82), .mov (.tmp 81), none⟩,
  ⟨(some 83), .mov (.tmp 13), (some (82, false))⟩,
  ⟨(some 84), .ar .i64 .lss (.tmp 83) (.const (.int .i64 1)), (some (82, false))⟩,
  ⟨(some 85), .pick (.tmp 82) (.const (.bool true)) (.tmp 84), none⟩,
  ⟨(some 86), .mov (.tmp 85), none⟩,
  ⟨(some 87), .mov (.tmp 13), (some (86, false))⟩,
  ⟨(some 88), .ar .i64 .gtr (.tmp 87) (.const (.int .i64 1000000)), (some (86, false))⟩,
  ⟨(some 89), .pick (.tmp 86) (.const (.bool true)) (.tmp 88), none⟩,
  ⟨(some 90), .mov (.tmp 89), none⟩,
  ⟨(some 91), .mov (.tmp 0), (some (90, false))⟩,
  ⟨(some 92), .ar .i64 .add (.tmp 91) (.const (.int .i64 2)), (some (90, false))⟩,
  ⟨(some 93), .mov (.tmp 15), (some (90, false))⟩,
  ⟨(some 94), .ar .i64 .mul (.tmp 92) (.tmp 93), (some (90, false))⟩,
  ⟨(some 95), .mov (.tmp 0), (some (90, false))⟩,
  ⟨(some 96), .ar .i64 .mul (.const (.int .i64 2)) (.tmp 95), (some (90, false))⟩,
  ⟨(some 97), .ar .i64 .add (.tmp 96) (.const (.int .i64 1)), (some (90, false))⟩,
  ⟨(some 98), .ar .i64 .mul (.const (.int .i64 2)) (.tmp 97), (some (90, false))⟩,
  ⟨(some 99), .mov (.tmp 13), (some (90, false))⟩,
  ⟨(some 100), .ar .i64 .mul (.tmp 98) (.tmp 99), (some (90, false))⟩,
  ⟨(some 101), .ar .i64 .neq (.tmp 94) (.tmp 100), (some (90, false))⟩,
  ⟨(some 102), .pick (.tmp 90) (.const (.bool true)) (.tmp 101), none⟩])
 (.cond (.tmp 102) (.seq (.ops [⟨(some 6), .mov (.const (.bool false)), none⟩])
 .ret)
 .skip))
 (.seq (.ops [⟨(some 103), .mov (.tmp 1), none⟩,
  ⟨(some 104), .call 28 [(.tmp 103)], none⟩,
  ⟨(some 17), .mov (.tmp 104), none⟩])
 (.seq (.ops [⟨(some 105), .mov (.tmp 2), none⟩,
  ⟨(some 106), .mov (.tmp 17), none⟩,
  ⟨(some 107), .lenS (.tmp 106), none⟩,
  ⟨(some 108), .call 29 [(.tmp 105), (.tmp 107)], none⟩,
  ⟨(some 18), .mov (.tmp 108), none⟩])
 (.seq (.ops [⟨(some 110), .mov (.tmp 17), none⟩,
  ⟨(some 111), .call 20 [(.tmp 110)], none⟩,
  ⟨(some 109), .mov (.tmp 111), none⟩,
  ⟨(some 112), .ext (.tmp 109) 0, none⟩,
  ⟨(some 113), .ext (.tmp 109) 1, none⟩,
  ⟨(some 114), .ext (.tmp 109) 2, none⟩,
  ⟨(some 19), .mov (.tmp 112), none⟩,
  ⟨(some 20), .mov (.tmp 113), none⟩,
  ⟨(some 21), .mov (.tmp 114), none⟩])
 (.seq (.ops [⟨(some 116), .mov (.tmp 17), none⟩,
  ⟨(some 117), .mov (.tmp 18), none⟩,
  ⟨(some 118), .call 23 [(.tmp 116), (.tmp 117)], none⟩,
  ⟨(some 115), .mov (.tmp 118), none⟩,
  ⟨(some 119), .ext (.tmp 115) 0, none⟩,
  ⟨(some 120), .ext (.tmp 115) 1, none⟩,
  ⟨(some 121), .ext (.tmp 115) 2, none⟩,
  ⟨(some 22), .mov (.tmp 119), none⟩,
  ⟨(some 23), .mov (.tmp 120), none⟩,
  ⟨(some 24), .mov (.tmp 121), none⟩])
 (.seq (.ops [⟨(some 123), .mov (.tmp 17), none⟩,
  ⟨(some 124), .mov (.tmp 20), none⟩,
  ⟨(some 125), .call 25 [(.tmp 123), (.tmp 124)], none⟩,
  ⟨(some 122), .mov (.tmp 125), none⟩,
  ⟨(some 126), .ext (.tmp 122) 0, none⟩,
  ⟨(some 127), .ext (.tmp 122) 1, none⟩,
  ⟨(some 25), .mov (.tmp 126), none⟩,
  ⟨(some 26), .mov (.tmp 127), none⟩])
 (.seq (.seq (.ops [⟨(some 128), .mov (.tmp 21), none⟩,
  ⟨(some 129), .ar .i64 .neq (.tmp 128) (.const (.int .i64 0)), none⟩,
  ⟨(some 130), .mov (.tmp 129), none⟩,
  ⟨(some 131), .mov (.tmp 24), (some (130, false))⟩,
  ⟨(some 132), .ar .i64 .neq (.tmp 131) (.const (.int .i64 0)), (some (130, false))⟩,
  ⟨(some 133), .pick (.tmp 130) (.const (.bool true)) (.tmp 132), none⟩,
  ⟨(some 134), .mov (.tmp 133), none⟩,
  ⟨(some 135), .mov (.tmp 26), (some (134, false))⟩,
  ⟨(some 136), .ar .i64 .neq (.tmp 135) (.const (.int .i64 0)), (some (134, false))⟩,
  ⟨(some 137), .pick (.tmp 134) (.const (.bool true)) (.tmp 136), none⟩,
  ⟨(some 138), .mov (.tmp 137), none⟩,
  ⟨(some 139), .mov (.tmp 25), (some (138, false))⟩,
  ⟨(some 140), .lenS (.tmp 139), (some (138, false))⟩,
  ⟨(some 141), .mov (.tmp 17), (some (138, false))⟩,
  ⟨(some 142), .lenS (.tmp 141), (some (138, false))⟩,
  ⟨(some 143), .ar .i64 .add (.tmp 142) (.const (.int .i64 1)), (some (138, false))⟩,
  ⟨(some 144), .ar .i64 .neq (.tmp 140) (.tmp 143), (some (138, false))⟩,
  ⟨(some 145), .pick (.tmp 138) (.const (.bool true)) (.tmp 144), none⟩,
  ⟨(some 146), .mov (.tmp 145), none⟩,
  ⟨(some 147), .mov (.tmp 19), (some (146, false))⟩,
  ⟨(some 148), .ar .i64 .lss (.tmp 147) (.const (.int .i64 0)), (some (146, false))⟩,
  ⟨(some 149), .pick (.tmp 146) (.const (.bool true)) (.tmp 148), none⟩,
  ⟨(some 150), .mov (.tmp 149), none⟩,
  ⟨(some 151), .mov (.tmp 19), (some (150, false))⟩,
  ⟨(some 152), .ar .i64 .gtr (.tmp 151) (.const (.int .i64 20000)), (some (150, false))⟩,
  ⟨(some 153), .pick (.tmp 150) (.const (.bool true)) (.tmp 152), none⟩])
 (.cond (.tmp 153) (.seq (.ops [⟨(some 6), .mov (.const (.bool false)), none⟩])
 .ret)
 .skip))
 (.seq (.ops [⟨(some 27), .mov (.const (.int .i64 0)), none⟩,
  ⟨(some 28), .mov (.const (.int .i64 0)), none⟩])
 (.seq (.seq (.ops [⟨(some 29), .mov (.const (.int .i64 0)), none⟩])
 (.block 4 (.loop (.seq (.seq (.ops [⟨(some 154), .mov (.tmp 29), none⟩,
  ⟨(some 155), .mov (.tmp 18), none⟩,
  ⟨(some 156), .lenS (.tmp 155), none⟩,
  ⟨(some 157), .ar .i64 .lss (.tmp 154) (.tmp 156), none⟩])
 (.cond (.tmp 157) .skip
 (.exit 4)))
 (.seq (.block 5 (.seq (.ops [⟨(some 160), .mov (.tmp 27), none⟩,
  ⟨(some 161), .mov (.tmp 18), none⟩,
  ⟨(some 162), .mov (.tmp 29), none⟩,
  ⟨(some 163), .idxS 1 (.tmp 161) (.tmp 162), none⟩,
  ⟨(some 164), .load1 (.tmp 163), none⟩,
  ⟨(some 165), .ar .i64 .add (.tmp 160) (.tmp 164), none⟩,
  ⟨(some 27), .mov (.tmp 165), none⟩])
 (.ops [⟨(some 166), .mov (.tmp 28), none⟩,
  ⟨(some 167), .mov (.tmp 25), none⟩,
  ⟨(some 168), .mov (.tmp 29), none⟩,
  ⟨(some 169), .idxS 1 (.tmp 167) (.tmp 168), none⟩,
  ⟨(some 170), .load1 (.tmp 169), none⟩,
  ⟨(some 171), .raw (.call ⟨.builtin .max, ⟨[(.tmp 166), (.tmp 170)]⟩, ⟨[3, 3]⟩⟩) 3, none⟩,
  ⟨(some 28), .mov (.tmp 171), none⟩])))
 (.ops [⟨(some 158), .mov (.tmp 29), none⟩,
  ⟨(some 159), .ar .i64 .add (.tmp 158) (.const (.int .i64 1)), none⟩,
  ⟨(some 29), .mov (.tmp 159), none⟩]))))))
 (.seq (.seq (.ops [⟨(some 30), .mov (.const (.int .i64 0)), none⟩])
 (.block 6 (.loop (.seq (.seq (.ops [⟨(some 172), .mov (.tmp 30), none⟩,
  ⟨(some 173), .mov (.tmp 17), none⟩,
  ⟨(some 174), .lenS (.tmp 173), none⟩,
  ⟨(some 175), .ar .i64 .lss (.tmp 172) (.tmp 174), none⟩])
 (.cond (.tmp 175) .skip
 (.exit 6)))
 (.seq (.block 7 (.seq (.ops [⟨(some 178), .mov (.tmp 19), none⟩,
  ⟨(some 179), .mov (.tmp 17), none⟩,
  ⟨(some 180), .mov (.tmp 30), none⟩,
  ⟨(some 181), .idxS 1 (.tmp 179) (.tmp 180), none⟩,
  ⟨(some 182), .load1 (.tmp 181), none⟩,
  ⟨(some 183), .ar .i64 .lss (.tmp 178) (.tmp 182), none⟩])
 (.cond (.tmp 183) (.seq (.ops [⟨(some 6), .mov (.const (.bool false)), none⟩])
 .ret)
 .skip)))
 (.ops [⟨(some 176), .mov (.tmp 30), none⟩,
  ⟨(some 177), .ar .i64 .add (.tmp 176) (.const (.int .i64 1)), none⟩,
  ⟨(some 30), .mov (.tmp 177), none⟩]))))))
 (.seq (.ops [⟨(some 184), .mov (.tmp 28), none⟩,
  ⟨(some 185), .mov (.tmp 19), none⟩,
  ⟨(some 186), .ar .i64 .eql (.tmp 184) (.tmp 185), none⟩,
  ⟨(some 187), .mov (.tmp 186), none⟩,
  ⟨(some 188), .mov (.tmp 22), (some (187, true))⟩,
  ⟨(some 189), .mov (.tmp 27), (some (187, true))⟩,
  ⟨(some 190), .mov (.tmp 19), (some (187, true))⟩,
  ⟨(some 191), .ar .i64 .mul (.tmp 189) (.tmp 190), (some (187, true))⟩,
  ⟨(some 192), .ar .i64 .leq (.tmp 188) (.tmp 191), (some (187, true))⟩,
  ⟨(some 193), .pick (.tmp 187) (.tmp 192) (.const (.bool false)), none⟩,
  ⟨(some 194), .mov (.tmp 193), none⟩,
  ⟨(some 195), .mov (.tmp 22), (some (194, true))⟩,
  ⟨(some 196), .ar .i64 .geq (.tmp 195) (.const (.int .i64 0)), (some (194, true))⟩,
  ⟨(some 197), .pick (.tmp 194) (.tmp 196) (.const (.bool false)), none⟩,
  ⟨(some 198), .mov (.tmp 197), none⟩,
  ⟨(some 199), .call 27 [], (some (198, true))⟩,
  ⟨(some 200), .pick (.tmp 198) (.tmp 199) (.const (.bool false)), none⟩,
  ⟨(some 6), .mov (.tmp 200), none⟩])
 .ret))))))))))))))))))))
theorem enter11 {xs : List Value} {h : Hp} {Q : Value → Hp → Prop} (hl : xs.length ≤ 201) (w : wq E 201 none c11 (frameOf xs) h [] (leaveQ E [.tmp 6] Q)) : CallP E 11 xs h Q :=
  CallP.enterQ (fn := Try.f11) (fn_get Try.func11) (code := Try.f11.body.get rfl) rfl rfl rfl (by kernel_rfl) rfl (fun _ => rfl) hl w
theorem can11 : callable E 11 = true := callable_get Try.func11 rfl rfl

/-- tosher/tosherlaw08.few -/
def c16 : C := (.seq (.ops [⟨(some 4), .mov (.const (.slice none 0 0)), none⟩])
 (.seq (.ops [⟨(some 5), .mov (.const (.slice none 0 0)), none⟩])
 (.seq (.ops [⟨(some 6), .mov (.tmp 5), none⟩,
  ⟨(some 7), .mov (.tmp 0), none⟩,
  ⟨(some 8), .mov (.tmp 0), none⟩,
  ⟨(some 9), .lenS (.tmp 8), none⟩,
  ⟨(some 10), .mov (.tmp 1), none⟩,
  ⟨(some 11), .raw (.call ⟨.builtin .min, ⟨[(.tmp 9), (.tmp 10)]⟩, ⟨[3, 3]⟩⟩) 3, none⟩,
  ⟨(some 12), .cutS 1 (.tmp 7) none (some (.tmp 11)) none, none⟩,
  ⟨(some 13), .append 3 1 8 (.tmp 6) (.tmp 12), none⟩,
  ⟨(some 4), .mov (.tmp 13), none⟩])
 .ret)))
theorem enter16 {xs : List Value} {h : Hp} {Q : Value → Hp → Prop} (hl : xs.length ≤ 14) (w : wq E 14 none c16 (frameOf xs) h [] (leaveQ E [.tmp 4] Q)) : CallP E 16 xs h Q :=
  CallP.enterQ (fn := Try.f16) (fn_get Try.func16) (code := Try.f16.body.get rfl) rfl rfl rfl (by kernel_rfl) rfl (fun _ => rfl) hl w
theorem can16 : callable E 16 = true := callable_get Try.func16 rfl rfl

/-- tosher/tosherref08.Costs -/
def c17 : C := (.seq (.ops [⟨(some 2), .mov (.const (.bool false)), none⟩])
 (.seq (.seq (.ops [⟨(some 3), .mov (.const (.int .i64 0)), none⟩])
 (.block 0 (.loop (.seq (.seq (.ops [⟨(some 4), .mov (.tmp 3), none⟩,
  ⟨(some 5), .mov (.tmp 0), none⟩,
  ⟨(some 6), .lenS (.tmp 5), none⟩,
  ⟨(some 7), .ar .i64 .lss (.tmp 4) (.tmp 6), none⟩])
 (.cond (.tmp 7) .skip
 (.exit 0)))
 (.seq (.block 1 (.seq (.ops [⟨(some 10), .mov (.tmp 0), none⟩,
  ⟨(some 11), .mov (.tmp 3), none⟩,
  ⟨(some 12), .idxS 1 (.tmp 10) (.tmp 11), none⟩,
  ⟨(some 13), .load1 (.tmp 12), none⟩,
  ⟨(some 14), .ar .i64 .lss (.tmp 13) (.const (.int .i64 1)), none⟩,
  ⟨(some 15), .mov (.tmp 14), none⟩,
  ⟨(some 16), .mov (.tmp 0), (some (15, false))⟩,
  ⟨(some 17), .mov (.tmp 3), (some (15, false))⟩,
  ⟨(some 18), .idxS 1 (.tmp 16) (.tmp 17), (some (15, false))⟩,
  ⟨(some 19), .load1 (.tmp 18), (some (15, false))⟩,
  ⟨(some 20), .ar .i64 .gtr (.tmp 19) (.const (.int .i64 1000)), (some (15, false))⟩,
  ⟨(some 21), .pick (.tmp 15) (.const (.bool true)) (.tmp 20), none⟩])
 (.cond (.tmp 21) (.seq (.ops [⟨(some 2), .mov (.const (.bool false)), none⟩])
 .ret)
 .skip)))
 (.ops [⟨(some 8), .mov (.tmp 3), none⟩,
  ⟨(some 9), .ar .i64 .add (.tmp 8) (.const (.int .i64 1)), none⟩,
  ⟨(some 3), .mov (.tmp 9), none⟩]))))))
 (.seq (.ops [⟨(some 22), .mov (.tmp 0), none⟩,
  ⟨(some 23), .lenS (.tmp 22), none⟩,
  ⟨(some 24), .ar .i64 .leq (.tmp 23) (.const (.int .i64 12)), none⟩,
  ⟨(some 2), .mov (.tmp 24), none⟩])
 .ret)))
theorem enter17 {xs : List Value} {h : Hp} {Q : Value → Hp → Prop} (hl : xs.length ≤ 25) (w : wq E 25 none c17 (frameOf xs) h [] (leaveQ E [.tmp 2] Q)) : CallP E 17 xs h Q :=
  CallP.enterQ (fn := Try.f17) (fn_get Try.func17) (code := Try.f17.body.get rfl) rfl rfl rfl (by kernel_rfl) rfl (fun _ => rfl) hl w
theorem can17 : callable E 17 = true := callable_get Try.func17 rfl rfl

/-- tosher/search.Check -/
def c18 : C := (.seq (.ops [⟨(some 2), .mov (.const (.int .i64 0)), none⟩])
 (.seq (.seq (.ops [⟨(some 3), .mov (.tmp 0), none⟩,
  ⟨(some 4), .lenS (.tmp 3), none⟩,
  ⟨(some 5), .ar .i64 .gtr (.tmp 4) (.const (.int .i64 12)), none⟩,
  ⟨(some 6), .mov (.tmp 5), none⟩,
  ⟨(some 7), .mov (.tmp 0), (some (6, false))⟩,
  ⟨(some 8), .call 55 [(.const (.int .i64 1)), (.const (.int .i64 1000)), (.tmp 7)], (some (6, false))⟩,
  ⟨(some 9), .not (.tmp 8), (some (6, false))⟩,
  ⟨(some 10), .pick (.tmp 6) (.const (.bool true)) (.tmp 9), none⟩])
 (.cond (.tmp 10) (.seq (.ops [⟨(some 2), .mov (.const (.int .i64 80)), none⟩])
 .ret)
 .skip))
 (.seq (.ops [⟨(some 2), .mov (.const (.int .i64 0)), none⟩])
 .ret)))
theorem enter18 {xs : List Value} {h : Hp} {Q : Value → Hp → Prop} (hl : xs.length ≤ 11) (w : wq E 11 none c18 (frameOf xs) h [] (leaveQ E [.tmp 2] Q)) : CallP E 18 xs h Q :=
  CallP.enterQ (fn := Try.f18) (fn_get Try.func18) (code := Try.f18.body.get rfl) rfl rfl rfl (by kernel_rfl) rfl (fun _ => rfl) hl w
theorem can18 : callable E 18 = true := callable_get Try.func18 rfl rfl

/-- tosher/search.IsPlan -/
def c19 : C := (.seq (.ops [⟨(some 4), .mov (.const (.bool false)), none⟩,
  ⟨(some 5), .mov (.const (.int .i64 0)), none⟩])
 (.seq (.seq (.ops [⟨(some 7), .mov (.tmp 0), none⟩,
  ⟨(some 8), .call 18 [(.tmp 7)], none⟩,
  ⟨(some 6), .mov (.tmp 8), none⟩])
 (.seq (.ops [⟨(some 9), .mov (.tmp 6), none⟩,
  ⟨(some 10), .ar .i64 .neq (.tmp 9) (.const (.int .i64 0)), none⟩])
 (.cond (.tmp 10) (.seq (.ops [⟨(some 11), .mov (.tmp 6), none⟩,
  ⟨(some 4), .mov (.const (.bool false)), none⟩,
  ⟨(some 5), .mov (.tmp 11), none⟩])
 .ret)
 .skip)))
 (.seq (.ops [⟨(some 12), .mov (.tmp 0), none⟩,
  ⟨(some 13), .lenS (.tmp 12), none⟩,
  ⟨(some 14), .mov (.tmp 1), none⟩,
  ⟨(some 15), .call 56 [(.tmp 13), (.tmp 14)], none⟩,
  ⟨(some 4), .mov (.tmp 15), none⟩,
  ⟨(some 5), .mov (.const (.int .i64 0)), none⟩])
 .ret)))
theorem enter19 {xs : List Value} {h : Hp} {Q : Value → Hp → Prop} (hl : xs.length ≤ 16) (w : wq E 16 none c19 (frameOf xs) h [] (leaveQ E [.tmp 4, .tmp 5] Q)) : CallP E 19 xs h Q :=
  CallP.enterQ (fn := Try.f19) (fn_get Try.func19) (code := Try.f19.body.get rfl) rfl rfl rfl (by kernel_rfl) rfl (fun _ => rfl) hl w
theorem can19 : callable E 19 = true := callable_get Try.func19 rfl rfl

/-- tosher/search.Worst -/
def c20 : C := (.seq (.ops [⟨(some 2), .mov (.const (.int .i64 0)), none⟩,
  ⟨(some 3), .mov (.const (.slice none 0 0)), none⟩,
  ⟨(some 4), .mov (.const (.int .i64 0)), none⟩])
 (.seq (.seq (.ops [⟨(some 8), .mov (.tmp 0), none⟩,
  ⟨(some 9), .call 18 [(.tmp 8)], none⟩,
  ⟨(some 5), .mov (.tmp 9), none⟩])
 (.seq (.ops [⟨(some 10), .mov (.tmp 5), none⟩,
  ⟨(some 11), .ar .i64 .neq (.tmp 10) (.const (.int .i64 0)), none⟩])
 (.cond (.tmp 11) (.seq (.ops [⟨(some 12), .mov (.tmp 5), none⟩,
  ⟨(some 2), .mov (.const (.int .i64 0)), none⟩,
  ⟨(some 3), .mov (.const (.slice none 0 0)), none⟩,
  ⟨(some 4), .mov (.tmp 12), none⟩])
 .ret)
 .skip)))
 (.seq (.ops [⟨(some 13), .mov (.tmp 0), none⟩,
  ⟨(some 14), .lenS (.tmp 13), none⟩,
  ⟨(some 6), .mov (.tmp 14), none⟩])
 (.seq (.ops [⟨(some 15), .mov (.tmp 0), none⟩,
  ⟨(some 16), .call 57 [(.tmp 15)], none⟩,
  ⟨(some 7), .alloc 88 [(.int .i64 0), (.int .i64 0), (.int .i64 0), (.int .i64 0), (.int .i64 0), (.int .i64 0), (.int .i64 0), (.int .i64 0), (.int .i64 0), (.int .i64 0), (.int .i64 0), (.int .i64 0), (.int .i64 0), (.int .i64 0), (.int .i64 0), (.int .i64 0), (.int .i64 0), (.int .i64 0), (.int .i64 0), (.int .i64 0), (.int .i64 0), (.int .i64 0), (.int .i64 0), (.int .i64 0), (.int .i64 0), (.int .i64 0), (.int .i64 0), (.int .i64 0), (.int .i64 0), (.int .i64 0), (.int .i64 0), (.int .i64 0), (.int .i64 0), (.int .i64 0), (.int .i64 0), (.int .i64 0), (.int .i64 0), (.int .i64 0), (.int .i64 0), (.int .i64 0), (.int .i64 0), (.int .i64 0), (.int .i64 0), (.int .i64 0), (.int .i64 0), (.int .i64 0), (.int .i64 0), (.int .i64 0), (.int .i64 0), (.int .i64 0), (.int .i64 0), (.int .i64 0), (.int .i64 0), (.int .i64 0), (.int .i64 0), (.int .i64 0), (.int .i64 0), (.int .i64 0), (.int .i64 0), (.int .i64 0), (.int .i64 0), (.int .i64 0), (.int .i64 0), (.int .i64 0), (.int .i64 0), (.int .i64 0), (.int .i64 0), (.int .i64 0), (.int .i64 0), (.int .i64 0), (.int .i64 0), (.int .i64 0), (.int .i64 0), (.int .i64 0), (.int .i64 0), (.int .i64 0), (.int .i64 0), (.int .i64 0), (.int .i64 0), (.int .i64 0), (.int .i64 0), (.int .i64 0), (.int .i64 0), (.int .i64 0), (.int .i64 0), (.int .i64 0), (.int .i64 0), (.int .i64 0), (.int .i64 0), (.int .i64 0), (.int .i64 0), (.int .i64 0), (.int .i64 0), (.int .i64 0), (.int .i64 0), (.int .i64 0), (.int .i64 0), (.int .i64 0), (.int .i64 0), (.int .i64 0), (.int .i64 0), (.int .i64 0), (.int .i64 0), (.int .i64 0), (.int .i64 0), (.int .i64 0), (.int .i64 0), (.int .i64 0), (.int .i64 0), (.int .i64 0), (.int .i64 0), (.int .i64 0), (.int .i64 0), (.int .i64 0), (.int .i64 0), (.int .i64 0), (.int .i64 0), (.int .i64 0), (.int .i64 0), (.int .i64 0), (.int .i64 0), (.int .i64 0), (.int .i64 0), (.int .i64 0), (.int .i64 0), (.int .i64 0), (.int .i64 0), (.int .i64 0), (.int .i64 0), (.int .i64 0), (.int .i64 0), (.int .i64 0), (.int .i64 0), (.int .i64 0), (.int .i64 0), (.int .i64 0), (.int .i64 0), (.int .i64 0), (.int .i64 0), (.int .i64 0), (.int .i64 0), (.int .i64 0), (.int .i64 0), (.int .i64 0), (.int .i64 0), (.int .i64 0), (.int .i64 0), (.int .i64 0), (.int .i64 0), (.int .i64 0), (.int .i64 0), (.int .i64 0), (.int .i64 0), (.int .i64 0), (.int .i64 0), (.int .i64 0), (.int .i64 0), (.int .i64 0), (.int .i64 0), (.int .i64 0), (.int .i64 0), (.int .i64 0), (.int .i64 0), (.int .i64 0), (.int .i64 0), (.int .i64 0), (.int .i64 0), (.int .i64 0), (.int .i64 0), (.int .i64 0), (.int .i64 0), (.int .i64 0), (.int .i64 0), (.int .i64 0), (.int .i64 0), (.int .i64 0), (.int .i64 0), (.int .i64 0), (.int .i64 0), (.int .i64 0), (.int .i64 0), (.int .i64 0), (.int .i64 0), (.int .i64 0), (.int .i64 0), (.int .i64 0), (.int .i64 0), (.int .i64 0), (.int .i64 0), (.int .i64 0), (.int .i64 0), (.int .i64 0), (.int .i64 0), (.int .i64 0), (.int .i64 0), (.int .i64 0), (.int .i64 0), (.int .i64 0), (.int .i64 0), (.int .i64 0), (.int .i64 0), (.int .i64 0), (.int .i64 0), (.int .i64 0), (.int .i64 0), (.int .i64 0), (.int .i64 0), (.int .i64 0), (.int .i64 0), (.int .i64 0), (.int .i64 0), (.int .i64 0), (.int .i64 0), (.int .i64 0), (.int .i64 0), (.int .i64 0), (.int .i64 0), (.int .i64 0), (.int .i64 0), (.int .i64 0), (.int .i64 0), (.int .i64 0), (.int .i64 0), (.int .i64 0), (.int .i64 0), (.int .i64 0), (.int .i64 0), (.int .i64 0), (.int .i64 0), (.int .i64 0), (.int .i64 0), (.int .i64 0), (.int .i64 0), (.int .i64 0), (.int .i64 0), (.int .i64 0), (.int .i64 0), (.int .i64 0), (.int .i64 0), (.int .i64 0), (.int .i64 0), (.int .i64 0), (.int .i64 0), (.int .i64 0), (.int .i64 0), (.int .i64 0), (.int .i64 0), (.int .i64 0), (.int .i64 0), (.int .i64 0), (.int .i64 0), (.int .i64 0), (.int .i64 0), (.int .i64 0), (.int .i64 0), (.int .i64 0), (.int .i64 0), (.int .i64 0), (.int .i64 0), (.int .i64 0), (.int .i64 0), (.int .i64 0), (.int .i64 0), (.int .i64 0), (.int .i64 0), (.int .i64 0), (.int .i64 0), (.int .i64 0), (.int .i64 0), (.int .i64 0), (.int .i64 0), (.int .i64 0), (.int .i64 0), (.int .i64 0), (.int .i64 0), (.int .i64 0), (.int .i64 0), (.int .i64 0), (.int .i64 0), (.int .i64 0), (.int .i64 0), (.int .i64 0), (.int .i64 0), (.int .i64 0), (.int .i64 0), (.int .i64 0), (.int .i64 0), (.int .i64 0), (.int .i64 0), (.int .i64 0), (.int .i64 0), (.int .i64 0), (.int .i64 0), (.int .i64 0), (.int .i64 0), (.int .i64 0), (.int .i64 0), (.int .i64 0), (.int .i64 0), (.int .i64 0), (.int .i64 0), (.int .i64 0), (.int .i64 0), (.int .i64 0), (.int .i64 0), (.int .i64 0), (.int .i64 0), (.int .i64 0), (.int .i64 0), (.int .i64 0), (.int .i64 0), (.int .i64 0), (.int .i64 0), (.int .i64 0), (.int .i64 0), (.int .i64 0), (.int .i64 0), (.int .i64 0), (.int .i64 0), (.int .i64 0), (.int .i64 0), (.int .i64 0), (.int .i64 0), (.int .i64 0), (.int .i64 0), (.int .i64 0), (.int .i64 0), (.int .i64 0), (.int .i64 0), (.int .i64 0), (.int .i64 0), (.int .i64 0), (.int .i64 0), (.int .i64 0), (.int .i64 0), (.int .i64 0), (.int .i64 0), (.int .i64 0)], none⟩,
  ⟨none, .store 338 (.tmp 7) (.tmp 16), none⟩])
 (.seq (.draw [⟨(some 17), .mov (.tmp 6), none⟩,
  ⟨(some 18), .idxA 13 26 (.tmp 7) (.const (.int .i64 0)), none⟩,
  ⟨(some 19), .idxA 13 2 (.tmp 18) (.tmp 17), none⟩,
  ⟨(some 20), .fldA 0 (.tmp 19), none⟩,
  ⟨(some 21), .load1 (.tmp 20), none⟩,
  ⟨(some 22), .loadN 338 (.tmp 7), none⟩,
  ⟨(some 23), .mov (.tmp 6), none⟩,
  ⟨(some 24), .call 58 [(.tmp 22), (.tmp 23)], none⟩,
  ⟨(some 2), .mov (.tmp 21), none⟩,
  ⟨(some 3), .mov (.tmp 24), none⟩,
  ⟨(some 4), .mov (.const (.int .i64 0)), none⟩]
  [⟨false, true, [false, false, false, false, false, false, false, false, false, false, false], [false, false, false, false, false, false, false, true, false, false, false]⟩,
  ⟨false, true, [false, false, false, false, false, false, false, false, false, false, false], [false, false, false, false, false, false, false, true, false, false, false]⟩,
  ⟨false, true, [false, false, false, false, false, false, false, false, false, false, false], [false, false, false, false, false, false, false, true, false, false, false]⟩,
  ⟨false, true, [false, false, false, false, false, false, false, false, false, false, false], [false, false, false, false, false, false, false, true, false, false, false]⟩,
  ⟨false, true, [false, false, false, false, false, false, false, false, false, false, false], [false, false, false, false, false, false, false, true, false, false, false]⟩,
  ⟨false, false, [false, false, false, false, false, false, false, false, false, false, false], [false, false, false, false, false, false, false, false, false, false, false]⟩,
  ⟨false, false, [false, false, false, false, false, false, false, false, false, false, false], [false, false, false, false, false, false, false, false, false, false, false]⟩,
  ⟨true, false, [false, false, false, false, false, false, false, false, false, false, false], [false, false, false, false, false, false, false, true, false, false, false]⟩,
  ⟨false, false, [false, false, false, false, false, false, false, true, false, false, false], [false, false, false, false, false, false, false, true, false, false, false]⟩,
  ⟨false, false, [false, false, false, false, false, false, false, true, false, false, false], [false, false, false, false, false, false, false, true, false, false, false]⟩,
  ⟨false, false, [false, false, false, false, false, false, false, true, false, false, false], [false, false, false, false, false, false, false, true, false, false, false]⟩])
 .ret)))))
theorem enter20 {xs : List Value} {h : Hp} {Q : Value → Hp → Prop} (hl : xs.length ≤ 25) (w : wq E 25 none c20 (frameOf xs) h [] (leaveQ E [.tmp 2, .tmp 3, .tmp 4] Q)) : CallP E 20 xs h Q :=
  CallP.enterQ (fn := Try.f20) (fn_get Try.func20) (code := Try.f20.body.get rfl) rfl rfl rfl (by kernel_rfl) rfl (fun _ => rfl) hl w
theorem can20 : callable E 20 = true := callable_get Try.func20 rfl rfl

/-- tosher/tosherref08.Opened -/
def c21 : C := (.seq (.ops [⟨(some 4), .mov (.const (.slice none 0 0)), none⟩,
  ⟨(some 5), .mov (.const (.bool false)), none⟩])
 (.seq (.ops [⟨(some 10), .mov (.tmp 1), none⟩,
  ⟨(some 11), .mov (.tmp 0), none⟩,
  ⟨(some 12), .call 59 [(.tmp 10), (.const (.int .i64 0)), (.const (.int .i64 0)), (.tmp 11)], none⟩,
  ⟨(some 9), .mov (.tmp 12), none⟩,
  ⟨(some 13), .ext (.tmp 9) 0, none⟩,
  ⟨(some 14), .ext (.tmp 9) 1, none⟩,
  ⟨(some 15), .ext (.tmp 9) 2, none⟩,
  ⟨(some 6), .mov (.tmp 13), none⟩,
  ⟨(some 7), .mov (.tmp 14), none⟩,
  ⟨(some 8), .mov (.tmp 15), none⟩])
 (.seq (.ops [⟨(some 16), .mov (.tmp 6), none⟩,
  ⟨(some 17), .mov (.tmp 8), none⟩,
  ⟨(some 18), .mov (.tmp 17), none⟩,
  ⟨(some 19), .mov (.tmp 7), (some (18, true))⟩,
  ⟨(some 20), .mov (.tmp 1), (some (18, true))⟩,
  ⟨(some 21), .lenS (.tmp 20), (some (18, true))⟩,
  ⟨(some 22), .ar .i64 .eql (.tmp 19) (.tmp 21), (some (18, true))⟩,
  ⟨(some 23), .pick (.tmp 18) (.tmp 22) (.const (.bool false)), none⟩,
  ⟨(some 4), .mov (.tmp 16), none⟩,
  ⟨(some 5), .mov (.tmp 23), none⟩])
 .ret)))
theorem enter21 {xs : List Value} {h : Hp} {Q : Value → Hp → Prop} (hl : xs.length ≤ 24) (w : wq E 24 none c21 (frameOf xs) h [] (leaveQ E [.tmp 4, .tmp 5] Q)) : CallP E 21 xs h Q :=
  CallP.enterQ (fn := Try.f21) (fn_get Try.func21) (code := Try.f21.body.get rfl) rfl rfl rfl (by kernel_rfl) rfl (fun _ => rfl) hl w
theorem can21 : callable E 21 = true := callable_get Try.func21 rfl rfl

/-- tosher/tosherref08.Weights -/
def c22 : C := (.seq (.ops [⟨(some 4), .mov (.const (.bool false)), none⟩])
 (.seq (.ops [⟨(some 5), .mov (.const (.bool false)), none⟩])
 (.seq (.seq (.ops [⟨(some 6), .mov (.const (.int .i64 0)), none⟩])
 (.block 0 (.loop (.seq (.seq (.ops [⟨(some 7), .mov (.tmp 6), none⟩,
  ⟨(some 8), .mov (.tmp 1), none⟩,
  ⟨(some 9), .lenS (.tmp 8), none⟩,
  ⟨(some 10), .ar .i64 .lss (.tmp 7) (.tmp 9), none⟩])
 (.cond (.tmp 10) .skip
 (.exit 0)))
 (.seq (.block 1 (.seq (.seq (.ops [⟨(some 13), .mov (.tmp 1), none⟩,
  ⟨(some 14), .mov (.tmp 6), none⟩,
  ⟨(some 15), .idxS 1 (.tmp 13) (.tmp 14), none⟩,
  ⟨(some 16), .load1 (.tmp 15), none⟩,
  ⟨(some 17), .ar .i64 .lss (.tmp 16) (.const (.int .i64 0)), none⟩,
  ⟨(some 18), .mov (.tmp 17), none⟩,
  ⟨(some 19), .mov (.tmp 1), (some (18, false))⟩,
  ⟨(some 20), .mov (.tmp 6), (some (18, false))⟩,
  ⟨(some 21), .idxS 1 (.tmp 19) (.tmp 20), (some (18, false))⟩,
  ⟨(some 22), .load1 (.tmp 21), (some (18, false))⟩,
  ⟨(some 23), .ar .i64 .gtr (.tmp 22) (.const (.int .i64 1000)), (some (18, false))⟩,
  ⟨(some 24), .pick (.tmp 18) (.const (.bool true)) (.tmp 23), none⟩])
 (.cond (.tmp 24) (.seq (.ops [⟨(some 4), .mov (.const (.bool false)), none⟩])
 .ret)
 .skip))
 (.ops [⟨(some 25), .mov (.tmp 5), none⟩,
  ⟨(some 26), .mov (.tmp 25), none⟩,
  ⟨(some 27), .mov (.tmp 1), (some (26, false))⟩,
  ⟨(some 28), .mov (.tmp 6), (some (26, false))⟩,
  ⟨(some 29), .idxS 1 (.tmp 27) (.tmp 28), (some (26, false))⟩,
  ⟨(some 30), .load1 (.tmp 29), (some (26, false))⟩,
  ⟨(some 31), .ar .i64 .gtr (.tmp 30) (.const (.int .i64 0)), (some (26, false))⟩,
  ⟨(some 32), .pick (.tmp 26) (.const (.bool true)) (.tmp 31), none⟩,
  ⟨(some 5), .mov (.tmp 32), none⟩])))
 (.ops [⟨(some 11), .mov (.tmp 6), none⟩,
  ⟨(some 12), .ar .i64 .add (.tmp 11) (.const (.int .i64 1)), none⟩,
  ⟨(some 6), .mov (.tmp 12), none⟩]))))))
 (.seq (.ops [⟨(some 33), .mov (.tmp 5), none⟩,
  ⟨(some 34), .mov (.tmp 33), none⟩,
  ⟨(some 35), .mov (.tmp 1), (some (34, true))⟩,
  ⟨(some 36), .lenS (.tmp 35), (some (34, true))⟩,
  ⟨(some 37), .mov (.tmp 0), (some (34, true))⟩,
  ⟨(some 38), .lenS (.tmp 37), (some (34, true))⟩,
  ⟨(some 39), .ar .i64 .add (.tmp 38) (.const (.int .i64 1)), (some (34, true))⟩,
  ⟨(some 40), .ar .i64 .eql (.tmp 36) (.tmp 39), (some (34, true))⟩,
  ⟨(some 41), .pick (.tmp 34) (.tmp 40) (.const (.bool false)), none⟩,
  ⟨(some 4), .mov (.tmp 41), none⟩])
 .ret))))
theorem enter22 {xs : List Value} {h : Hp} {Q : Value → Hp → Prop} (hl : xs.length ≤ 42) (w : wq E 42 none c22 (frameOf xs) h [] (leaveQ E [.tmp 4] Q)) : CallP E 22 xs h Q :=
  CallP.enterQ (fn := Try.f22) (fn_get Try.func22) (code := Try.f22.body.get rfl) rfl rfl rfl (by kernel_rfl) rfl (fun _ => rfl) hl w
theorem can22 : callable E 22 = true := callable_get Try.func22 rfl rfl

/-- tosher/search.Weighed -/
def c23 : C := (.seq (.ops [⟨(some 4), .mov (.const (.int .i64 0)), none⟩,
  ⟨(some 5), .mov (.const (.slice none 0 0)), none⟩,
  ⟨(some 6), .mov (.const (.int .i64 0)), none⟩])
 (.seq (.seq (.ops [⟨(some 10), .mov (.tmp 0), none⟩,
  ⟨(some 11), .mov (.tmp 1), none⟩,
  ⟨(some 12), .call 60 [(.tmp 10), (.tmp 11)], none⟩,
  ⟨(some 7), .mov (.tmp 12), none⟩])
 (.seq (.ops [⟨(some 13), .mov (.tmp 7), none⟩,
  ⟨(some 14), .ar .i64 .neq (.tmp 13) (.const (.int .i64 0)), none⟩])
 (.cond (.tmp 14) (.seq (.ops [⟨(some 15), .mov (.tmp 7), none⟩,
  ⟨(some 4), .mov (.const (.int .i64 0)), none⟩,
  ⟨(some 5), .mov (.const (.slice none 0 0)), none⟩,
  ⟨(some 6), .mov (.tmp 15), none⟩])
 .ret)
 .skip)))
 (.seq (.ops [⟨(some 16), .mov (.tmp 0), none⟩,
  ⟨(some 17), .lenS (.tmp 16), none⟩,
  ⟨(some 8), .mov (.tmp 17), none⟩])
 (.seq (.ops [⟨(some 18), .mov (.tmp 0), none⟩,
  ⟨(some 19), .mov (.tmp 1), none⟩,
  ⟨(some 20), .call 61 [(.tmp 18), (.tmp 19)], none⟩,
  ⟨(some 9), .alloc 88 [(.int .i64 0), (.int .i64 0), (.int .i64 0), (.int .i64 0), (.int .i64 0), (.int .i64 0), (.int .i64 0), (.int .i64 0), (.int .i64 0), (.int .i64 0), (.int .i64 0), (.int .i64 0), (.int .i64 0), (.int .i64 0), (.int .i64 0), (.int .i64 0), (.int .i64 0), (.int .i64 0), (.int .i64 0), (.int .i64 0), (.int .i64 0), (.int .i64 0), (.int .i64 0), (.int .i64 0), (.int .i64 0), (.int .i64 0), (.int .i64 0), (.int .i64 0), (.int .i64 0), (.int .i64 0), (.int .i64 0), (.int .i64 0), (.int .i64 0), (.int .i64 0), (.int .i64 0), (.int .i64 0), (.int .i64 0), (.int .i64 0), (.int .i64 0), (.int .i64 0), (.int .i64 0), (.int .i64 0), (.int .i64 0), (.int .i64 0), (.int .i64 0), (.int .i64 0), (.int .i64 0), (.int .i64 0), (.int .i64 0), (.int .i64 0), (.int .i64 0), (.int .i64 0), (.int .i64 0), (.int .i64 0), (.int .i64 0), (.int .i64 0), (.int .i64 0), (.int .i64 0), (.int .i64 0), (.int .i64 0), (.int .i64 0), (.int .i64 0), (.int .i64 0), (.int .i64 0), (.int .i64 0), (.int .i64 0), (.int .i64 0), (.int .i64 0), (.int .i64 0), (.int .i64 0), (.int .i64 0), (.int .i64 0), (.int .i64 0), (.int .i64 0), (.int .i64 0), (.int .i64 0), (.int .i64 0), (.int .i64 0), (.int .i64 0), (.int .i64 0), (.int .i64 0), (.int .i64 0), (.int .i64 0), (.int .i64 0), (.int .i64 0), (.int .i64 0), (.int .i64 0), (.int .i64 0), (.int .i64 0), (.int .i64 0), (.int .i64 0), (.int .i64 0), (.int .i64 0), (.int .i64 0), (.int .i64 0), (.int .i64 0), (.int .i64 0), (.int .i64 0), (.int .i64 0), (.int .i64 0), (.int .i64 0), (.int .i64 0), (.int .i64 0), (.int .i64 0), (.int .i64 0), (.int .i64 0), (.int .i64 0), (.int .i64 0), (.int .i64 0), (.int .i64 0), (.int .i64 0), (.int .i64 0), (.int .i64 0), (.int .i64 0), (.int .i64 0), (.int .i64 0), (.int .i64 0), (.int .i64 0), (.int .i64 0), (.int .i64 0), (.int .i64 0), (.int .i64 0), (.int .i64 0), (.int .i64 0), (.int .i64 0), (.int .i64 0), (.int .i64 0), (.int .i64 0), (.int .i64 0), (.int .i64 0), (.int .i64 0), (.int .i64 0), (.int .i64 0), (.int .i64 0), (.int .i64 0), (.int .i64 0), (.int .i64 0), (.int .i64 0), (.int .i64 0), (.int .i64 0), (.int .i64 0), (.int .i64 0), (.int .i64 0), (.int .i64 0), (.int .i64 0), (.int .i64 0), (.int .i64 0), (.int .i64 0), (.int .i64 0), (.int .i64 0), (.int .i64 0), (.int .i64 0), (.int .i64 0), (.int .i64 0), (.int .i64 0), (.int .i64 0), (.int .i64 0), (.int .i64 0), (.int .i64 0), (.int .i64 0), (.int .i64 0), (.int .i64 0), (.int .i64 0), (.int .i64 0), (.int .i64 0), (.int .i64 0), (.int .i64 0), (.int .i64 0), (.int .i64 0), (.int .i64 0), (.int .i64 0), (.int .i64 0), (.int .i64 0), (.int .i64 0), (.int .i64 0), (.int .i64 0), (.int .i64 0), (.int .i64 0), (.int .i64 0), (.int .i64 0), (.int .i64 0), (.int .i64 0), (.int .i64 0), (.int .i64 0), (.int .i64 0), (.int .i64 0), (.int .i64 0), (.int .i64 0), (.int .i64 0), (.int .i64 0), (.int .i64 0), (.int .i64 0), (.int .i64 0), (.int .i64 0), (.int .i64 0), (.int .i64 0), (.int .i64 0), (.int .i64 0), (.int .i64 0), (.int .i64 0), (.int .i64 0), (.int .i64 0), (.int .i64 0), (.int .i64 0), (.int .i64 0), (.int .i64 0), (.int .i64 0), (.int .i64 0), (.int .i64 0), (.int .i64 0), (.int .i64 0), (.int .i64 0), (.int .i64 0), (.int .i64 0), (.int .i64 0), (.int .i64 0), (.int .i64 0), (.int .i64 0), (.int .i64 0), (.int .i64 0), (.int .i64 0), (.int .i64 0), (.int .i64 0), (.int .i64 0), (.int .i64 0), (.int .i64 0), (.int .i64 0), (.int .i64 0), (.int .i64 0), (.int .i64 0), (.int .i64 0), (.int .i64 0), (.int .i64 0), (.int .i64 0), (.int .i64 0), (.int .i64 0), (.int .i64 0), (.int .i64 0), (.int .i64 0), (.int .i64 0), (.int .i64 0), (.int .i64 0), (.int .i64 0), (.int .i64 0), (.int .i64 0), (.int .i64 0), (.int .i64 0), (.int .i64 0), (.int .i64 0), (.int .i64 0), (.int .i64 0), (.int .i64 0), (.int .i64 0), (.int .i64 0), (.int .i64 0), (.int .i64 0), (.int .i64 0), (.int .i64 0), (.int .i64 0), (.int .i64 0), (.int .i64 0), (.int .i64 0), (.int .i64 0), (.int .i64 0), (.int .i64 0), (.int .i64 0), (.int .i64 0), (.int .i64 0), (.int .i64 0), (.int .i64 0), (.int .i64 0), (.int .i64 0), (.int .i64 0), (.int .i64 0), (.int .i64 0), (.int .i64 0), (.int .i64 0), (.int .i64 0), (.int .i64 0), (.int .i64 0), (.int .i64 0), (.int .i64 0), (.int .i64 0), (.int .i64 0), (.int .i64 0), (.int .i64 0), (.int .i64 0), (.int .i64 0), (.int .i64 0), (.int .i64 0), (.int .i64 0), (.int .i64 0), (.int .i64 0), (.int .i64 0), (.int .i64 0), (.int .i64 0), (.int .i64 0), (.int .i64 0), (.int .i64 0), (.int .i64 0), (.int .i64 0), (.int .i64 0), (.int .i64 0), (.int .i64 0), (.int .i64 0), (.int .i64 0), (.int .i64 0), (.int .i64 0), (.int .i64 0), (.int .i64 0), (.int .i64 0), (.int .i64 0), (.int .i64 0), (.int .i64 0), (.int .i64 0), (.int .i64 0), (.int .i64 0), (.int .i64 0), (.int .i64 0), (.int .i64 0), (.int .i64 0), (.int .i64 0), (.int .i64 0), (.int .i64 0), (.int .i64 0), (.int .i64 0), (.int .i64 0), (.int .i64 0), (.int .i64 0), (.int .i64 0), (.int .i64 0), (.int .i64 0), (.int .i64 0), (.int .i64 0), (.int .i64 0), (.int .i64 0), (.int .i64 0), (.int .i64 0)], none⟩,
  ⟨none, .store 338 (.tmp 9) (.tmp 20), none⟩])
 (.seq (.draw [⟨(some 21), .mov (.tmp 8), none⟩,
  ⟨(some 22), .idxA 13 26 (.tmp 9) (.const (.int .i64 0)), none⟩,
  ⟨(some 23), .idxA 13 2 (.tmp 22) (.tmp 21), none⟩,
  ⟨(some 24), .fldA 0 (.tmp 23), none⟩,
  ⟨(some 25), .load1 (.tmp 24), none⟩,
  ⟨(some 26), .loadN 338 (.tmp 9), none⟩,
  ⟨(some 27), .mov (.tmp 8), none⟩,
  ⟨(some 28), .call 58 [(.tmp 26), (.tmp 27)], none⟩,
  ⟨(some 4), .mov (.tmp 25), none⟩,
  ⟨(some 5), .mov (.tmp 28), none⟩,
  ⟨(some 6), .mov (.const (.int .i64 0)), none⟩]
  [⟨false, true, [false, false, false, false, false, false, false, false, false, false, false], [false, false, false, false, false, false, false, true, false, false, false]⟩,
  ⟨false, true, [false, false, false, false, false, false, false, false, false, false, false], [false, false, false, false, false, false, false, true, false, false, false]⟩,
  ⟨false, true, [false, false, false, false, false, false, false, false, false, false, false], [false, false, false, false, false, false, false, true, false, false, false]⟩,
  ⟨false, true, [false, false, false, false, false, false, false, false, false, false, false], [false, false, false, false, false, false, false, true, false, false, false]⟩,
  ⟨false, true, [false, false, false, false, false, false, false, false, false, false, false], [false, false, false, false, false, false, false, true, false, false, false]⟩,
  ⟨false, false, [false, false, false, false, false, false, false, false, false, false, false], [false, false, false, false, false, false, false, false, false, false, false]⟩,
  ⟨false, false, [false, false, false, false, false, false, false, false, false, false, false], [false, false, false, false, false, false, false, false, false, false, false]⟩,
  ⟨true, false, [false, false, false, false, false, false, false, false, false, false, false], [false, false, false, false, false, false, false, true, false, false, false]⟩,
  ⟨false, false, [false, false, false, false, false, false, false, true, false, false, false], [false, false, false, false, false, false, false, true, false, false, false]⟩,
  ⟨false, false, [false, false, false, false, false, false, false, true, false, false, false], [false, false, false, false, false, false, false, true, false, false, false]⟩,
  ⟨false, false, [false, false, false, false, false, false, false, true, false, false, false], [false, false, false, false, false, false, false, true, false, false, false]⟩])
 .ret)))))
theorem enter23 {xs : List Value} {h : Hp} {Q : Value → Hp → Prop} (hl : xs.length ≤ 29) (w : wq E 29 none c23 (frameOf xs) h [] (leaveQ E [.tmp 4, .tmp 5, .tmp 6] Q)) : CallP E 23 xs h Q :=
  CallP.enterQ (fn := Try.f23) (fn_get Try.func23) (code := Try.f23.body.get rfl) rfl rfl rfl (by kernel_rfl) rfl (fun _ => rfl) hl w
theorem can23 : callable E 23 = true := callable_get Try.func23 rfl rfl

/-- tosher/search.PriceOf -/
def c24 : C := (.seq (.ops [⟨(some 6), .mov (.const (.int .i64 0)), none⟩,
  ⟨(some 7), .mov (.const (.int .i64 0)), none⟩])
 (.seq (.seq (.ops [⟨(some 13), .mov (.tmp 0), none⟩,
  ⟨(some 14), .mov (.tmp 1), none⟩,
  ⟨(some 15), .call 60 [(.tmp 13), (.tmp 14)], none⟩,
  ⟨(some 8), .mov (.tmp 15), none⟩])
 (.seq (.ops [⟨(some 16), .mov (.tmp 8), none⟩,
  ⟨(some 17), .ar .i64 .neq (.tmp 16) (.const (.int .i64 0)), none⟩])
 (.cond (.tmp 17) (.seq (.ops [⟨(some 18), .mov (.tmp 8), none⟩,
  ⟨(some 6), .mov (.const (.int .i64 0)), none⟩,
  ⟨(some 7), .mov (.tmp 18), none⟩])
 .ret)
 .skip)))
 (.seq (.seq (.ops [⟨(some 19), .mov (.tmp 0), none⟩,
  ⟨(some 20), .mov (.tmp 2), none⟩,
  ⟨(some 21), .call 62 [(.tmp 19), (.tmp 20)], none⟩,
  ⟨(some 9), .mov (.tmp 21), none⟩])
 (.seq (.ops [⟨(some 22), .mov (.tmp 9), none⟩,
  ⟨(some 23), .ar .i64 .neq (.tmp 22) (.const (.int .i64 0)), none⟩])
 (.cond (.tmp 23) (.seq (.ops [⟨(some 24), .mov (.tmp 9), none⟩,
  ⟨(some 6), .mov (.const (.int .i64 0)), none⟩,
  ⟨(some 7), .mov (.tmp 24), none⟩])
 .ret)
 .skip)))
 (.seq (.ops [⟨(some 25), .mov (.tmp 0), none⟩,
  ⟨(some 26), .mov (.tmp 2), none⟩,
  ⟨(some 27), .call 63 [(.tmp 25), (.tmp 26)], none⟩,
  ⟨(some 10), .mov (.tmp 27), none⟩])
 (.seq (.seq (.ops [⟨(some 28), .mov (.tmp 1), none⟩,
  ⟨(some 29), .lenS (.tmp 28), none⟩,
  ⟨(some 30), .mov (.const (.int .i64 0)), none⟩])
 (.block 0 (.loop (.seq (.ops [⟨(some 31), .ar .i64 .lss (.tmp 30) (.tmp 29), none⟩])
 (.seq (.cond (.tmp 31) .skip
 (.exit 0))
 (.seq (.block 1 (.seq (.ops [⟨(some 32), .mov (.tmp 30), none⟩,
  ⟨(some 33), .idxS 1 (.tmp 28) (.tmp 30), none⟩,
  ⟨(some 34), .load1 (.tmp 33), none⟩,
  ⟨(some 11), .mov (.tmp 32), none⟩,
  ⟨(some 12), .mov (.tmp 34), none⟩])
 (.ops [⟨(some 35), .mov (.tmp 10), none⟩,
  ⟨(some 36), .mov (.tmp 11), none⟩,
  ⟨(some 37), .idxS 1 (.tmp 35) (.tmp 36), none⟩,
  ⟨(some 38), .load1 (.tmp 37), none⟩,
  ⟨(some 39), .mov (.tmp 12), none⟩,
  ⟨(some 40), .ar .i64 .mul (.tmp 38) (.tmp 39), none⟩,
  ⟨(some 41), .idxS 1 (.tmp 35) (.tmp 36), none⟩,
  ⟨none, .store 1 (.tmp 41) (.tmp 40), none⟩])))
 (.ops [⟨(some 42), .ar .i64 .add (.tmp 30) (.const (.int .i64 1)), none⟩,
  ⟨(some 30), .mov (.tmp 42), none⟩])))))))
 (.seq (.ops [⟨(some 43), .mov (.tmp 10), none⟩,
  ⟨(some 44), .call 64 [(.tmp 43)], none⟩,
  ⟨(some 6), .mov (.tmp 44), none⟩,
  ⟨(some 7), .mov (.const (.int .i64 0)), none⟩])
 .ret))))))
theorem enter24 {xs : List Value} {h : Hp} {Q : Value → Hp → Prop} (hl : xs.length ≤ 45) (w : wq E 45 none c24 (frameOf xs) h [] (leaveQ E [.tmp 6, .tmp 7] Q)) : CallP E 24 xs h Q :=
  CallP.enterQ (fn := Try.f24) (fn_get Try.func24) (code := Try.f24.body.get rfl) rfl rfl rfl (by kernel_rfl) rfl (fun _ => rfl) hl w
theorem can24 : callable E 24 = true := callable_get Try.func24 rfl rfl

/-- tosher/search.Prices -/
def c25 : C := (.seq (.ops [⟨(some 4), .mov (.const (.slice none 0 0)), none⟩,
  ⟨(some 5), .mov (.const (.int .i64 0)), none⟩])
 (.seq (.seq (.ops [⟨(some 7), .mov (.tmp 0), none⟩,
  ⟨(some 8), .mov (.tmp 1), none⟩,
  ⟨(some 9), .call 62 [(.tmp 7), (.tmp 8)], none⟩,
  ⟨(some 6), .mov (.tmp 9), none⟩])
 (.seq (.ops [⟨(some 10), .mov (.tmp 6), none⟩,
  ⟨(some 11), .ar .i64 .neq (.tmp 10) (.const (.int .i64 0)), none⟩])
 (.cond (.tmp 11) (.seq (.ops [⟨(some 12), .mov (.tmp 6), none⟩,
  ⟨(some 4), .mov (.const (.slice none 0 0)), none⟩,
  ⟨(some 5), .mov (.tmp 12), none⟩])
 .ret)
 .skip)))
 (.seq (.ops [⟨(some 13), .mov (.tmp 0), none⟩,
  ⟨(some 14), .mov (.tmp 1), none⟩,
  ⟨(some 15), .call 63 [(.tmp 13), (.tmp 14)], none⟩,
  ⟨(some 4), .mov (.tmp 15), none⟩,
  ⟨(some 5), .mov (.const (.int .i64 0)), none⟩])
 .ret)))
theorem enter25 {xs : List Value} {h : Hp} {Q : Value → Hp → Prop} (hl : xs.length ≤ 16) (w : wq E 16 none c25 (frameOf xs) h [] (leaveQ E [.tmp 4, .tmp 5] Q)) : CallP E 25 xs h Q :=
  CallP.enterQ (fn := Try.f25) (fn_get Try.func25) (code := Try.f25.body.get rfl) rfl rfl rfl (by kernel_rfl) rfl (fun _ => rfl) hl w
theorem can25 : callable E 25 = true := callable_get Try.func25 rfl rfl

/-- tosher/search.Answer -/
def c26 : C := (.seq (.ops [⟨(some 6), .mov (.const (.slice none 0 0)), none⟩,
  ⟨(some 7), .mov (.const (.int .i64 0)), none⟩])
 (.seq (.seq (.ops [⟨(some 9), .mov (.tmp 0), none⟩,
  ⟨(some 10), .mov (.tmp 1), none⟩,
  ⟨(some 11), .call 62 [(.tmp 9), (.tmp 10)], none⟩,
  ⟨(some 8), .mov (.tmp 11), none⟩])
 (.seq (.ops [⟨(some 12), .mov (.tmp 8), none⟩,
  ⟨(some 13), .ar .i64 .neq (.tmp 12) (.const (.int .i64 0)), none⟩])
 (.cond (.tmp 13) (.seq (.ops [⟨(some 14), .mov (.tmp 8), none⟩,
  ⟨(some 6), .mov (.const (.slice none 0 0)), none⟩,
  ⟨(some 7), .mov (.tmp 14), none⟩])
 .ret)
 .skip)))
 (.seq (.seq (.ops [⟨(some 15), .mov (.tmp 2), none⟩,
  ⟨(some 16), .ar .i64 .lss (.tmp 15) (.const (.int .i64 0)), none⟩,
  ⟨(some 17), .mov (.tmp 16), none⟩,
  ⟨(some 18), .mov (.tmp 2), (some (17, false))⟩,
  ⟨(some 19), .mov (.tmp 0), (some (17, false))⟩,
  ⟨(some 20), .lenS (.tmp 19), (some (17, false))⟩,
  ⟨(some 21), .ar .i64 .gtr (.tmp 18) (.tmp 20), (some (17, false))⟩,
  ⟨(some 22), .pick (.tmp 17) (.const (.bool true)) (.tmp 21), none⟩])
 (.cond (.tmp 22) (.seq (.ops [⟨(some 6), .mov (.const (.slice none 0 0)), none⟩,
  ⟨(some 7), .mov (.const (.int .i64 1)), none⟩])
 .ret)
 .skip))
 (.seq (.ops [⟨(some 23), .mov (.tmp 0), none⟩,
  ⟨(some 24), .lenS (.tmp 23), none⟩,
  ⟨(some 25), .mov (.tmp 1), none⟩,
  ⟨(some 26), .mov (.tmp 2), none⟩,
  ⟨(some 27), .call 65 [(.tmp 24), (.tmp 25), (.tmp 26)], none⟩,
  ⟨(some 6), .mov (.tmp 27), none⟩,
  ⟨(some 7), .mov (.const (.int .i64 0)), none⟩])
 .ret))))
theorem enter26 {xs : List Value} {h : Hp} {Q : Value → Hp → Prop} (hl : xs.length ≤ 28) (w : wq E 28 none c26 (frameOf xs) h [] (leaveQ E [.tmp 6, .tmp 7] Q)) : CallP E 26 xs h Q :=
  CallP.enterQ (fn := Try.f26) (fn_get Try.func26) (code := Try.f26.body.get rfl) rfl rfl rfl (by kernel_rfl) rfl (fun _ => rfl) hl w
theorem can26 : callable E 26 = true := callable_get Try.func26 rfl rfl

theorem memo27 {h : Hp} {Q : Value → Hp → Prop} (q : Q (.bool true) h) : CallP E 27 [] h Q := CallP.memo rfl q

/-- tosher/tosherlaw08.costs -/
def c28 : C := (.seq (.ops [⟨(some 2), .mov (.const (.slice none 0 0)), none⟩])
 (.seq (.ops [⟨(some 3), .mov (.const (.slice none 0 0)), none⟩])
 (.seq (.seq (.ops [⟨(some 4), .mov (.const (.int .i64 0)), none⟩])
 (.block 0 (.loop (.seq (.seq (.ops [⟨(some 5), .mov (.tmp 4), none⟩,
  ⟨(some 6), .mov (.tmp 0), none⟩,
  ⟨(some 7), .lenS (.tmp 6), none⟩,
  ⟨(some 8), .ar .i64 .lss (.tmp 5) (.tmp 7), none⟩,
  ⟨(some 9), .mov (.tmp 8), none⟩,
  ⟨(some 10), .mov (.tmp 4), (some (9, true))⟩,
  ⟨(some 11), .ar .i64 .lss (.tmp 10) (.const (.int .i64 12)), (some (9, true))⟩,
  ⟨(some 12), .pick (.tmp 9) (.tmp 11) (.const (.bool false)), none⟩])
 (.cond (.tmp 12) .skip
 (.exit 0)))
 (.seq (.block 1 (.ops [⟨(some 15), .mov (.tmp 3), none⟩,
  ⟨(some 16), .mov (.tmp 0), none⟩,
  ⟨(some 17), .mov (.tmp 4), none⟩,
  ⟨(some 18), .idxS 1 (.tmp 16) (.tmp 17), none⟩,
  ⟨(some 19), .load1 (.tmp 18), none⟩,
  ⟨(some 20), .cint .u64 (.tmp 19), none⟩,
  ⟨(some 21), .ar .u64 .rem (.tmp 20) (.const (.int .u64 1000)), none⟩,
  ⟨(some 22), .cint .i64 (.tmp 21), none⟩,
  ⟨(some 23), .ar .i64 .add (.const (.int .i64 1)) (.tmp 22), none⟩,
  ⟨(some 24), .slit 3 1 [(.int .i64 0)] [(0, 1, (.tmp 23))], none⟩,
  ⟨(some 25), .append 3 1 8 (.tmp 15) (.tmp 24), none⟩,
  ⟨(some 3), .mov (.tmp 25), none⟩]))
 (.ops [⟨(some 13), .mov (.tmp 4), none⟩,
  ⟨(some 14), .ar .i64 .add (.tmp 13) (.const (.int .i64 1)), none⟩,
  ⟨(some 4), .mov (.tmp 14), none⟩]))))))
 (.seq (.ops [⟨(some 26), .mov (.tmp 3), none⟩,
  ⟨(some 2), .mov (.tmp 26), none⟩])
 .ret))))
theorem enter28 {xs : List Value} {h : Hp} {Q : Value → Hp → Prop} (hl : xs.length ≤ 27) (w : wq E 27 none c28 (frameOf xs) h [] (leaveQ E [.tmp 2] Q)) : CallP E 28 xs h Q :=
  CallP.enterQ (fn := Try.f28) (fn_get Try.func28) (code := Try.f28.body.get rfl) rfl rfl rfl (by kernel_rfl) rfl (fun _ => rfl) hl w
theorem can28 : callable E 28 = true := callable_get Try.func28 rfl rfl

/-- tosher/tosherlaw08.weights -/
def c29 : C := (.seq (.ops [⟨(some 4), .mov (.const (.slice none 0 0)), none⟩])
 (.seq (.ops [⟨(some 5), .mov (.const (.slice none 0 0)), none⟩])
 (.seq (.ops [⟨(some 6), .mov (.const (.bool false)), none⟩])
 (.seq (.seq (.ops [⟨(some 7), .mov (.const (.int .i64 0)), none⟩])
 (.block 0 (.loop (.seq (.seq (.ops [⟨(some 9), .mov (.tmp 7), none⟩,
  ⟨(some 10), .mov (.tmp 1), none⟩,
  ⟨(some 11), .ar .i64 .leq (.tmp 9) (.tmp 10), none⟩])
 (.cond (.tmp 11) .skip
 (.exit 0)))
 (.seq (.block 1 (.seq (.ops [⟨(some 8), .mov (.const (.int .i64 0)), none⟩])
 (.seq (.seq (.ops [⟨(some 14), .mov (.tmp 7), none⟩,
  ⟨(some 15), .mov (.tmp 0), none⟩,
  ⟨(some 16), .lenS (.tmp 15), none⟩,
  ⟨(some 17), .ar .i64 .lss (.tmp 14) (.tmp 16), none⟩])
 (.cond (.tmp 17) (.ops [⟨(some 18), .mov (.tmp 0), none⟩,
  ⟨(some 19), .mov (.tmp 7), none⟩,
  ⟨(some 20), .idxS 1 (.tmp 18) (.tmp 19), none⟩,
  ⟨(some 21), .load1 (.tmp 20), none⟩,
  ⟨(some 22), .cint .u64 (.tmp 21), none⟩,
  ⟨(some 23), .ar .u64 .rem (.tmp 22) (.const (.int .u64 1001)), none⟩,
  ⟨(some 24), .cint .i64 (.tmp 23), none⟩,
  ⟨(some 8), .mov (.tmp 24), none⟩])
 .skip))
 (.seq (.ops [⟨(some 25), .mov (.tmp 6), none⟩,
  ⟨(some 26), .mov (.tmp 25), none⟩,
  ⟨(some 27), .mov (.tmp 8), (some (26, false))⟩,
  ⟨(some 28), .ar .i64 .gtr (.tmp 27) (.const (.int .i64 0)), (some (26, false))⟩,
  ⟨(some 29), .pick (.tmp 26) (.const (.bool true)) (.tmp 28), none⟩,
  ⟨(some 6), .mov (.tmp 29), none⟩])
 (.ops [⟨(some 30), .mov (.tmp 5), none⟩,
  ⟨(some 31), .mov (.tmp 8), none⟩,
  ⟨(some 32), .slit 3 1 [(.int .i64 0)] [(0, 1, (.tmp 31))], none⟩,
  ⟨(some 33), .append 3 1 8 (.tmp 30) (.tmp 32), none⟩,
  ⟨(some 5), .mov (.tmp 33), none⟩])))))
 (.ops [⟨(some 12), .mov (.tmp 7), none⟩,
  ⟨(some 13), .ar .i64 .add (.tmp 12) (.const (.int .i64 1)), none⟩,
  ⟨(some 7), .mov (.tmp 13), none⟩]))))))
 (.seq (.seq (.ops [⟨(some 34), .mov (.tmp 6), none⟩,
  ⟨(some 35), .not (.tmp 34), none⟩])
 (.cond (.tmp 35) (.ops [⟨(some 36), .mov (.tmp 5), none⟩,
  ⟨(some 37), .idxS 1 (.tmp 36) (.const (.int .i64 0)), none⟩,
  ⟨none, .store 1 (.tmp 37) (.const (.int .i64 1)), none⟩])
 .skip))
 (.seq (.ops [⟨(some 38), .mov (.tmp 5), none⟩,
  ⟨(some 4), .mov (.tmp 38), none⟩])
 .ret))))))
theorem enter29 {xs : List Value} {h : Hp} {Q : Value → Hp → Prop} (hl : xs.length ≤ 39) (w : wq E 39 none c29 (frameOf xs) h [] (leaveQ E [.tmp 4] Q)) : CallP E 29 xs h Q :=
  CallP.enterQ (fn := Try.f29) (fn_get Try.func29) (code := Try.f29.body.get rfl) rfl rfl rfl (by kernel_rfl) rfl (fun _ => rfl) hl w
theorem can29 : callable E 29 = true := callable_get Try.func29 rfl rfl

/-- tosher/tosherref08.Prices -/
def c30 : C := (.seq (.ops [⟨(some 4), .mov (.const (.slice none 0 0)), none⟩])
 (.seq (.ops [⟨(some 5), .mov (.const (.slice none 0 0)), none⟩])
 (.seq (.seq (.ops [⟨(some 6), .mov (.const (.int .i64 0)), none⟩])
 (.block 0 (.loop (.seq (.seq (.ops [⟨(some 9), .mov (.tmp 6), none⟩,
  ⟨(some 10), .mov (.tmp 1), none⟩,
  ⟨(some 11), .lenS (.tmp 10), none⟩,
  ⟨(some 12), .ar .i64 .lss (.tmp 9) (.tmp 11), none⟩])
 (.cond (.tmp 12) .skip
 (.exit 0)))
 (.seq (.block 1 (.seq (.ops [⟨(some 7), .mov (.const (.int .i64 0)), none⟩])
 (.seq (.seq (.ops [⟨(some 8), .mov (.const (.int .i64 0)), none⟩])
 (.block 2 (.loop (.seq (.seq (.ops [⟨(some 15), .mov (.tmp 8), none⟩,
  ⟨(some 16), .mov (.tmp 1), none⟩,
  ⟨(some 17), .mov (.tmp 6), none⟩,
  ⟨(some 18), .idxS 1 (.tmp 16) (.tmp 17), none⟩,
  ⟨(some 19), .load1 (.tmp 18), none⟩,
  ⟨(some 20), .lenS (.tmp 19), none⟩,
  ⟨(some 21), .ar .i64 .lss (.tmp 15) (.tmp 20), none⟩])
 (.cond (.tmp 21) .skip
 (.exit 2)))
 (.seq (.block 3 (.ops [⟨(some 24), .mov (.tmp 7), none⟩,
  ⟨(some 25), .mov (.tmp 0), none⟩,
  ⟨(some 26), .mov (.tmp 1), none⟩,
  ⟨(some 27), .mov (.tmp 6), none⟩,
  ⟨(some 28), .idxS 1 (.tmp 26) (.tmp 27), none⟩,
  ⟨(some 29), .load1 (.tmp 28), none⟩,
  ⟨(some 30), .mov (.tmp 8), none⟩,
  ⟨(some 31), .idxS 1 (.tmp 29) (.tmp 30), none⟩,
  ⟨(some 32), .load1 (.tmp 31), none⟩,
  ⟨(some 33), .idxS 1 (.tmp 25) (.tmp 32), none⟩,
  ⟨(some 34), .load1 (.tmp 33), none⟩,
  ⟨(some 35), .ar .i64 .add (.tmp 24) (.tmp 34), none⟩,
  ⟨(some 7), .mov (.tmp 35), none⟩]))
 (.ops [⟨(some 22), .mov (.tmp 8), none⟩,
  ⟨(some 23), .ar .i64 .add (.tmp 22) (.const (.int .i64 1)), none⟩,
  ⟨(some 8), .mov (.tmp 23), none⟩]))))))
 (.ops [⟨(some 36), .mov (.tmp 5), none⟩,
  ⟨(some 37), .mov (.tmp 7), none⟩,
  ⟨(some 38), .slit 3 1 [(.int .i64 0)] [(0, 1, (.tmp 37))], none⟩,
  ⟨(some 39), .append 3 1 8 (.tmp 36) (.tmp 38), none⟩,
  ⟨(some 5), .mov (.tmp 39), none⟩]))))
 (.ops [⟨(some 13), .mov (.tmp 6), none⟩,
  ⟨(some 14), .ar .i64 .add (.tmp 13) (.const (.int .i64 1)), none⟩,
  ⟨(some 6), .mov (.tmp 14), none⟩]))))))
 (.seq (.ops [⟨(some 40), .mov (.tmp 5), none⟩,
  ⟨(some 4), .mov (.tmp 40), none⟩])
 .ret))))
theorem enter30 {xs : List Value} {h : Hp} {Q : Value → Hp → Prop} (hl : xs.length ≤ 41) (w : wq E 41 none c30 (frameOf xs) h [] (leaveQ E [.tmp 4] Q)) : CallP E 30 xs h Q :=
  CallP.enterQ (fn := Try.f30) (fn_get Try.func30) (code := Try.f30.body.get rfl) rfl rfl rfl (by kernel_rfl) rfl (fun _ => rfl) hl w
theorem can30 : callable E 30 = true := callable_get Try.func30 rfl rfl

/-- tosher/tosherlaw08.ints -/
def c31 : C := (.seq (.ops [⟨(some 4), .mov (.const (.bool false)), none⟩])
 (.seq (.seq (.ops [⟨(some 6), .mov (.tmp 0), none⟩,
  ⟨(some 7), .lenS (.tmp 6), none⟩,
  ⟨(some 8), .mov (.tmp 1), none⟩,
  ⟨(some 9), .lenS (.tmp 8), none⟩,
  ⟨(some 10), .ar .i64 .neq (.tmp 7) (.tmp 9), none⟩])
 (.cond (.tmp 10) (.seq (.ops [⟨(some 4), .mov (.const (.bool false)), none⟩])
 .ret)
 .skip))
 (.seq (.seq (.ops [⟨(some 5), .mov (.const (.int .i64 0)), none⟩])
 (.block 0 (.loop (.seq (.seq (.ops [⟨(some 11), .mov (.tmp 5), none⟩,
  ⟨(some 12), .mov (.tmp 0), none⟩,
  ⟨(some 13), .lenS (.tmp 12), none⟩,
  ⟨(some 14), .ar .i64 .lss (.tmp 11) (.tmp 13), none⟩])
 (.cond (.tmp 14) .skip
 (.exit 0)))
 (.seq (.block 1 (.seq (.ops [⟨(some 17), .mov (.tmp 0), none⟩,
  ⟨(some 18), .mov (.tmp 5), none⟩,
  ⟨(some 19), .idxS 1 (.tmp 17) (.tmp 18), none⟩,
  ⟨(some 20), .load1 (.tmp 19), none⟩,
  ⟨(some 21), .mov (.tmp 1), none⟩,
  ⟨(some 22), .mov (.tmp 5), none⟩,
  ⟨(some 23), .idxS 1 (.tmp 21) (.tmp 22), none⟩,
  ⟨(some 24), .load1 (.tmp 23), none⟩,
  ⟨(some 25), .ar .i64 .neq (.tmp 20) (.tmp 24), none⟩])
 (.cond (.tmp 25) (.seq (.ops [⟨(some 4), .mov (.const (.bool false)), none⟩])
 .ret)
 .skip)))
 (.ops [⟨(some 15), .mov (.tmp 5), none⟩,
  ⟨(some 16), .ar .i64 .add (.tmp 15) (.const (.int .i64 1)), none⟩,
  ⟨(some 5), .mov (.tmp 16), none⟩]))))))
 (.seq (.ops [⟨(some 4), .mov (.const (.bool true)), none⟩])
 .ret))))
theorem enter31 {xs : List Value} {h : Hp} {Q : Value → Hp → Prop} (hl : xs.length ≤ 26) (w : wq E 26 none c31 (frameOf xs) h [] (leaveQ E [.tmp 4] Q)) : CallP E 31 xs h Q :=
  CallP.enterQ (fn := Try.f31) (fn_get Try.func31) (code := Try.f31.body.get rfl) rfl rfl rfl (by kernel_rfl) rfl (fun _ => rfl) hl w
theorem can31 : callable E 31 = true := callable_get Try.func31 rfl rfl

/-- tosher/tosherref08.Weighed -/
def c32 : C := (.seq (.ops [⟨(some 4), .mov (.const (.int .i64 0)), none⟩])
 (.seq (.ops [⟨(some 5), .mov (.const (.int .i64 0)), none⟩])
 (.seq (.seq (.ops [⟨(some 6), .mov (.const (.int .i64 0)), none⟩])
 (.block 0 (.loop (.seq (.seq (.ops [⟨(some 7), .mov (.tmp 6), none⟩,
  ⟨(some 8), .mov (.tmp 1), none⟩,
  ⟨(some 9), .lenS (.tmp 8), none⟩,
  ⟨(some 10), .ar .i64 .lss (.tmp 7) (.tmp 9), none⟩])
 (.cond (.tmp 10) .skip
 (.exit 0)))
 (.seq (.block 1 (.ops [⟨(some 13), .mov (.tmp 5), none⟩,
  ⟨(some 14), .mov (.tmp 0), none⟩,
  ⟨(some 15), .mov (.tmp 6), none⟩,
  ⟨(some 16), .idxS 1 (.tmp 14) (.tmp 15), none⟩,
  ⟨(some 17), .load1 (.tmp 16), none⟩,
  ⟨(some 18), .mov (.tmp 1), none⟩,
  ⟨(some 19), .mov (.tmp 6), none⟩,
  ⟨(some 20), .idxS 1 (.tmp 18) (.tmp 19), none⟩,
  ⟨(some 21), .load1 (.tmp 20), none⟩,
  ⟨(some 22), .ar .i64 .mul (.tmp 17) (.tmp 21), none⟩,
  ⟨(some 23), .ar .i64 .add (.tmp 13) (.tmp 22), none⟩,
  ⟨(some 5), .mov (.tmp 23), none⟩]))
 (.ops [⟨(some 11), .mov (.tmp 6), none⟩,
  ⟨(some 12), .ar .i64 .add (.tmp 11) (.const (.int .i64 1)), none⟩,
  ⟨(some 6), .mov (.tmp 12), none⟩]))))))
 (.seq (.ops [⟨(some 24), .mov (.tmp 5), none⟩,
  ⟨(some 4), .mov (.tmp 24), none⟩])
 .ret))))
theorem enter32 {xs : List Value} {h : Hp} {Q : Value → Hp → Prop} (hl : xs.length ≤ 25) (w : wq E 25 none c32 (frameOf xs) h [] (leaveQ E [.tmp 4] Q)) : CallP E 32 xs h Q :=
  CallP.enterQ (fn := Try.f32) (fn_get Try.func32) (code := Try.f32.body.get rfl) rfl rfl rfl (by kernel_rfl) rfl (fun _ => rfl) hl w
theorem can32 : callable E 32 = true := callable_get Try.func32 rfl rfl

/-- tosher/tosherlaw08.plan -/
def c33 : C := (.seq (.ops [⟨(some 6), .mov (.const (.slice none 0 0)), none⟩])
 (.seq (.seq (.ops [⟨(some 9), .mov (.tmp 1), none⟩,
  ⟨(some 10), .mov (.tmp 2), none⟩,
  ⟨(some 11), .ar .i64 .eql (.tmp 9) (.tmp 10), none⟩])
 (.cond (.tmp 11) (.seq (.ops [⟨(some 6), .mov (.const (.slice none 0 0)), none⟩])
 .ret)
 .skip))
 (.seq (.ops [⟨(some 12), .mov (.tmp 1), none⟩,
  ⟨(some 7), .mov (.tmp 12), none⟩])
 (.seq (.seq (.ops [⟨(some 13), .mov (.tmp 0), none⟩,
  ⟨(some 14), .lenS (.tmp 13), none⟩,
  ⟨(some 15), .ar .i64 .gtr (.tmp 14) (.const (.int .i64 0)), none⟩])
 (.cond (.tmp 15) (.ops [⟨(some 16), .mov (.tmp 1), none⟩,
  ⟨(some 17), .mov (.tmp 0), none⟩,
  ⟨(some 18), .mov (.tmp 1), none⟩,
  ⟨(some 19), .mov (.tmp 2), none⟩,
  ⟨(some 20), .ar .i64 .add (.tmp 18) (.tmp 19), none⟩,
  ⟨(some 21), .mov (.tmp 0), none⟩,
  ⟨(some 22), .lenS (.tmp 21), none⟩,
  ⟨(some 23), .ar .i64 .rem (.tmp 20) (.tmp 22), none⟩,
  ⟨(some 24), .idxS 1 (.tmp 17) (.tmp 23), none⟩,
  ⟨(some 25), .load1 (.tmp 24), none⟩,
  ⟨(some 26), .cint .u64 (.tmp 25), none⟩,
  ⟨(some 27), .mov (.tmp 2), none⟩,
  ⟨(some 28), .mov (.tmp 1), none⟩,
  ⟨(some 29), .ar .i64 .sub (.tmp 27) (.tmp 28), none⟩,
  ⟨(some 30), .cint .u64 (.tmp 29), none⟩,
  ⟨(some 31), .ar .u64 .rem (.tmp 26) (.tmp 30), none⟩,
  ⟨(some 32), .cint .i64 (.tmp 31), none⟩,
  ⟨(some 33), .ar .i64 .add (.tmp 16) (.tmp 32), none⟩,
  ⟨(some 7), .mov (.tmp 33), none⟩])
 .skip))
 (.seq (.ops [⟨(some 34), .mov (.tmp 7), none⟩,
  ⟨(some 35), .slit 3 1 [(.int .i64 0)] [(0, 1, (.tmp 34))], none⟩,
  ⟨(some 36), .mov (.tmp 0), none⟩,
  ⟨(some 37), .mov (.tmp 1), none⟩,
  ⟨(some 38), .mov (.tmp 7), none⟩,
  ⟨(some 39), .call 33 [(.tmp 36), (.tmp 37), (.tmp 38)], none⟩,
  ⟨(some 40), .append 3 1 8 (.tmp 35) (.tmp 39), none⟩,
  ⟨(some 8), .mov (.tmp 40), none⟩])
 (.seq (.ops [⟨(some 41), .mov (.tmp 8), none⟩,
  ⟨(some 42), .mov (.tmp 0), none⟩,
  ⟨(some 43), .mov (.tmp 7), none⟩,
  ⟨(some 44), .ar .i64 .add (.tmp 43) (.const (.int .i64 1)), none⟩,
  ⟨(some 45), .mov (.tmp 2), none⟩,
  ⟨(some 46), .call 33 [(.tmp 42), (.tmp 44), (.tmp 45)], none⟩,
  ⟨(some 47), .append 3 1 8 (.tmp 41) (.tmp 46), none⟩,
  ⟨(some 6), .mov (.tmp 47), none⟩])
 .ret))))))
theorem enter33 {xs : List Value} {h : Hp} {Q : Value → Hp → Prop} (hl : xs.length ≤ 48) (w : wq E 48 none c33 (frameOf xs) h [] (leaveQ E [.tmp 6] Q)) : CallP E 33 xs h Q :=
  CallP.enterQ (fn := Try.f33) (fn_get Try.func33) (code := Try.f33.body.get rfl) rfl rfl rfl (by kernel_rfl) rfl (fun _ => rfl) hl w
theorem can33 : callable E 33 = true := callable_get Try.func33 rfl rfl

/-- tosher/tosherref08.Least -/
def c34 : C := (.seq (.ops [⟨(some 8), .mov (.const (.int .i64 0)), none⟩])
 (.seq (.ops [⟨(some 16), .mov (.tmp 0), none⟩,
  ⟨(some 17), .lenS (.tmp 16), none⟩,
  ⟨(some 18), .ar .i64 .add (.tmp 17) (.const (.int .i64 1)), none⟩,
  ⟨(some 9), .mov (.tmp 18), none⟩])
 (.seq (.ops [⟨(some 19), .mov (.tmp 9), none⟩,
  ⟨(some 20), .make 22 [(.slice none 0 0)] 24 (.tmp 19) (.tmp 19), none⟩,
  ⟨(some 10), .mov (.tmp 20), none⟩])
 (.seq (.seq (.ops [⟨(some 21), .mov (.tmp 9), none⟩,
  ⟨(some 22), .ar .i64 .sub (.tmp 21) (.const (.int .i64 1)), none⟩,
  ⟨(some 11), .mov (.tmp 22), none⟩])
 (.block 0 (.loop (.seq (.seq (.ops [⟨(some 23), .mov (.tmp 11), none⟩,
  ⟨(some 24), .ar .i64 .geq (.tmp 23) (.const (.int .i64 0)), none⟩])
 (.cond (.tmp 24) .skip
 (.exit 0)))
 (.seq (.block 1 (.seq (.ops [⟨(some 27), .mov (.tmp 10), none⟩,
  ⟨(some 28), .mov (.tmp 11), none⟩,
  ⟨(some 29), .mov (.tmp 9), none⟩,
  ⟨(some 30), .make 3 [(.int .i64 0)] 8 (.tmp 29) (.tmp 29), none⟩,
  ⟨(some 31), .idxS 1 (.tmp 27) (.tmp 28), none⟩,
  ⟨none, .store 1 (.tmp 31) (.tmp 30), none⟩])
 (.seq (.ops [⟨(some 12), .mov (.const (.int .i64 0)), none⟩])
 (.seq (.ops [⟨(some 32), .mov (.tmp 11), none⟩,
  ⟨(some 13), .mov (.tmp 32), none⟩])
 (.block 2 (.loop (.seq (.seq (.ops [⟨(some 33), .mov (.tmp 13), none⟩,
  ⟨(some 34), .mov (.tmp 9), none⟩,
  ⟨(some 35), .ar .i64 .lss (.tmp 33) (.tmp 34), none⟩])
 (.cond (.tmp 35) .skip
 (.exit 2)))
 (.seq (.block 3 (.seq (.seq (.ops [⟨(some 38), .mov (.tmp 1), none⟩,
  ⟨(some 39), .lenS (.tmp 38), none⟩,
  ⟨(some 40), .ar .i64 .gtr (.tmp 39) (.const (.int .i64 0)), none⟩])
 (.cond (.tmp 40) (.ops [⟨(some 41), .mov (.tmp 12), none⟩,
  ⟨(some 42), .mov (.tmp 1), none⟩,
  ⟨(some 43), .mov (.tmp 13), none⟩,
  ⟨(some 44), .idxS 1 (.tmp 42) (.tmp 43), none⟩,
  ⟨(some 45), .load1 (.tmp 44), none⟩,
  ⟨(some 46), .ar .i64 .add (.tmp 41) (.tmp 45), none⟩,
  ⟨(some 12), .mov (.tmp 46), none⟩])
 .skip))
 (.seq (.seq (.ops [⟨(some 47), .mov (.tmp 13), none⟩,
  ⟨(some 48), .mov (.tmp 11), none⟩,
  ⟨(some 49), .ar .i64 .eql (.tmp 47) (.tmp 48), none⟩])
 (.cond (.tmp 49) (.exit 3)
 .skip))
 (.seq (.ops [⟨(some 50), .mov (.tmp 10), none⟩,
  ⟨(some 51), .mov (.tmp 11), none⟩,
  ⟨(some 52), .idxS 1 (.tmp 50) (.tmp 51), none⟩,
  ⟨(some 53), .load1 (.tmp 52), none⟩,
  ⟨(some 54), .mov (.tmp 13), none⟩,
  ⟨(some 55), .idxS 1 (.tmp 53) (.tmp 54), none⟩,
  ⟨none, .store 1 (.tmp 55) (.const (.int .i64 (-1))), none⟩])
 (.seq (.ops [⟨(some 56), .mov (.tmp 11), none⟩,
  ⟨(some 14), .mov (.tmp 56), none⟩])
 (.block 4 (.loop (.seq (.seq (.ops [⟨(some 57), .mov (.tmp 14), none⟩,
  ⟨(some 58), .mov (.tmp 13), none⟩,
  ⟨(some 59), .ar .i64 .lss (.tmp 57) (.tmp 58), none⟩])
 (.cond (.tmp 59) .skip
 (.exit 4)))
 (.seq (.block 5 (.seq (.ops [⟨(some 62), .mov (.tmp 0), none⟩,
  ⟨(some 63), .mov (.tmp 14), none⟩,
  ⟨(some 64), .idxS 1 (.tmp 62) (.tmp 63), none⟩,
  ⟨(some 65), .load1 (.tmp 64), none⟩,
  ⟨(some 66), .mov (.tmp 10), none⟩,
  ⟨(some 67), .mov (.tmp 11), none⟩,
  ⟨(some 68), .idxS 1 (.tmp 66) (.tmp 67), none⟩,
  ⟨(some 69), .load1 (.tmp 68), none⟩,
  ⟨(some 70), .mov (.tmp 14), none⟩,
  ⟨(some 71), .idxS 1 (.tmp 69) (.tmp 70), none⟩,
  ⟨(some 72), .load1 (.tmp 71), none⟩,
  ⟨(some 73), .mov (.tmp 10), none⟩,
  ⟨(some 74), .mov (.tmp 14), none⟩,
  ⟨(some 75), .ar .i64 .add (.tmp 74) (.const (.int .i64 1)), none⟩,
  ⟨(some 76), .idxS 1 (.tmp 73) (.tmp 75), none⟩,
  ⟨(some 77), .load1 (.tmp 76), none⟩,
  ⟨(some 78), .mov (.tmp 13), none⟩,
  ⟨(some 79), .idxS 1 (.tmp 77) (.tmp 78), none⟩,
  ⟨(some 80), .load1 (.tmp 79), none⟩,
  ⟨(some 81), .raw (.call ⟨.builtin .max, ⟨[(.tmp 72), (.tmp 80)]⟩, ⟨[3, 3]⟩⟩) 3, none⟩,
  ⟨(some 82), .ar .i64 .add (.tmp 65) (.tmp 81), none⟩,
  ⟨(some 15), .mov (.tmp 82), none⟩])
 (.seq (.seq (.ops [⟨(some 83), .mov (.tmp 1), none⟩,
  ⟨(some 84), .lenS (.tmp 83), none⟩,
  ⟨(some 85), .ar .i64 .gtr (.tmp 84) (.const (.int .i64 0)), none⟩])
 (.cond (.tmp 85) (.ops [⟨(some 86), .mov (.tmp 12), none⟩,
  ⟨(some 87), .mov (.tmp 0), none⟩,
  ⟨(some 88), .mov (.tmp 14), none⟩,
  ⟨(some 89), .idxS 1 (.tmp 87) (.tmp 88), none⟩,
  ⟨(some 90), .load1 (.tmp 89), none⟩,
  ⟨(some 91), .ar .i64 .mul (.tmp 86) (.tmp 90), none⟩,
  ⟨(some 92), .mov (.tmp 10), none⟩,
  ⟨(some 93), .mov (.tmp 11), none⟩,
  ⟨(some 94), .idxS 1 (.tmp 92) (.tmp 93), none⟩,
  ⟨(some 95), .load1 (.tmp 94), none⟩,
  ⟨(some 96), .mov (.tmp 14), none⟩,
  ⟨(some 97), .idxS 1 (.tmp 95) (.tmp 96), none⟩,
  ⟨(some 98), .load1 (.tmp 97), none⟩,
  ⟨(some 99), .ar .i64 .add (.tmp 91) (.tmp 98), none⟩,
  ⟨(some 100), .mov (.tmp 10), none⟩,
  ⟨(some 101), .mov (.tmp 14), none⟩,
  ⟨(some 102), .ar .i64 .add (.tmp 101) (.const (.int .i64 1)), none⟩,
  ⟨(some 103), .idxS 1 (.tmp 100) (.tmp 102), none⟩,
  ⟨(some 104), .load1 (.tmp 103), none⟩,
  ⟨(some 105), .mov (.tmp 13), none⟩,
  ⟨(some 106), .idxS 1 (.tmp 104) (.tmp 105), none⟩,
  ⟨(some 107), .load1 (.tmp 106), none⟩,
  ⟨(some 108), .ar .i64 .add (.tmp 99) (.tmp 107), none⟩,
  ⟨(some 15), .mov (.tmp 108), none⟩])
 .skip))
 (.seq (.ops [⟨(some 109), .mov (.tmp 10), none⟩,
  ⟨(some 110), .mov (.tmp 11), none⟩,
  ⟨(some 111), .idxS 1 (.tmp 109) (.tmp 110), none⟩,
  ⟨(some 112), .load1 (.tmp 111), none⟩,
  ⟨(some 113), .mov (.tmp 13), none⟩,
  ⟨(some 114), .idxS 1 (.tmp 112) (.tmp 113), none⟩,
  ⟨(some 115), .load1 (.tmp 114), none⟩,
  ⟨(some 116), .ar .i64 .lss (.tmp 115) (.const (.int .i64 0)), none⟩,
  ⟨(some 117), .mov (.tmp 116), none⟩,
  ⟨(some 118), .mov (.tmp 15), (some (117, false))⟩,
  ⟨(some 119), .mov (.tmp 10), (some (117, false))⟩,
  ⟨(some 120), .mov (.tmp 11), (some (117, false))⟩,
  ⟨(some 121), .idxS 1 (.tmp 119) (.tmp 120), (some (117, false))⟩,
  ⟨(some 122), .load1 (.tmp 121), (some (117, false))⟩,
  ⟨(some 123), .mov (.tmp 13), (some (117, false))⟩,
  ⟨(some 124), .idxS 1 (.tmp 122) (.tmp 123), (some (117, false))⟩,
  ⟨(some 125), .load1 (.tmp 124), (some (117, false))⟩,
  ⟨(some 126), .ar .i64 .lss (.tmp 118) (.tmp 125), (some (117, false))⟩,
  ⟨(some 127), .pick (.tmp 117) (.const (.bool true)) (.tmp 126), none⟩])
 (.cond (.tmp 127) (.ops [⟨(some 128), .mov (.tmp 10), none⟩,
  ⟨(some 129), .mov (.tmp 11), none⟩,
  ⟨(some 130), .idxS 1 (.tmp 128) (.tmp 129), none⟩,
  ⟨(some 131), .load1 (.tmp 130), none⟩,
  ⟨(some 132), .mov (.tmp 13), none⟩,
  ⟨(some 133), .mov (.tmp 15), none⟩,
  ⟨(some 134), .idxS 1 (.tmp 131) (.tmp 132), none⟩,
  ⟨none, .store 1 (.tmp 134) (.tmp 133), none⟩])
 .skip)))))
 (.ops [⟨(some 60), .mov (.tmp 14), none⟩,
  ⟨(some 61), .ar .i64 .add (.tmp 60) (.const (.int .i64 1)), none⟩,
  ⟨(some 14), .mov (.tmp 61), none⟩]))))))))))
 (.ops [⟨(some 36), .mov (.tmp 13), none⟩,
  ⟨(some 37), .ar .i64 .add (.tmp 36) (.const (.int .i64 1)), none⟩,
  ⟨(some 13), .mov (.tmp 37), none⟩])))))))))
 (.ops [⟨(some 25), .mov (.tmp 11), none⟩,
  ⟨(some 26), .ar .i64 .sub (.tmp 25) (.const (.int .i64 1)), none⟩,
  ⟨(some 11), .mov (.tmp 26), none⟩]))))))
 (.seq (.ops [⟨(some 135), .mov (.tmp 10), none⟩,
  ⟨(some 136), .mov (.tmp 2), none⟩,
  ⟨(some 137), .idxS 1 (.tmp 135) (.tmp 136), none⟩,
  ⟨(some 138), .load1 (.tmp 137), none⟩,
  ⟨(some 139), .mov (.tmp 3), none⟩,
  ⟨(some 140), .idxS 1 (.tmp 138) (.tmp 139), none⟩,
  ⟨(some 141), .load1 (.tmp 140), none⟩,
  ⟨(some 8), .mov (.tmp 141), none⟩])
 .ret)))))
theorem enter34 {xs : List Value} {h : Hp} {Q : Value → Hp → Prop} (hl : xs.length ≤ 142) (w : wq E 142 none c34 (frameOf xs) h [] (leaveQ E [.tmp 8] Q)) : CallP E 34 xs h Q :=
  CallP.enterQ (fn := Try.f34) (fn_get Try.func34) (code := Try.f34.body.get rfl) rfl rfl rfl (by kernel_rfl) rfl (fun _ => rfl) hl w
theorem can34 : callable E 34 = true := callable_get Try.func34 rfl rfl

/-- tosher/tosherref08.Worst -/
def c35 : C := (.seq (.ops [⟨(some 2), .mov (.const (.int .i64 0)), none⟩])
 (.seq (.ops [⟨(some 3), .mov (.const (.int .i64 0)), none⟩])
 (.seq (.seq (.ops [⟨(some 4), .mov (.const (.int .i64 0)), none⟩])
 (.block 0 (.loop (.seq (.seq (.ops [⟨(some 5), .mov (.tmp 4), none⟩,
  ⟨(some 6), .mov (.tmp 0), none⟩,
  ⟨(some 7), .lenS (.tmp 6), none⟩,
  ⟨(some 8), .ar .i64 .lss (.tmp 5) (.tmp 7), none⟩])
 (.cond (.tmp 8) .skip
 (.exit 0)))
 (.seq (.block 1 (.ops [⟨(some 11), .mov (.tmp 3), none⟩,
  ⟨(some 12), .mov (.tmp 0), none⟩,
  ⟨(some 13), .mov (.tmp 4), none⟩,
  ⟨(some 14), .idxS 1 (.tmp 12) (.tmp 13), none⟩,
  ⟨(some 15), .load1 (.tmp 14), none⟩,
  ⟨(some 16), .raw (.call ⟨.builtin .max, ⟨[(.tmp 11), (.tmp 15)]⟩, ⟨[3, 3]⟩⟩) 3, none⟩,
  ⟨(some 3), .mov (.tmp 16), none⟩]))
 (.ops [⟨(some 9), .mov (.tmp 4), none⟩,
  ⟨(some 10), .ar .i64 .add (.tmp 9) (.const (.int .i64 1)), none⟩,
  ⟨(some 4), .mov (.tmp 10), none⟩]))))))
 (.seq (.ops [⟨(some 17), .mov (.tmp 3), none⟩,
  ⟨(some 2), .mov (.tmp 17), none⟩])
 .ret))))
theorem enter35 {xs : List Value} {h : Hp} {Q : Value → Hp → Prop} (hl : xs.length ≤ 18) (w : wq E 18 none c35 (frameOf xs) h [] (leaveQ E [.tmp 2] Q)) : CallP E 35 xs h Q :=
  CallP.enterQ (fn := Try.f35) (fn_get Try.func35) (code := Try.f35.body.get rfl) rfl rfl rfl (by kernel_rfl) rfl (fun _ => rfl) hl w
theorem can35 : callable E 35 = true := callable_get Try.func35 rfl rfl

/-- tosher/search.CountPlans -/
def c36 : C := (.seq (.ops [⟨(some 2), .mov (.const (.int .i64 0)), none⟩,
  ⟨(some 3), .mov (.const (.int .i64 0)), none⟩])
 (.seq (.seq (.ops [⟨(some 4), .mov (.tmp 0), none⟩,
  ⟨(some 5), .ar .i64 .lss (.tmp 4) (.const (.int .i64 0)), none⟩,
  ⟨(some 6), .mov (.tmp 5), none⟩,
  ⟨(some 7), .mov (.tmp 0), (some (6, false))⟩,
  ⟨(some 8), .ar .i64 .gtr (.tmp 7) (.const (.int .i64 30)), (some (6, false))⟩,
  ⟨(some 9), .pick (.tmp 6) (.const (.bool true)) (.tmp 8), none⟩])
 (.cond (.tmp 9) (.seq (.ops [⟨(some 2), .mov (.const (.int .i64 0)), none⟩,
  ⟨(some 3), .mov (.const (.int .i64 1)), none⟩])
 .ret)
 .skip))
 (.seq (.ops [⟨(some 10), .mov (.tmp 0), none⟩,
  ⟨(some 11), .call 66 [(.tmp 10)], none⟩,
  ⟨(some 2), .mov (.tmp 11), none⟩,
  ⟨(some 3), .mov (.const (.int .i64 0)), none⟩])
 .ret)))
theorem enter36 {xs : List Value} {h : Hp} {Q : Value → Hp → Prop} (hl : xs.length ≤ 12) (w : wq E 12 none c36 (frameOf xs) h [] (leaveQ E [.tmp 2, .tmp 3] Q)) : CallP E 36 xs h Q :=
  CallP.enterQ (fn := Try.f36) (fn_get Try.func36) (code := Try.f36.body.get rfl) rfl rfl rfl (by kernel_rfl) rfl (fun _ => rfl) hl w
theorem can36 : callable E 36 = true := callable_get Try.func36 rfl rfl

/-- tosher/search.Steps -/
def c49 : C := (.seq (.ops [⟨(some 4), .mov (.const (.int .i64 0)), none⟩,
  ⟨(some 5), .mov (.const (.int .i64 0)), none⟩])
 (.seq (.seq (.ops [⟨(some 6), .mov (.tmp 0), none⟩,
  ⟨(some 7), .slit 3 1 [(.int .i64 0)] [(0, 1, (.tmp 6))], none⟩,
  ⟨(some 8), .call 55 [(.const (.int .i64 0)), (.const (.int .i64 20)), (.tmp 7)], none⟩,
  ⟨(some 9), .not (.tmp 8), none⟩,
  ⟨(some 10), .mov (.tmp 9), none⟩,
  ⟨(some 11), .mov (.tmp 1), (some (10, false))⟩,
  ⟨(some 12), .slit 3 1 [(.int .i64 0)] [(0, 1, (.tmp 11))], (some (10, false))⟩,
  ⟨(some 13), .call 55 [(.const (.int .i64 0)), (.const (.int .i64 60)), (.tmp 12)], (some (10, false))⟩,
  ⟨(some 14), .not (.tmp 13), (some (10, false))⟩,
  ⟨(some 15), .pick (.tmp 10) (.const (.bool true)) (.tmp 14), none⟩])
 (.cond (.tmp 15) (.seq (.ops [⟨(some 4), .mov (.const (.int .i64 0)), none⟩,
  ⟨(some 5), .mov (.const (.int .i64 1)), none⟩])
 .ret)
 .skip))
 (.seq (.ops [⟨(some 16), .mov (.tmp 0), none⟩,
  ⟨(some 17), .mov (.tmp 1), none⟩,
  ⟨(some 18), .call 75 [(.tmp 16), (.tmp 17)], none⟩,
  ⟨(some 4), .mov (.tmp 18), none⟩,
  ⟨(some 5), .mov (.const (.int .i64 0)), none⟩])
 .ret)))
theorem enter49 {xs : List Value} {h : Hp} {Q : Value → Hp → Prop} (hl : xs.length ≤ 19) (w : wq E 19 none c49 (frameOf xs) h [] (leaveQ E [.tmp 4, .tmp 5] Q)) : CallP E 49 xs h Q :=
  CallP.enterQ (fn := Try.f49) (fn_get Try.func49) (code := Try.f49.body.get rfl) rfl rfl rfl (by kernel_rfl) rfl (fun _ => rfl) hl w
theorem can49 : callable E 49 = true := callable_get Try.func49 rfl rfl

/-- tosher/tosherref08.Steps -/
def c50 : C := (.seq (.ops [⟨(some 4), .mov (.const (.int .i64 0)), none⟩])
 (.seq (.ops [⟨(some 8), .mov (.tmp 0), none⟩,
  ⟨(some 9), .ar .i64 .add (.tmp 8) (.const (.int .i64 1)), none⟩,
  ⟨(some 10), .make 2 [(.int .i64 0)] 8 (.tmp 9) (.tmp 9), none⟩,
  ⟨(some 5), .mov (.tmp 10), none⟩])
 (.seq (.seq (.ops [⟨(some 6), .mov (.const (.int .i64 0)), none⟩])
 (.block 0 (.loop (.seq (.seq (.ops [⟨(some 11), .mov (.tmp 6), none⟩,
  ⟨(some 12), .mov (.tmp 1), none⟩,
  ⟨(some 13), .ar .i64 .lss (.tmp 11) (.tmp 12), none⟩])
 (.cond (.tmp 13) .skip
 (.exit 0)))
 (.seq (.block 1 (.seq (.ops [⟨(some 16), .mov (.tmp 0), none⟩,
  ⟨(some 7), .mov (.tmp 16), none⟩])
 (.block 2 (.loop (.seq (.seq (.ops [⟨(some 17), .mov (.tmp 7), none⟩,
  ⟨(some 18), .ar .i64 .geq (.tmp 17) (.const (.int .i64 1)), none⟩])
 (.cond (.tmp 18) .skip
 (.exit 2)))
 (.seq (.block 3 (.ops [⟨(some 21), .mov (.tmp 5), none⟩,
  ⟨(some 22), .mov (.tmp 7), none⟩,
  ⟨(some 23), .mov (.tmp 5), none⟩,
  ⟨(some 24), .mov (.tmp 7), none⟩,
  ⟨(some 25), .idxS 1 (.tmp 23) (.tmp 24), none⟩,
  ⟨(some 26), .load1 (.tmp 25), none⟩,
  ⟨(some 27), .ar .i64 .add (.tmp 26) (.const (.int .i64 1)), none⟩,
  ⟨(some 28), .mov (.tmp 5), none⟩,
  ⟨(some 29), .mov (.tmp 7), none⟩,
  ⟨(some 30), .ar .i64 .sub (.tmp 29) (.const (.int .i64 1)), none⟩,
  ⟨(some 31), .idxS 1 (.tmp 28) (.tmp 30), none⟩,
  ⟨(some 32), .load1 (.tmp 31), none⟩,
  ⟨(some 33), .ar .i64 .add (.tmp 27) (.tmp 32), none⟩,
  ⟨(some 34), .idxS 1 (.tmp 21) (.tmp 22), none⟩,
  ⟨none, .store 1 (.tmp 34) (.tmp 33), none⟩]))
 (.ops [⟨(some 19), .mov (.tmp 7), none⟩,
  ⟨(some 20), .ar .i64 .sub (.tmp 19) (.const (.int .i64 1)), none⟩,
  ⟨(some 7), .mov (.tmp 20), none⟩])))))))
 (.ops [⟨(some 14), .mov (.tmp 6), none⟩,
  ⟨(some 15), .ar .i64 .add (.tmp 14) (.const (.int .i64 1)), none⟩,
  ⟨(some 6), .mov (.tmp 15), none⟩]))))))
 (.seq (.ops [⟨(some 35), .mov (.tmp 5), none⟩,
  ⟨(some 36), .mov (.tmp 0), none⟩,
  ⟨(some 37), .idxS 1 (.tmp 35) (.tmp 36), none⟩,
  ⟨(some 38), .load1 (.tmp 37), none⟩,
  ⟨(some 4), .mov (.tmp 38), none⟩])
 .ret))))
theorem enter50 {xs : List Value} {h : Hp} {Q : Value → Hp → Prop} (hl : xs.length ≤ 39) (w : wq E 39 none c50 (frameOf xs) h [] (leaveQ E [.tmp 4] Q)) : CallP E 50 xs h Q :=
  CallP.enterQ (fn := Try.f50) (fn_get Try.func50) (code := Try.f50.body.get rfl) rfl rfl rfl (by kernel_rfl) rfl (fun _ => rfl) hl w
theorem can50 : callable E 50 = true := callable_get Try.func50 rfl rfl

/-- tosher/search.Tries -/
def c51 : C := (.seq (.ops [⟨(some 4), .mov (.const (.int .i64 0)), none⟩,
  ⟨(some 5), .mov (.const (.int .i64 0)), none⟩])
 (.seq (.seq (.ops [⟨(some 7), .mov (.tmp 0), none⟩,
  ⟨(some 8), .slit 3 1 [(.int .i64 0)] [(0, 1, (.tmp 7))], none⟩,
  ⟨(some 9), .call 55 [(.const (.int .i64 1)), (.const (.int .i64 20)), (.tmp 8)], none⟩,
  ⟨(some 10), .not (.tmp 9), none⟩,
  ⟨(some 11), .mov (.tmp 10), none⟩,
  ⟨(some 12), .mov (.tmp 1), (some (11, false))⟩,
  ⟨(some 13), .ar .i64 .lss (.tmp 12) (.const (.int .i64 0)), (some (11, false))⟩,
  ⟨(some 14), .pick (.tmp 11) (.const (.bool true)) (.tmp 13), none⟩,
  ⟨(some 15), .mov (.tmp 14), none⟩,
  ⟨(some 16), .mov (.tmp 1), (some (15, false))⟩,
  ⟨(some 17), .ar .i64 .gtr (.tmp 16) (.const (.int .i64 1000000000000)), (some (15, false))⟩,
  ⟨(some 18), .pick (.tmp 15) (.const (.bool true)) (.tmp 17), none⟩])
 (.cond (.tmp 18) (.seq (.ops [⟨(some 4), .mov (.const (.int .i64 0)), none⟩,
  ⟨(some 5), .mov (.const (.int .i64 1)), none⟩])
 .ret)
 .skip))
 (.seq (.seq (.ops [⟨(some 19), .mov (.const (.int .i64 0)), none⟩])
 (.block 0 (.loop (.seq (.ops [⟨(some 20), .ar .i64 .lss (.tmp 19) (.const (.int .i64 61)), none⟩])
 (.seq (.cond (.tmp 20) .skip
 (.exit 0))
 (.seq (.block 1 (.seq (.ops [⟨(some 21), .mov (.tmp 19), none⟩,
  ⟨(some 6), .mov (.tmp 21), none⟩])
 (.seq (.ops [⟨(some 22), .mov (.tmp 0), none⟩,
  ⟨(some 23), .mov (.tmp 6), none⟩,
  ⟨(some 24), .call 75 [(.tmp 22), (.tmp 23)], none⟩,
  ⟨(some 25), .mov (.tmp 1), none⟩,
  ⟨(some 26), .ar .i64 .geq (.tmp 24) (.tmp 25), none⟩])
 (.cond (.tmp 26) (.seq (.ops [⟨(some 27), .mov (.tmp 6), none⟩,
  ⟨(some 4), .mov (.tmp 27), none⟩,
  ⟨(some 5), .mov (.const (.int .i64 0)), none⟩])
 .ret)
 .skip))))
 (.ops [⟨(some 28), .ar .i64 .add (.tmp 19) (.const (.int .i64 1)), none⟩,
  ⟨(some 19), .mov (.tmp 28), none⟩])))))))
 (.seq (.ops [⟨(some 4), .mov (.const (.int .i64 0)), none⟩,
  ⟨(some 5), .mov (.const (.int .i64 8)), none⟩])
 .ret))))
theorem enter51 {xs : List Value} {h : Hp} {Q : Value → Hp → Prop} (hl : xs.length ≤ 29) (w : wq E 29 none c51 (frameOf xs) h [] (leaveQ E [.tmp 4, .tmp 5] Q)) : CallP E 51 xs h Q :=
  CallP.enterQ (fn := Try.f51) (fn_get Try.func51) (code := Try.f51.body.get rfl) rfl rfl rfl (by kernel_rfl) rfl (fun _ => rfl) hl w
theorem can51 : callable E 51 = true := callable_get Try.func51 rfl rfl

/-- tosher/search.Drop -/
def c52 : C := (.seq (.ops [⟨(some 4), .mov (.const (.int .i64 0)), none⟩,
  ⟨(some 5), .mov (.const (.int .i64 0)), none⟩])
 (.seq (.ops [⟨(some 9), .mov (.tmp 0), none⟩,
  ⟨(some 10), .mov (.tmp 1), none⟩,
  ⟨(some 11), .call 51 [(.tmp 9), (.tmp 10)], none⟩,
  ⟨(some 8), .mov (.tmp 11), none⟩,
  ⟨(some 12), .ext (.tmp 8) 0, none⟩,
  ⟨(some 13), .ext (.tmp 8) 1, none⟩,
  ⟨(some 6), .mov (.tmp 12), none⟩,
  ⟨(some 7), .mov (.tmp 13), none⟩])
 (.seq (.seq (.ops [⟨(some 14), .mov (.tmp 7), none⟩,
  ⟨(some 15), .ar .i64 .neq (.tmp 14) (.const (.int .i64 0)), none⟩])
 (.cond (.tmp 15) (.seq (.ops [⟨(some 16), .mov (.tmp 7), none⟩,
  ⟨(some 4), .mov (.const (.int .i64 0)), none⟩,
  ⟨(some 5), .mov (.tmp 16), none⟩])
 .ret)
 .skip))
 (.seq (.seq (.ops [⟨(some 17), .mov (.tmp 1), none⟩,
  ⟨(some 18), .ar .i64 .eql (.tmp 17) (.const (.int .i64 0)), none⟩])
 (.cond (.tmp 18) (.seq (.ops [⟨(some 4), .mov (.const (.int .i64 0)), none⟩,
  ⟨(some 5), .mov (.const (.int .i64 1)), none⟩])
 .ret)
 .skip))
 (.seq (.ops [⟨(some 19), .mov (.tmp 1), none⟩,
  ⟨(some 20), .mov (.tmp 0), none⟩,
  ⟨(some 21), .mov (.tmp 6), none⟩,
  ⟨(some 22), .ar .i64 .sub (.tmp 21) (.const (.int .i64 1)), none⟩,
  ⟨(some 23), .call 75 [(.tmp 20), (.tmp 22)], none⟩,
  ⟨(some 24), .ar .i64 .sub (.tmp 19) (.tmp 23), none⟩,
  ⟨(some 4), .mov (.tmp 24), none⟩,
  ⟨(some 5), .mov (.const (.int .i64 0)), none⟩])
 .ret)))))
theorem enter52 {xs : List Value} {h : Hp} {Q : Value → Hp → Prop} (hl : xs.length ≤ 25) (w : wq E 25 none c52 (frameOf xs) h [] (leaveQ E [.tmp 4, .tmp 5] Q)) : CallP E 52 xs h Q :=
  CallP.enterQ (fn := Try.f52) (fn_get Try.func52) (code := Try.f52.body.get rfl) rfl rfl rfl (by kernel_rfl) rfl (fun _ => rfl) hl w
theorem can52 : callable E 52 = true := callable_get Try.func52 rfl rfl

/-- tosher/tosherref08.Tries -/
def c53 : C := (.seq (.ops [⟨(some 4), .mov (.const (.int .i64 0)), none⟩])
 (.seq (.seq (.ops [⟨(some 5), .mov (.const (.int .i64 0)), none⟩])
 (.block 0 (.loop (.seq (.seq (.ops [⟨(some 6), .mov (.tmp 5), none⟩,
  ⟨(some 7), .ar .i64 .leq (.tmp 6) (.const (.int .i64 60)), none⟩])
 (.cond (.tmp 7) .skip
 (.exit 0)))
 (.seq (.block 1 (.seq (.ops [⟨(some 10), .mov (.tmp 0), none⟩,
  ⟨(some 11), .mov (.tmp 5), none⟩,
  ⟨(some 12), .call 50 [(.tmp 10), (.tmp 11)], none⟩,
  ⟨(some 13), .mov (.tmp 1), none⟩,
  ⟨(some 14), .ar .i64 .geq (.tmp 12) (.tmp 13), none⟩])
 (.cond (.tmp 14) (.seq (.ops [⟨(some 15), .mov (.tmp 5), none⟩,
  ⟨(some 4), .mov (.tmp 15), none⟩])
 .ret)
 .skip)))
 (.ops [⟨(some 8), .mov (.tmp 5), none⟩,
  ⟨(some 9), .ar .i64 .add (.tmp 8) (.const (.int .i64 1)), none⟩,
  ⟨(some 5), .mov (.tmp 9), none⟩]))))))
 (.seq (.ops [⟨(some 4), .mov (.const (.int .i64 (-1))), none⟩])
 .ret)))
theorem enter53 {xs : List Value} {h : Hp} {Q : Value → Hp → Prop} (hl : xs.length ≤ 16) (w : wq E 16 none c53 (frameOf xs) h [] (leaveQ E [.tmp 4] Q)) : CallP E 53 xs h Q :=
  CallP.enterQ (fn := Try.f53) (fn_get Try.func53) (code := Try.f53.body.get rfl) rfl rfl rfl (by kernel_rfl) rfl (fun _ => rfl) hl w
theorem can53 : callable E 53 = true := callable_get Try.func53 rfl rfl

/-- tosher/search.isWithin -/
def c55 : C := (.seq (.ops [⟨(some 6), .mov (.const (.bool false)), none⟩])
 (.seq (.seq (.ops [⟨(some 9), .mov (.tmp 2), none⟩,
  ⟨(some 10), .lenS (.tmp 9), none⟩,
  ⟨(some 11), .mov (.const (.int .i64 0)), none⟩])
 (.block 0 (.loop (.seq (.ops [⟨(some 12), .ar .i64 .lss (.tmp 11) (.tmp 10), none⟩])
 (.seq (.cond (.tmp 12) .skip
 (.exit 0))
 (.seq (.block 1 (.seq (.ops [⟨(some 13), .idxS 1 (.tmp 9) (.tmp 11), none⟩,
  ⟨(some 14), .load1 (.tmp 13), none⟩,
  ⟨(some 8), .mov (.tmp 14), none⟩])
 (.seq (.ops [⟨(some 15), .mov (.tmp 8), none⟩,
  ⟨(some 16), .mov (.tmp 0), none⟩,
  ⟨(some 17), .ar .i64 .lss (.tmp 15) (.tmp 16), none⟩,
  ⟨(some 18), .mov (.tmp 17), none⟩,
  ⟨(some 19), .mov (.tmp 8), (some (18, false))⟩,
  ⟨(some 20), .mov (.tmp 1), (some (18, false))⟩,
  ⟨(some 21), .ar .i64 .gtr (.tmp 19) (.tmp 20), (some (18, false))⟩,
  ⟨(some 22), .pick (.tmp 18) (.const (.bool true)) (.tmp 21), none⟩])
 (.cond (.tmp 22) (.seq (.ops [⟨(some 6), .mov (.const (.bool false)), none⟩])
 .ret)
 .skip))))
 (.ops [⟨(some 23), .ar .i64 .add (.tmp 11) (.const (.int .i64 1)), none⟩,
  ⟨(some 11), .mov (.tmp 23), none⟩])))))))
 (.seq (.ops [⟨(some 6), .mov (.const (.bool true)), none⟩])
 .ret)))
theorem enter55 {xs : List Value} {h : Hp} {Q : Value → Hp → Prop} (hl : xs.length ≤ 24) (w : wq E 24 none c55 (frameOf xs) h [] (leaveQ E [.tmp 6] Q)) : CallP E 55 xs h Q :=
  CallP.enterQ (fn := Try.f55) (fn_get Try.func55) (code := Try.f55.body.get rfl) rfl rfl rfl (by kernel_rfl) rfl (fun _ => rfl) hl w
theorem can55 : callable E 55 = true := callable_get Try.func55 rfl rfl

/-- tosher/search.isPlan -/
def c56 : C := (.seq (.ops [⟨(some 4), .mov (.const (.bool false)), none⟩])
 (.seq (.ops [⟨(some 5), .alloc 113 [.nilFunc], none⟩])
 (.seq (.ops [⟨(some 6), .func (.func 76) [] [(.tmp 5)], none⟩,
  ⟨none, .store 1 (.tmp 5) (.tmp 6), none⟩])
 (.seq (.ops [⟨(some 7), .load1 (.tmp 5), none⟩,
  ⟨(some 8), .mov (.tmp 0), none⟩,
  ⟨(some 9), .aggr [(.int .i64 0), (.int .i64 0)] [(0, 1, (.const (.int .i64 0))), (1, 1, (.tmp 8))], none⟩,
  ⟨(some 10), .mov (.tmp 1), none⟩,
  ⟨(some 11), .callv (.tmp 7) [(.tmp 9), (.tmp 10)], none⟩,
  ⟨(some 4), .mov (.tmp 11), none⟩])
 .ret))))
theorem enter56 {xs : List Value} {h : Hp} {Q : Value → Hp → Prop} (hl : xs.length ≤ 12) (w : wq E 12 none c56 (frameOf xs) h [] (leaveQ E [.tmp 4] Q)) : CallP E 56 xs h Q :=
  CallP.enterQ (fn := Try.f56) (fn_get Try.func56) (code := Try.f56.body.get rfl) rfl rfl rfl (by kernel_rfl) rfl (fun _ => rfl) hl w
theorem can56 : callable E 56 = true := callable_get Try.func56 rfl rfl

/-- tosher/search.worst -/
def c57 : C := (.seq (.ops [⟨(some 1), .box 22 (.tmp 0), none⟩,
  ⟨(some 2), .alloc 88 [(.int .i64 0), (.int .i64 0), (.int .i64 0), (.int .i64 0), (.int .i64 0), (.int .i64 0), (.int .i64 0), (.int .i64 0), (.int .i64 0), (.int .i64 0), (.int .i64 0), (.int .i64 0), (.int .i64 0), (.int .i64 0), (.int .i64 0), (.int .i64 0), (.int .i64 0), (.int .i64 0), (.int .i64 0), (.int .i64 0), (.int .i64 0), (.int .i64 0), (.int .i64 0), (.int .i64 0), (.int .i64 0), (.int .i64 0), (.int .i64 0), (.int .i64 0), (.int .i64 0), (.int .i64 0), (.int .i64 0), (.int .i64 0), (.int .i64 0), (.int .i64 0), (.int .i64 0), (.int .i64 0), (.int .i64 0), (.int .i64 0), (.int .i64 0), (.int .i64 0), (.int .i64 0), (.int .i64 0), (.int .i64 0), (.int .i64 0), (.int .i64 0), (.int .i64 0), (.int .i64 0), (.int .i64 0), (.int .i64 0), (.int .i64 0), (.int .i64 0), (.int .i64 0), (.int .i64 0), (.int .i64 0), (.int .i64 0), (.int .i64 0), (.int .i64 0), (.int .i64 0), (.int .i64 0), (.int .i64 0), (.int .i64 0), (.int .i64 0), (.int .i64 0), (.int .i64 0), (.int .i64 0), (.int .i64 0), (.int .i64 0), (.int .i64 0), (.int .i64 0), (.int .i64 0), (.int .i64 0), (.int .i64 0), (.int .i64 0), (.int .i64 0), (.int .i64 0), (.int .i64 0), (.int .i64 0), (.int .i64 0), (.int .i64 0), (.int .i64 0), (.int .i64 0), (.int .i64 0), (.int .i64 0), (.int .i64 0), (.int .i64 0), (.int .i64 0), (.int .i64 0), (.int .i64 0), (.int .i64 0), (.int .i64 0), (.int .i64 0), (.int .i64 0), (.int .i64 0), (.int .i64 0), (.int .i64 0), (.int .i64 0), (.int .i64 0), (.int .i64 0), (.int .i64 0), (.int .i64 0), (.int .i64 0), (.int .i64 0), (.int .i64 0), (.int .i64 0), (.int .i64 0), (.int .i64 0), (.int .i64 0), (.int .i64 0), (.int .i64 0), (.int .i64 0), (.int .i64 0), (.int .i64 0), (.int .i64 0), (.int .i64 0), (.int .i64 0), (.int .i64 0), (.int .i64 0), (.int .i64 0), (.int .i64 0), (.int .i64 0), (.int .i64 0), (.int .i64 0), (.int .i64 0), (.int .i64 0), (.int .i64 0), (.int .i64 0), (.int .i64 0), (.int .i64 0), (.int .i64 0), (.int .i64 0), (.int .i64 0), (.int .i64 0), (.int .i64 0), (.int .i64 0), (.int .i64 0), (.int .i64 0), (.int .i64 0), (.int .i64 0), (.int .i64 0), (.int .i64 0), (.int .i64 0), (.int .i64 0), (.int .i64 0), (.int .i64 0), (.int .i64 0), (.int .i64 0), (.int .i64 0), (.int .i64 0), (.int .i64 0), (.int .i64 0), (.int .i64 0), (.int .i64 0), (.int .i64 0), (.int .i64 0), (.int .i64 0), (.int .i64 0), (.int .i64 0), (.int .i64 0), (.int .i64 0), (.int .i64 0), (.int .i64 0), (.int .i64 0), (.int .i64 0), (.int .i64 0), (.int .i64 0), (.int .i64 0), (.int .i64 0), (.int .i64 0), (.int .i64 0), (.int .i64 0), (.int .i64 0), (.int .i64 0), (.int .i64 0), (.int .i64 0), (.int .i64 0), (.int .i64 0), (.int .i64 0), (.int .i64 0), (.int .i64 0), (.int .i64 0), (.int .i64 0), (.int .i64 0), (.int .i64 0), (.int .i64 0), (.int .i64 0), (.int .i64 0), (.int .i64 0), (.int .i64 0), (.int .i64 0), (.int .i64 0), (.int .i64 0), (.int .i64 0), (.int .i64 0), (.int .i64 0), (.int .i64 0), (.int .i64 0), (.int .i64 0), (.int .i64 0), (.int .i64 0), (.int .i64 0), (.int .i64 0), (.int .i64 0), (.int .i64 0), (.int .i64 0), (.int .i64 0), (.int .i64 0), (.int .i64 0), (.int .i64 0), (.int .i64 0), (.int .i64 0), (.int .i64 0), (.int .i64 0), (.int .i64 0), (.int .i64 0), (.int .i64 0), (.int .i64 0), (.int .i64 0), (.int .i64 0), (.int .i64 0), (.int .i64 0), (.int .i64 0), (.int .i64 0), (.int .i64 0), (.int .i64 0), (.int .i64 0), (.int .i64 0), (.int .i64 0), (.int .i64 0), (.int .i64 0), (.int .i64 0), (.int .i64 0), (.int .i64 0), (.int .i64 0), (.int .i64 0), (.int .i64 0), (.int .i64 0), (.int .i64 0), (.int .i64 0), (.int .i64 0), (.int .i64 0), (.int .i64 0), (.int .i64 0), (.int .i64 0), (.int .i64 0), (.int .i64 0), (.int .i64 0), (.int .i64 0), (.int .i64 0), (.int .i64 0), (.int .i64 0), (.int .i64 0), (.int .i64 0), (.int .i64 0), (.int .i64 0), (.int .i64 0), (.int .i64 0), (.int .i64 0), (.int .i64 0), (.int .i64 0), (.int .i64 0), (.int .i64 0), (.int .i64 0), (.int .i64 0), (.int .i64 0), (.int .i64 0), (.int .i64 0), (.int .i64 0), (.int .i64 0), (.int .i64 0), (.int .i64 0), (.int .i64 0), (.int .i64 0), (.int .i64 0), (.int .i64 0), (.int .i64 0), (.int .i64 0), (.int .i64 0), (.int .i64 0), (.int .i64 0), (.int .i64 0), (.int .i64 0), (.int .i64 0), (.int .i64 0), (.int .i64 0), (.int .i64 0), (.int .i64 0), (.int .i64 0), (.int .i64 0), (.int .i64 0), (.int .i64 0), (.int .i64 0), (.int .i64 0), (.int .i64 0), (.int .i64 0), (.int .i64 0), (.int .i64 0), (.int .i64 0), (.int .i64 0), (.int .i64 0), (.int .i64 0), (.int .i64 0), (.int .i64 0), (.int .i64 0), (.int .i64 0), (.int .i64 0), (.int .i64 0), (.int .i64 0), (.int .i64 0), (.int .i64 0), (.int .i64 0), (.int .i64 0), (.int .i64 0), (.int .i64 0), (.int .i64 0), (.int .i64 0), (.int .i64 0), (.int .i64 0), (.int .i64 0), (.int .i64 0), (.int .i64 0), (.int .i64 0), (.int .i64 0), (.int .i64 0), (.int .i64 0), (.int .i64 0), (.int .i64 0), (.int .i64 0), (.int .i64 0), (.int .i64 0), (.int .i64 0), (.int .i64 0), (.int .i64 0), (.int .i64 0), (.int .i64 0), (.int .i64 0), (.int .i64 0), (.int .i64 0), (.int .i64 0)], none⟩])
 (.seq (.ops [⟨(some 3), .load1 (.tmp 1), none⟩,
  ⟨(some 4), .lenS (.tmp 3), none⟩,
  ⟨(some 5), .func (.func 81) [] [(.tmp 1)], none⟩,
  ⟨(some 6), .call 80 [(.tmp 4), (.tmp 5)], none⟩,
  ⟨none, .store 338 (.tmp 2) (.tmp 6), none⟩])
 .ret))
theorem enter57 {xs : List Value} {h : Hp} {Q : Value → Hp → Prop} (hl : xs.length ≤ 7) (w : wq E 7 none c57 (frameOf xs) h [] (leaveQ E [.cell 2 88] Q)) : CallP E 57 xs h Q :=
  CallP.enterQ (fn := Try.f57) (fn_get Try.func57) (code := Try.f57.body.get rfl) rfl rfl rfl (by kernel_rfl) rfl (fun _ => rfl) hl w
theorem can57 : callable E 57 = true := callable_get Try.func57 rfl rfl

/-- (tosher/search.table).plan -/
def c58 : C := (.seq (.ops [⟨(some 2), .box 88 (.tmp 0), none⟩,
  ⟨(some 4), .mov (.const (.slice none 0 0)), none⟩])
 (.seq (.ops [⟨(some 5), .alloc 22 [(.slice none 0 0)], none⟩])
 (.seq (.ops [⟨(some 6), .alloc 119 [.nilFunc], none⟩])
 (.seq (.ops [⟨(some 7), .func (.func 82) [] [(.tmp 2), (.tmp 5), (.tmp 6)], none⟩,
  ⟨none, .store 1 (.tmp 6) (.tmp 7), none⟩])
 (.seq (.ops [⟨(some 8), .load1 (.tmp 6), none⟩,
  ⟨(some 9), .mov (.tmp 1), none⟩,
  ⟨(some 10), .aggr [(.int .i64 0), (.int .i64 0)] [(0, 1, (.const (.int .i64 0))), (1, 1, (.tmp 9))], none⟩,
  ⟨(some 11), .callv (.tmp 8) [(.tmp 10)], none⟩])
 (.seq (.ops [⟨(some 12), .load1 (.tmp 5), none⟩,
  ⟨(some 4), .mov (.tmp 12), none⟩])
 .ret))))))
theorem enter58 {xs : List Value} {h : Hp} {Q : Value → Hp → Prop} (hl : xs.length ≤ 13) (w : wq E 13 none c58 (frameOf xs) h [] (leaveQ E [.tmp 4] Q)) : CallP E 58 xs h Q :=
  CallP.enterQ (fn := Try.f58) (fn_get Try.func58) (code := Try.f58.body.get rfl) rfl rfl rfl (by kernel_rfl) rfl (fun _ => rfl) hl w
theorem can58 : callable E 58 = true := callable_get Try.func58 rfl rfl

/-- tosher/tosherref08.opened -/
def c59 : C := (.seq (.ops [⟨(some 8), .mov (.const (.slice none 0 0)), none⟩,
  ⟨(some 9), .mov (.const (.int .i64 0)), none⟩,
  ⟨(some 10), .mov (.const (.bool false)), none⟩])
 (.seq (.seq (.ops [⟨(some 21), .mov (.tmp 2), none⟩,
  ⟨(some 22), .mov (.tmp 3), none⟩,
  ⟨(some 23), .ar .i64 .eql (.tmp 21) (.tmp 22), none⟩])
 (.cond (.tmp 23) (.seq (.ops [⟨(some 24), .slit 22 1 [(.slice none 0 0)] [(0, 1, (.const (.slice none 0 0)))], none⟩,
  ⟨(some 25), .mov (.tmp 1), none⟩,
  ⟨(some 8), .mov (.tmp 24), none⟩,
  ⟨(some 9), .mov (.tmp 25), none⟩,
  ⟨(some 10), .mov (.const (.bool true)), none⟩])
 .ret)
 .skip))
 (.seq (.seq (.ops [⟨(some 26), .mov (.tmp 1), none⟩,
  ⟨(some 27), .mov (.tmp 0), none⟩,
  ⟨(some 28), .lenS (.tmp 27), none⟩,
  ⟨(some 29), .ar .i64 .geq (.tmp 26) (.tmp 28), none⟩,
  ⟨(some 30), .mov (.tmp 29), none⟩,
  ⟨(some 31), .mov (.tmp 0), (some (30, false))⟩,
  ⟨(some 32), .mov (.tmp 1), (some (30, false))⟩,
  ⟨(some 33), .idxS 1 (.tmp 31) (.tmp 32), (some (30, false))⟩,
  ⟨(some 34), .load1 (.tmp 33), (some (30, false))⟩,
  ⟨(some 35), .mov (.tmp 2), (some (30, false))⟩,
  ⟨(some 36), .ar .i64 .lss (.tmp 34) (.tmp 35), (some (30, false))⟩,
  ⟨(some 37), .pick (.tmp 30) (.const (.bool true)) (.tmp 36), none⟩,
  ⟨(some 38), .mov (.tmp 37), none⟩,
  ⟨(some 39), .mov (.tmp 0), (some (38, false))⟩,
  ⟨(some 40), .mov (.tmp 1), (some (38, false))⟩,
  ⟨(some 41), .idxS 1 (.tmp 39) (.tmp 40), (some (38, false))⟩,
  ⟨(some 42), .load1 (.tmp 41), (some (38, false))⟩,
  ⟨(some 43), .mov (.tmp 3), (some (38, false))⟩,
  ⟨(some 44), .ar .i64 .geq (.tmp 42) (.tmp 43), (some (38, false))⟩,
  ⟨(some 45), .pick (.tmp 38) (.const (.bool true)) (.tmp 44), none⟩])
 (.cond (.tmp 45) (.seq (.ops [⟨(some 46), .mov (.tmp 1), none⟩,
  ⟨(some 8), .mov (.const (.slice none 0 0)), none⟩,
  ⟨(some 9), .mov (.tmp 46), none⟩,
  ⟨(some 10), .mov (.const (.bool false)), none⟩])
 .ret)
 .skip))
 (.seq (.ops [⟨(some 47), .mov (.tmp 0), none⟩,
  ⟨(some 48), .mov (.tmp 1), none⟩,
  ⟨(some 49), .idxS 1 (.tmp 47) (.tmp 48), none⟩,
  ⟨(some 50), .load1 (.tmp 49), none⟩,
  ⟨(some 11), .mov (.tmp 50), none⟩])
 (.seq (.ops [⟨(some 52), .mov (.tmp 0), none⟩,
  ⟨(some 53), .mov (.tmp 1), none⟩,
  ⟨(some 54), .ar .i64 .add (.tmp 53) (.const (.int .i64 1)), none⟩,
  ⟨(some 55), .mov (.tmp 2), none⟩,
  ⟨(some 56), .mov (.tmp 11), none⟩,
  ⟨(some 57), .call 59 [(.tmp 52), (.tmp 54), (.tmp 55), (.tmp 56)], none⟩,
  ⟨(some 51), .mov (.tmp 57), none⟩,
  ⟨(some 58), .ext (.tmp 51) 0, none⟩,
  ⟨(some 59), .ext (.tmp 51) 1, none⟩,
  ⟨(some 60), .ext (.tmp 51) 2, none⟩,
  ⟨(some 12), .mov (.tmp 58), none⟩,
  ⟨(some 13), .mov (.tmp 59), none⟩,
  ⟨(some 14), .mov (.tmp 60), none⟩])
 (.seq (.seq (.ops [⟨(some 61), .mov (.tmp 14), none⟩,
  ⟨(some 62), .not (.tmp 61), none⟩])
 (.cond (.tmp 62) (.seq (.ops [⟨(some 63), .mov (.tmp 1), none⟩,
  ⟨(some 8), .mov (.const (.slice none 0 0)), none⟩,
  ⟨(some 9), .mov (.tmp 63), none⟩,
  ⟨(some 10), .mov (.const (.bool false)), none⟩])
 .ret)
 .skip))
 (.seq (.ops [⟨(some 65), .mov (.tmp 0), none⟩,
  ⟨(some 66), .mov (.tmp 13), none⟩,
  ⟨(some 67), .mov (.tmp 11), none⟩,
  ⟨(some 68), .ar .i64 .add (.tmp 67) (.const (.int .i64 1)), none⟩,
  ⟨(some 69), .mov (.tmp 3), none⟩,
  ⟨(some 70), .call 59 [(.tmp 65), (.tmp 66), (.tmp 68), (.tmp 69)], none⟩,
  ⟨(some 64), .mov (.tmp 70), none⟩,
  ⟨(some 71), .ext (.tmp 64) 0, none⟩,
  ⟨(some 72), .ext (.tmp 64) 1, none⟩,
  ⟨(some 73), .ext (.tmp 64) 2, none⟩,
  ⟨(some 15), .mov (.tmp 71), none⟩,
  ⟨(some 16), .mov (.tmp 72), none⟩,
  ⟨(some 17), .mov (.tmp 73), none⟩])
 (.seq (.seq (.ops [⟨(some 74), .mov (.tmp 17), none⟩,
  ⟨(some 75), .not (.tmp 74), none⟩])
 (.cond (.tmp 75) (.seq (.ops [⟨(some 76), .mov (.tmp 1), none⟩,
  ⟨(some 8), .mov (.const (.slice none 0 0)), none⟩,
  ⟨(some 9), .mov (.tmp 76), none⟩,
  ⟨(some 10), .mov (.const (.bool false)), none⟩])
 .ret)
 .skip))
 (.seq (.ops [⟨(some 18), .mov (.const (.slice none 0 0)), none⟩])
 (.seq (.seq (.ops [⟨(some 19), .mov (.const (.int .i64 0)), none⟩])
 (.block 0 (.loop (.seq (.seq (.ops [⟨(some 77), .mov (.tmp 19), none⟩,
  ⟨(some 78), .mov (.tmp 12), none⟩,
  ⟨(some 79), .lenS (.tmp 78), none⟩,
  ⟨(some 80), .mov (.tmp 15), none⟩,
  ⟨(some 81), .lenS (.tmp 80), none⟩,
  ⟨(some 82), .ar .i64 .add (.tmp 79) (.tmp 81), none⟩,
  ⟨(some 83), .ar .i64 .lss (.tmp 77) (.tmp 82), none⟩])
 (.cond (.tmp 83) .skip
 (.exit 0)))
 (.seq (.block 1 (.seq (.ops [⟨(some 86), .mov (.tmp 11), none⟩,
  ⟨(some 87), .slit 3 1 [(.int .i64 0)] [(0, 1, (.tmp 86))], none⟩,
  ⟨(some 20), .mov (.tmp 87), none⟩])
 (.seq (.seq (.ops [⟨(some 88), .mov (.tmp 19), none⟩,
  ⟨(some 89), .mov (.tmp 12), none⟩,
  ⟨(some 90), .lenS (.tmp 89), none⟩,
  ⟨(some 91), .ar .i64 .lss (.tmp 88) (.tmp 90), none⟩])
 (.cond (.tmp 91) (.ops [⟨(some 92), .mov (.tmp 20), none⟩,
  ⟨(some 93), .mov (.tmp 12), none⟩,
  ⟨(some 94), .mov (.tmp 19), none⟩,
  ⟨(some 95), .idxS 1 (.tmp 93) (.tmp 94), none⟩,
  ⟨(some 96), .load1 (.tmp 95), none⟩,
  ⟨(some 97), .append 3 1 8 (.tmp 92) (.tmp 96), none⟩,
  ⟨(some 20), .mov (.tmp 97), none⟩])
 (.ops [⟨(some 98), .mov (.tmp 20), none⟩,
  ⟨(some 99), .mov (.tmp 15), none⟩,
  ⟨(some 100), .mov (.tmp 19), none⟩,
  ⟨(some 101), .mov (.tmp 12), none⟩,
  ⟨(some 102), .lenS (.tmp 101), none⟩,
  ⟨(some 103), .ar .i64 .sub (.tmp 100) (.tmp 102), none⟩,
  ⟨(some 104), .idxS 1 (.tmp 99) (.tmp 103), none⟩,
  ⟨(some 105), .load1 (.tmp 104), none⟩,
  ⟨(some 106), .append 3 1 8 (.tmp 98) (.tmp 105), none⟩,
  ⟨(some 20), .mov (.tmp 106), none⟩])))
 (.ops [⟨(some 107), .mov (.tmp 18), none⟩,
  ⟨(some 108), .mov (.tmp 20), none⟩,
  ⟨(some 109), .slit 22 1 [(.slice none 0 0)] [(0, 1, (.tmp 108))], none⟩,
  ⟨(some 110), .append 22 1 24 (.tmp 107) (.tmp 109), none⟩,
  ⟨(some 18), .mov (.tmp 110), none⟩]))))
 (.ops [⟨(some 84), .mov (.tmp 19), none⟩,
  ⟨(some 85), .ar .i64 .add (.tmp 84) (.const (.int .i64 1)), none⟩,
  ⟨(some 19), .mov (.tmp 85), none⟩]))))))
 (.seq (.ops [⟨(some 111), .mov (.tmp 18), none⟩,
  ⟨(some 112), .mov (.tmp 16), none⟩,
  ⟨(some 8), .mov (.tmp 111), none⟩,
  ⟨(some 9), .mov (.tmp 112), none⟩,
  ⟨(some 10), .mov (.const (.bool true)), none⟩])
 .ret)))))))))))
theorem enter59 {xs : List Value} {h : Hp} {Q : Value → Hp → Prop} (hl : xs.length ≤ 113) (w : wq E 113 none c59 (frameOf xs) h [] (leaveQ E [.tmp 8, .tmp 9, .tmp 10] Q)) : CallP E 59 xs h Q :=
  CallP.enterQ (fn := Try.f59) (fn_get Try.func59) (code := Try.f59.body.get rfl) rfl rfl rfl (by kernel_rfl) rfl (fun _ => rfl) hl w
theorem can59 : callable E 59 = true := callable_get Try.func59 rfl rfl

/-- tosher/search.checkWeights -/
def c60 : C := (.seq (.ops [⟨(some 4), .mov (.const (.int .i64 0)), none⟩])
 (.seq (.seq (.ops [⟨(some 6), .mov (.tmp 0), none⟩,
  ⟨(some 7), .call 18 [(.tmp 6)], none⟩,
  ⟨(some 5), .mov (.tmp 7), none⟩])
 (.seq (.ops [⟨(some 8), .mov (.tmp 5), none⟩,
  ⟨(some 9), .ar .i64 .neq (.tmp 8) (.const (.int .i64 0)), none⟩])
 (.cond (.tmp 9) (.seq (.ops [⟨(some 10), .mov (.tmp 5), none⟩,
  ⟨(some 4), .mov (.tmp 10), none⟩])
 .ret)
 .skip)))
 (.seq (.seq (.ops [⟨(some 11), .mov (.tmp 1), none⟩,
  ⟨(some 12), .lenS (.tmp 11), none⟩,
  ⟨(some 13), .mov (.tmp 0), none⟩,
  ⟨(some 14), .lenS (.tmp 13), none⟩,
  ⟨(some 15), .ar .i64 .add (.tmp 14) (.const (.int .i64 1)), none⟩,
  ⟨(some 16), .ar .i64 .neq (.tmp 12) (.tmp 15), none⟩,
  ⟨(some 17), .mov (.tmp 16), none⟩,
  ⟨(some 18), .mov (.tmp 1), (some (17, false))⟩,
  ⟨(some 19), .call 55 [(.const (.int .i64 0)), (.const (.int .i64 1000)), (.tmp 18)], (some (17, false))⟩,
  ⟨(some 20), .not (.tmp 19), (some (17, false))⟩,
  ⟨(some 21), .pick (.tmp 17) (.const (.bool true)) (.tmp 20), none⟩,
  ⟨(some 22), .mov (.tmp 21), none⟩,
  ⟨(some 23), .mov (.tmp 1), (some (22, false))⟩,
  ⟨(some 24), .call 64 [(.tmp 23)], (some (22, false))⟩,
  ⟨(some 25), .ar .i64 .eql (.tmp 24) (.const (.int .i64 0)), (some (22, false))⟩,
  ⟨(some 26), .pick (.tmp 22) (.const (.bool true)) (.tmp 25), none⟩])
 (.cond (.tmp 26) (.seq (.ops [⟨(some 4), .mov (.const (.int .i64 1)), none⟩])
 .ret)
 .skip))
 (.seq (.ops [⟨(some 4), .mov (.const (.int .i64 0)), none⟩])
 .ret))))
theorem enter60 {xs : List Value} {h : Hp} {Q : Value → Hp → Prop} (hl : xs.length ≤ 27) (w : wq E 27 none c60 (frameOf xs) h [] (leaveQ E [.tmp 4] Q)) : CallP E 60 xs h Q :=
  CallP.enterQ (fn := Try.f60) (fn_get Try.func60) (code := Try.f60.body.get rfl) rfl rfl rfl (by kernel_rfl) rfl (fun _ => rfl) hl w
theorem can60 : callable E 60 = true := callable_get Try.func60 rfl rfl

/-- tosher/search.weighed -/
def c61 : C := (.seq (.ops [⟨(some 2), .box 22 (.tmp 0), none⟩,
  ⟨(some 3), .box 22 (.tmp 1), none⟩,
  ⟨(some 4), .alloc 88 [(.int .i64 0), (.int .i64 0), (.int .i64 0), (.int .i64 0), (.int .i64 0), (.int .i64 0), (.int .i64 0), (.int .i64 0), (.int .i64 0), (.int .i64 0), (.int .i64 0), (.int .i64 0), (.int .i64 0), (.int .i64 0), (.int .i64 0), (.int .i64 0), (.int .i64 0), (.int .i64 0), (.int .i64 0), (.int .i64 0), (.int .i64 0), (.int .i64 0), (.int .i64 0), (.int .i64 0), (.int .i64 0), (.int .i64 0), (.int .i64 0), (.int .i64 0), (.int .i64 0), (.int .i64 0), (.int .i64 0), (.int .i64 0), (.int .i64 0), (.int .i64 0), (.int .i64 0), (.int .i64 0), (.int .i64 0), (.int .i64 0), (.int .i64 0), (.int .i64 0), (.int .i64 0), (.int .i64 0), (.int .i64 0), (.int .i64 0), (.int .i64 0), (.int .i64 0), (.int .i64 0), (.int .i64 0), (.int .i64 0), (.int .i64 0), (.int .i64 0), (.int .i64 0), (.int .i64 0), (.int .i64 0), (.int .i64 0), (.int .i64 0), (.int .i64 0), (.int .i64 0), (.int .i64 0), (.int .i64 0), (.int .i64 0), (.int .i64 0), (.int .i64 0), (.int .i64 0), (.int .i64 0), (.int .i64 0), (.int .i64 0), (.int .i64 0), (.int .i64 0), (.int .i64 0), (.int .i64 0), (.int .i64 0), (.int .i64 0), (.int .i64 0), (.int .i64 0), (.int .i64 0), (.int .i64 0), (.int .i64 0), (.int .i64 0), (.int .i64 0), (.int .i64 0), (.int .i64 0), (.int .i64 0), (.int .i64 0), (.int .i64 0), (.int .i64 0), (.int .i64 0), (.int .i64 0), (.int .i64 0), (.int .i64 0), (.int .i64 0), (.int .i64 0), (.int .i64 0), (.int .i64 0), (.int .i64 0), (.int .i64 0), (.int .i64 0), (.int .i64 0), (.int .i64 0), (.int .i64 0), (.int .i64 0), (.int .i64 0), (.int .i64 0), (.int .i64 0), (.int .i64 0), (.int .i64 0), (.int .i64 0), (.int .i64 0), (.int .i64 0), (.int .i64 0), (.int .i64 0), (.int .i64 0), (.int .i64 0), (.int .i64 0), (.int .i64 0), (.int .i64 0), (.int .i64 0), (.int .i64 0), (.int .i64 0), (.int .i64 0), (.int .i64 0), (.int .i64 0), (.int .i64 0), (.int .i64 0), (.int .i64 0), (.int .i64 0), (.int .i64 0), (.int .i64 0), (.int .i64 0), (.int .i64 0), (.int .i64 0), (.int .i64 0), (.int .i64 0), (.int .i64 0), (.int .i64 0), (.int .i64 0), (.int .i64 0), (.int .i64 0), (.int .i64 0), (.int .i64 0), (.int .i64 0), (.int .i64 0), (.int .i64 0), (.int .i64 0), (.int .i64 0), (.int .i64 0), (.int .i64 0), (.int .i64 0), (.int .i64 0), (.int .i64 0), (.int .i64 0), (.int .i64 0), (.int .i64 0), (.int .i64 0), (.int .i64 0), (.int .i64 0), (.int .i64 0), (.int .i64 0), (.int .i64 0), (.int .i64 0), (.int .i64 0), (.int .i64 0), (.int .i64 0), (.int .i64 0), (.int .i64 0), (.int .i64 0), (.int .i64 0), (.int .i64 0), (.int .i64 0), (.int .i64 0), (.int .i64 0), (.int .i64 0), (.int .i64 0), (.int .i64 0), (.int .i64 0), (.int .i64 0), (.int .i64 0), (.int .i64 0), (.int .i64 0), (.int .i64 0), (.int .i64 0), (.int .i64 0), (.int .i64 0), (.int .i64 0), (.int .i64 0), (.int .i64 0), (.int .i64 0), (.int .i64 0), (.int .i64 0), (.int .i64 0), (.int .i64 0), (.int .i64 0), (.int .i64 0), (.int .i64 0), (.int .i64 0), (.int .i64 0), (.int .i64 0), (.int .i64 0), (.int .i64 0), (.int .i64 0), (.int .i64 0), (.int .i64 0), (.int .i64 0), (.int .i64 0), (.int .i64 0), (.int .i64 0), (.int .i64 0), (.int .i64 0), (.int .i64 0), (.int .i64 0), (.int .i64 0), (.int .i64 0), (.int .i64 0), (.int .i64 0), (.int .i64 0), (.int .i64 0), (.int .i64 0), (.int .i64 0), (.int .i64 0), (.int .i64 0), (.int .i64 0), (.int .i64 0), (.int .i64 0), (.int .i64 0), (.int .i64 0), (.int .i64 0), (.int .i64 0), (.int .i64 0), (.int .i64 0), (.int .i64 0), (.int .i64 0), (.int .i64 0), (.int .i64 0), (.int .i64 0), (.int .i64 0), (.int .i64 0), (.int .i64 0), (.int .i64 0), (.int .i64 0), (.int .i64 0), (.int .i64 0), (.int .i64 0), (.int .i64 0), (.int .i64 0), (.int .i64 0), (.int .i64 0), (.int .i64 0), (.int .i64 0), (.int .i64 0), (.int .i64 0), (.int .i64 0), (.int .i64 0), (.int .i64 0), (.int .i64 0), (.int .i64 0), (.int .i64 0), (.int .i64 0), (.int .i64 0), (.int .i64 0), (.int .i64 0), (.int .i64 0), (.int .i64 0), (.int .i64 0), (.int .i64 0), (.int .i64 0), (.int .i64 0), (.int .i64 0), (.int .i64 0), (.int .i64 0), (.int .i64 0), (.int .i64 0), (.int .i64 0), (.int .i64 0), (.int .i64 0), (.int .i64 0), (.int .i64 0), (.int .i64 0), (.int .i64 0), (.int .i64 0), (.int .i64 0), (.int .i64 0), (.int .i64 0), (.int .i64 0), (.int .i64 0), (.int .i64 0), (.int .i64 0), (.int .i64 0), (.int .i64 0), (.int .i64 0), (.int .i64 0), (.int .i64 0), (.int .i64 0), (.int .i64 0), (.int .i64 0), (.int .i64 0), (.int .i64 0), (.int .i64 0), (.int .i64 0), (.int .i64 0), (.int .i64 0), (.int .i64 0), (.int .i64 0), (.int .i64 0), (.int .i64 0), (.int .i64 0), (.int .i64 0), (.int .i64 0), (.int .i64 0), (.int .i64 0), (.int .i64 0), (.int .i64 0), (.int .i64 0), (.int .i64 0), (.int .i64 0), (.int .i64 0), (.int .i64 0), (.int .i64 0), (.int .i64 0), (.int .i64 0), (.int .i64 0), (.int .i64 0), (.int .i64 0), (.int .i64 0), (.int .i64 0), (.int .i64 0), (.int .i64 0), (.int .i64 0), (.int .i64 0), (.int .i64 0), (.int .i64 0), (.int .i64 0), (.int .i64 0), (.int .i64 0), (.int .i64 0), (.int .i64 0), (.int .i64 0), (.int .i64 0), (.int .i64 0)], none⟩])
 (.seq (.ops [⟨(some 5), .load1 (.tmp 2), none⟩,
  ⟨(some 6), .lenS (.tmp 5), none⟩,
  ⟨(some 7), .func (.func 83) [] [(.tmp 2), (.tmp 3)], none⟩,
  ⟨(some 8), .call 80 [(.tmp 6), (.tmp 7)], none⟩,
  ⟨none, .store 338 (.tmp 4) (.tmp 8), none⟩])
 .ret))
theorem enter61 {xs : List Value} {h : Hp} {Q : Value → Hp → Prop} (hl : xs.length ≤ 9) (w : wq E 9 none c61 (frameOf xs) h [] (leaveQ E [.cell 4 88] Q)) : CallP E 61 xs h Q :=
  CallP.enterQ (fn := Try.f61) (fn_get Try.func61) (code := Try.f61.body.get rfl) rfl rfl rfl (by kernel_rfl) rfl (fun _ => rfl) hl w
theorem can61 : callable E 61 = true := callable_get Try.func61 rfl rfl

/-- tosher/search.checkPlan -/
def c62 : C := (.seq (.ops [⟨(some 4), .mov (.const (.int .i64 0)), none⟩])
 (.seq (.seq (.ops [⟨(some 6), .mov (.tmp 0), none⟩,
  ⟨(some 7), .call 18 [(.tmp 6)], none⟩,
  ⟨(some 5), .mov (.tmp 7), none⟩])
 (.seq (.ops [⟨(some 8), .mov (.tmp 5), none⟩,
  ⟨(some 9), .ar .i64 .neq (.tmp 8) (.const (.int .i64 0)), none⟩])
 (.cond (.tmp 9) (.seq (.ops [⟨(some 10), .mov (.tmp 5), none⟩,
  ⟨(some 4), .mov (.tmp 10), none⟩])
 .ret)
 .skip)))
 (.seq (.seq (.ops [⟨(some 11), .mov (.tmp 0), none⟩,
  ⟨(some 12), .lenS (.tmp 11), none⟩,
  ⟨(some 13), .mov (.tmp 1), none⟩,
  ⟨(some 14), .call 56 [(.tmp 12), (.tmp 13)], none⟩,
  ⟨(some 15), .not (.tmp 14), none⟩])
 (.cond (.tmp 15) (.seq (.ops [⟨(some 4), .mov (.const (.int .i64 1)), none⟩])
 .ret)
 .skip))
 (.seq (.ops [⟨(some 4), .mov (.const (.int .i64 0)), none⟩])
 .ret))))
theorem enter62 {xs : List Value} {h : Hp} {Q : Value → Hp → Prop} (hl : xs.length ≤ 16) (w : wq E 16 none c62 (frameOf xs) h [] (leaveQ E [.tmp 4] Q)) : CallP E 62 xs h Q :=
  CallP.enterQ (fn := Try.f62) (fn_get Try.func62) (code := Try.f62.body.get rfl) rfl rfl rfl (by kernel_rfl) rfl (fun _ => rfl) hl w
theorem can62 : callable E 62 = true := callable_get Try.func62 rfl rfl

/-- tosher/search.prices -/
def c63 : C := (.seq (.ops [⟨(some 4), .mov (.const (.slice none 0 0)), none⟩])
 (.seq (.ops [⟨(some 10), .mov (.tmp 0), none⟩,
  ⟨(some 11), .lenS (.tmp 10), none⟩,
  ⟨(some 12), .ar .i64 .add (.tmp 11) (.const (.int .i64 1)), none⟩,
  ⟨(some 13), .make 3 [(.int .i64 0)] 8 (.tmp 12) (.tmp 12), none⟩,
  ⟨(some 5), .mov (.tmp 13), none⟩])
 (.seq (.seq (.ops [⟨(some 14), .mov (.tmp 5), none⟩,
  ⟨(some 15), .lenS (.tmp 14), none⟩,
  ⟨(some 16), .mov (.const (.int .i64 0)), none⟩])
 (.block 0 (.loop (.seq (.ops [⟨(some 17), .ar .i64 .lss (.tmp 16) (.tmp 15), none⟩])
 (.seq (.cond (.tmp 17) .skip
 (.exit 0))
 (.seq (.block 1 (.seq (.ops [⟨(some 18), .mov (.tmp 16), none⟩,
  ⟨(some 6), .mov (.tmp 18), none⟩])
 (.seq (.ops [⟨(some 7), .mov (.const (.slice none 0 0)), none⟩])
 (.seq (.seq (.ops [⟨(some 19), .mov (.tmp 0), none⟩,
  ⟨(some 20), .lenS (.tmp 19), none⟩,
  ⟨(some 21), .mov (.tmp 1), none⟩,
  ⟨(some 22), .mov (.tmp 6), none⟩,
  ⟨(some 23), .call 65 [(.tmp 20), (.tmp 21), (.tmp 22)], none⟩,
  ⟨(some 24), .lenS (.tmp 23), none⟩,
  ⟨(some 25), .mov (.const (.int .i64 0)), none⟩])
 (.block 2 (.loop (.seq (.ops [⟨(some 26), .ar .i64 .lss (.tmp 25) (.tmp 24), none⟩])
 (.seq (.cond (.tmp 26) .skip
 (.exit 2))
 (.seq (.block 3 (.seq (.ops [⟨(some 27), .idxS 1 (.tmp 23) (.tmp 25), none⟩,
  ⟨(some 28), .load1 (.tmp 27), none⟩,
  ⟨(some 9), .mov (.tmp 28), none⟩])
 (.ops [⟨(some 29), .mov (.tmp 7), none⟩,
  ⟨(some 30), .mov (.tmp 0), none⟩,
  ⟨(some 31), .mov (.tmp 9), none⟩,
  ⟨(some 32), .idxS 1 (.tmp 30) (.tmp 31), none⟩,
  ⟨(some 33), .load1 (.tmp 32), none⟩,
  ⟨(some 34), .slit 3 1 [(.int .i64 0)] [(0, 1, (.tmp 33))], none⟩,
  ⟨(some 35), .append 3 1 8 (.tmp 29) (.tmp 34), none⟩,
  ⟨(some 7), .mov (.tmp 35), none⟩])))
 (.ops [⟨(some 36), .ar .i64 .add (.tmp 25) (.const (.int .i64 1)), none⟩,
  ⟨(some 25), .mov (.tmp 36), none⟩])))))))
 (.ops [⟨(some 37), .mov (.tmp 5), none⟩,
  ⟨(some 38), .mov (.tmp 6), none⟩,
  ⟨(some 39), .mov (.tmp 7), none⟩,
  ⟨(some 40), .call 64 [(.tmp 39)], none⟩,
  ⟨(some 41), .idxS 1 (.tmp 37) (.tmp 38), none⟩,
  ⟨none, .store 1 (.tmp 41) (.tmp 40), none⟩])))))
 (.ops [⟨(some 42), .ar .i64 .add (.tmp 16) (.const (.int .i64 1)), none⟩,
  ⟨(some 16), .mov (.tmp 42), none⟩])))))))
 (.seq (.ops [⟨(some 43), .mov (.tmp 5), none⟩,
  ⟨(some 4), .mov (.tmp 43), none⟩])
 .ret))))
theorem enter63 {xs : List Value} {h : Hp} {Q : Value → Hp → Prop} (hl : xs.length ≤ 44) (w : wq E 44 none c63 (frameOf xs) h [] (leaveQ E [.tmp 4] Q)) : CallP E 63 xs h Q :=
  CallP.enterQ (fn := Try.f63) (fn_get Try.func63) (code := Try.f63.body.get rfl) rfl rfl rfl (by kernel_rfl) rfl (fun _ => rfl) hl w
theorem can63 : callable E 63 = true := callable_get Try.func63 rfl rfl

/-- tosher/search.sum -/
def c64 : C := (.seq (.ops [⟨(some 2), .mov (.const (.int .i64 0)), none⟩])
 (.seq (.ops [⟨(some 3), .mov (.const (.int .i64 0)), none⟩])
 (.seq (.seq (.ops [⟨(some 6), .mov (.tmp 0), none⟩,
  ⟨(some 7), .lenS (.tmp 6), none⟩,
  ⟨(some 8), .mov (.const (.int .i64 0)), none⟩])
 (.block 0 (.loop (.seq (.ops [⟨(some 9), .ar .i64 .lss (.tmp 8) (.tmp 7), none⟩])
 (.seq (.cond (.tmp 9) .skip
 (.exit 0))
 (.seq (.block 1 (.seq (.ops [⟨(some 10), .idxS 1 (.tmp 6) (.tmp 8), none⟩,
  ⟨(some 11), .load1 (.tmp 10), none⟩,
  ⟨(some 5), .mov (.tmp 11), none⟩])
 (.ops [⟨(some 12), .mov (.tmp 3), none⟩,
  ⟨(some 13), .mov (.tmp 5), none⟩,
  ⟨(some 14), .ar .i64 .add (.tmp 12) (.tmp 13), none⟩,
  ⟨(some 3), .mov (.tmp 14), none⟩])))
 (.ops [⟨(some 15), .ar .i64 .add (.tmp 8) (.const (.int .i64 1)), none⟩,
  ⟨(some 8), .mov (.tmp 15), none⟩])))))))
 (.seq (.ops [⟨(some 16), .mov (.tmp 3), none⟩,
  ⟨(some 2), .mov (.tmp 16), none⟩])
 .ret))))
theorem enter64 {xs : List Value} {h : Hp} {Q : Value → Hp → Prop} (hl : xs.length ≤ 17) (w : wq E 17 none c64 (frameOf xs) h [] (leaveQ E [.tmp 2] Q)) : CallP E 64 xs h Q :=
  CallP.enterQ (fn := Try.f64) (fn_get Try.func64) (code := Try.f64.body.get rfl) rfl rfl rfl (by kernel_rfl) rfl (fun _ => rfl) hl w
theorem can64 : callable E 64 = true := callable_get Try.func64 rfl rfl

/-- tosher/search.answer -/
def c65 : C := (.seq (.ops [⟨(some 6), .mov (.const (.slice none 0 0)), none⟩])
 (.seq (.ops [⟨(some 7), .mov (.const (.slice none 0 0)), none⟩])
 (.seq (.ops [⟨(some 11), .mov (.tmp 0), none⟩,
  ⟨(some 12), .aggr [(.int .i64 0), (.int .i64 0)] [(0, 1, (.const (.int .i64 0))), (1, 1, (.tmp 11))], none⟩,
  ⟨(some 8), .alloc 115 [(.int .i64 0), (.int .i64 0)], none⟩,
  ⟨none, .store 2 (.tmp 8) (.tmp 12), none⟩])
 (.seq (.block 0 (.loop (.seq (.seq (.ops [⟨(some 13), .loadN 2 (.tmp 8), none⟩,
  ⟨(some 14), .call 77 [(.tmp 13)], none⟩,
  ⟨(some 15), .not (.tmp 14), none⟩])
 (.cond (.tmp 15) .skip
 (.exit 0)))
 (.block 1 (.seq (.ops [⟨(some 16), .mov (.tmp 1), none⟩,
  ⟨(some 17), .idxS 1 (.tmp 16) (.const (.int .i64 0)), none⟩,
  ⟨(some 18), .load1 (.tmp 17), none⟩,
  ⟨(some 9), .mov (.tmp 18), none⟩])
 (.seq (.ops [⟨(some 19), .mov (.tmp 7), none⟩,
  ⟨(some 20), .mov (.tmp 9), none⟩,
  ⟨(some 21), .slit 3 1 [(.int .i64 0)] [(0, 1, (.tmp 20))], none⟩,
  ⟨(some 22), .append 3 1 8 (.tmp 19) (.tmp 21), none⟩,
  ⟨(some 7), .mov (.tmp 22), none⟩])
 (.seq (.ops [⟨(some 23), .mov (.tmp 9), none⟩,
  ⟨(some 24), .ar .i64 .add (.const (.int .i64 1)) (.tmp 23), none⟩,
  ⟨(some 25), .fldA 0 (.tmp 8), none⟩,
  ⟨(some 26), .load1 (.tmp 25), none⟩,
  ⟨(some 27), .ar .i64 .sub (.tmp 24) (.tmp 26), none⟩,
  ⟨(some 10), .mov (.tmp 27), none⟩])
 (.seq (.ops [⟨(some 28), .mov (.tmp 2), none⟩,
  ⟨(some 29), .mov (.tmp 9), none⟩,
  ⟨(some 30), .ar .i64 .leq (.tmp 28) (.tmp 29), none⟩])
 (.cond (.tmp 30) (.draw [⟨(some 31), .loadN 2 (.tmp 8), none⟩,
  ⟨(some 32), .mov (.tmp 9), none⟩,
  ⟨(some 33), .call 78 [(.tmp 31), (.tmp 32)], none⟩,
  ⟨(some 34), .mov (.tmp 1), none⟩,
  ⟨(some 35), .mov (.tmp 10), none⟩,
  ⟨(some 36), .cutS 1 (.tmp 34) (some (.const (.int .i64 1))) (some (.tmp 35)) none, none⟩,
  ⟨none, .store 2 (.tmp 8) (.tmp 33), none⟩,
  ⟨(some 1), .mov (.tmp 36), none⟩]
  [⟨false, false, [false, false, false, false, false, false, false, false], [false, false, false, false, false, false, false, false]⟩,
  ⟨false, false, [false, false, false, false, false, false, false, false], [false, false, false, false, false, false, false, false]⟩,
  ⟨true, false, [false, false, false, false, false, false, false, false], [false, false, true, false, false, false, false, false]⟩,
  ⟨false, true, [false, false, false, false, false, false, false, false], [false, false, true, false, false, false, true, false]⟩,
  ⟨false, true, [false, false, false, false, false, false, false, false], [false, false, true, false, false, false, true, false]⟩,
  ⟨false, true, [false, false, false, false, false, false, false, false], [false, false, true, false, false, false, true, false]⟩,
  ⟨true, false, [false, false, true, false, false, false, false, false], [false, false, true, false, false, false, true, false]⟩,
  ⟨false, false, [false, false, true, false, false, false, true, false], [false, false, true, false, false, false, true, false]⟩])
 (.draw [⟨(some 37), .loadN 2 (.tmp 8), none⟩,
  ⟨(some 38), .mov (.tmp 9), none⟩,
  ⟨(some 39), .call 79 [(.tmp 37), (.tmp 38)], none⟩,
  ⟨(some 40), .mov (.tmp 1), none⟩,
  ⟨(some 41), .mov (.tmp 10), none⟩,
  ⟨(some 42), .cutS 1 (.tmp 40) (some (.tmp 41)) none none, none⟩,
  ⟨none, .store 2 (.tmp 8) (.tmp 39), none⟩,
  ⟨(some 1), .mov (.tmp 42), none⟩]
  [⟨false, false, [false, false, false, false, false, false, false, false], [false, false, false, false, false, false, false, false]⟩,
  ⟨false, false, [false, false, false, false, false, false, false, false], [false, false, false, false, false, false, false, false]⟩,
  ⟨true, false, [false, false, false, false, false, false, false, false], [false, false, true, false, false, false, false, false]⟩,
  ⟨false, true, [false, false, false, false, false, false, false, false], [false, false, true, false, false, false, true, false]⟩,
  ⟨false, true, [false, false, false, false, false, false, false, false], [false, false, true, false, false, false, true, false]⟩,
  ⟨false, true, [false, false, false, false, false, false, false, false], [false, false, true, false, false, false, true, false]⟩,
  ⟨true, false, [false, false, true, false, false, false, false, false], [false, false, true, false, false, false, true, false]⟩,
  ⟨false, false, [false, false, true, false, false, false, true, false], [false, false, true, false, false, false, true, false]⟩]))))))))))
 (.seq (.ops [⟨(some 43), .mov (.tmp 7), none⟩,
  ⟨(some 6), .mov (.tmp 43), none⟩])
 .ret)))))
theorem enter65 {xs : List Value} {h : Hp} {Q : Value → Hp → Prop} (hl : xs.length ≤ 44) (w : wq E 44 none c65 (frameOf xs) h [] (leaveQ E [.tmp 6] Q)) : CallP E 65 xs h Q :=
  CallP.enterQ (fn := Try.f65) (fn_get Try.func65) (code := Try.f65.body.get rfl) rfl rfl rfl (by kernel_rfl) rfl (fun _ => rfl) hl w
theorem can65 : callable E 65 = true := callable_get Try.func65 rfl rfl

/-- tosher/search.countPlans -/
def c66 : C := (.seq (.ops [⟨(some 2), .mov (.const (.int .i64 0)), none⟩])
 (.seq (.ops [⟨(some 7), .slit 2 1 [(.int .i64 0)] [(0, 1, (.const (.int .i64 1)))], none⟩,
  ⟨(some 3), .mov (.tmp 7), none⟩])
 (.seq (.seq (.ops [⟨(some 4), .mov (.const (.int .i64 1)), none⟩])
 (.block 0 (.loop (.seq (.seq (.ops [⟨(some 8), .mov (.tmp 4), none⟩,
  ⟨(some 9), .mov (.tmp 0), none⟩,
  ⟨(some 10), .ar .i64 .leq (.tmp 8) (.tmp 9), none⟩])
 (.cond (.tmp 10) .skip
 (.exit 0)))
 (.seq (.block 1 (.seq (.ops [⟨(some 5), .mov (.const (.int .i64 0)), none⟩])
 (.seq (.seq (.ops [⟨(some 13), .mov (.tmp 4), none⟩,
  ⟨(some 14), .mov (.const (.int .i64 0)), none⟩])
 (.block 2 (.loop (.seq (.ops [⟨(some 15), .ar .i64 .lss (.tmp 14) (.tmp 13), none⟩])
 (.seq (.cond (.tmp 15) .skip
 (.exit 2))
 (.seq (.block 3 (.seq (.ops [⟨(some 16), .mov (.tmp 14), none⟩,
  ⟨(some 6), .mov (.tmp 16), none⟩])
 (.ops [⟨(some 17), .mov (.tmp 5), none⟩,
  ⟨(some 18), .mov (.tmp 3), none⟩,
  ⟨(some 19), .mov (.tmp 6), none⟩,
  ⟨(some 20), .idxS 1 (.tmp 18) (.tmp 19), none⟩,
  ⟨(some 21), .load1 (.tmp 20), none⟩,
  ⟨(some 22), .mov (.tmp 3), none⟩,
  ⟨(some 23), .mov (.tmp 4), none⟩,
  ⟨(some 24), .ar .i64 .sub (.tmp 23) (.const (.int .i64 1)), none⟩,
  ⟨(some 25), .mov (.tmp 6), none⟩,
  ⟨(some 26), .ar .i64 .sub (.tmp 24) (.tmp 25), none⟩,
  ⟨(some 27), .idxS 1 (.tmp 22) (.tmp 26), none⟩,
  ⟨(some 28), .load1 (.tmp 27), none⟩,
  ⟨(some 29), .ar .i64 .mul (.tmp 21) (.tmp 28), none⟩,
  ⟨(some 30), .ar .i64 .add (.tmp 17) (.tmp 29), none⟩,
  ⟨(some 5), .mov (.tmp 30), none⟩])))
 (.ops [⟨(some 31), .ar .i64 .add (.tmp 14) (.const (.int .i64 1)), none⟩,
  ⟨(some 14), .mov (.tmp 31), none⟩])))))))
 (.ops [⟨(some 32), .mov (.tmp 3), none⟩,
  ⟨(some 33), .mov (.tmp 5), none⟩,
  ⟨(some 34), .slit 2 1 [(.int .i64 0)] [(0, 1, (.tmp 33))], none⟩,
  ⟨(some 35), .append 2 1 8 (.tmp 32) (.tmp 34), none⟩,
  ⟨(some 3), .mov (.tmp 35), none⟩]))))
 (.ops [⟨(some 11), .mov (.tmp 4), none⟩,
  ⟨(some 12), .ar .i64 .add (.tmp 11) (.const (.int .i64 1)), none⟩,
  ⟨(some 4), .mov (.tmp 12), none⟩]))))))
 (.seq (.ops [⟨(some 36), .mov (.tmp 3), none⟩,
  ⟨(some 37), .mov (.tmp 0), none⟩,
  ⟨(some 38), .idxS 1 (.tmp 36) (.tmp 37), none⟩,
  ⟨(some 39), .load1 (.tmp 38), none⟩,
  ⟨(some 2), .mov (.tmp 39), none⟩])
 .ret))))
theorem enter66 {xs : List Value} {h : Hp} {Q : Value → Hp → Prop} (hl : xs.length ≤ 40) (w : wq E 40 none c66 (frameOf xs) h [] (leaveQ E [.tmp 2] Q)) : CallP E 66 xs h Q :=
  CallP.enterQ (fn := Try.f66) (fn_get Try.func66) (code := Try.f66.body.get rfl) rfl rfl rfl (by kernel_rfl) rfl (fun _ => rfl) hl w
theorem can66 : callable E 66 = true := callable_get Try.func66 rfl rfl

/-- tosher/search.reach -/
def c75 : C := (.seq (.ops [⟨(some 4), .mov (.const (.int .i64 0)), none⟩])
 (.seq (.ops [⟨(some 5), .alloc 128 [(.int .i64 0), (.int .i64 0), (.int .i64 0), (.int .i64 0), (.int .i64 0), (.int .i64 0), (.int .i64 0), (.int .i64 0), (.int .i64 0), (.int .i64 0), (.int .i64 0), (.int .i64 0), (.int .i64 0), (.int .i64 0), (.int .i64 0), (.int .i64 0), (.int .i64 0), (.int .i64 0), (.int .i64 0), (.int .i64 0), (.int .i64 0)], none⟩])
 (.seq (.seq (.ops [⟨(some 7), .mov (.tmp 1), none⟩,
  ⟨(some 8), .mov (.const (.int .i64 0)), none⟩])
 (.block 0 (.loop (.seq (.ops [⟨(some 9), .ar .i64 .lss (.tmp 8) (.tmp 7), none⟩])
 (.seq (.cond (.tmp 9) .skip
 (.exit 0))
 (.seq (.block 1 (.seq (.ops [⟨(some 10), .mov (.tmp 0), none⟩,
  ⟨(some 6), .mov (.tmp 10), none⟩])
 (.block 2 (.loop (.seq (.seq (.ops [⟨(some 11), .mov (.tmp 6), none⟩,
  ⟨(some 12), .ar .i64 .gtr (.tmp 11) (.const (.int .i64 0)), none⟩])
 (.cond (.tmp 12) .skip
 (.exit 2)))
 (.seq (.block 3 (.ops [⟨(some 15), .mov (.tmp 6), none⟩,
  ⟨(some 16), .idxA 21 1 (.tmp 5) (.tmp 15), none⟩,
  ⟨(some 17), .load1 (.tmp 16), none⟩,
  ⟨(some 18), .mov (.tmp 6), none⟩,
  ⟨(some 19), .ar .i64 .sub (.tmp 18) (.const (.int .i64 1)), none⟩,
  ⟨(some 20), .idxA 21 1 (.tmp 5) (.tmp 19), none⟩,
  ⟨(some 21), .load1 (.tmp 20), none⟩,
  ⟨(some 22), .ar .i64 .add (.tmp 21) (.const (.int .i64 1)), none⟩,
  ⟨(some 23), .ar .i64 .add (.tmp 17) (.tmp 22), none⟩,
  ⟨(some 24), .idxA 21 1 (.tmp 5) (.tmp 15), none⟩,
  ⟨none, .store 1 (.tmp 24) (.tmp 23), none⟩]))
 (.ops [⟨(some 13), .mov (.tmp 6), none⟩,
  ⟨(some 14), .ar .i64 .sub (.tmp 13) (.const (.int .i64 1)), none⟩,
  ⟨(some 6), .mov (.tmp 14), none⟩])))))))
 (.ops [⟨(some 25), .ar .i64 .add (.tmp 8) (.const (.int .i64 1)), none⟩,
  ⟨(some 8), .mov (.tmp 25), none⟩])))))))
 (.seq (.ops [⟨(some 26), .mov (.tmp 0), none⟩,
  ⟨(some 27), .idxA 21 1 (.tmp 5) (.tmp 26), none⟩,
  ⟨(some 28), .load1 (.tmp 27), none⟩,
  ⟨(some 4), .mov (.tmp 28), none⟩])
 .ret))))
theorem enter75 {xs : List Value} {h : Hp} {Q : Value → Hp → Prop} (hl : xs.length ≤ 29) (w : wq E 29 none c75 (frameOf xs) h [] (leaveQ E [.tmp 4] Q)) : CallP E 75 xs h Q :=
  CallP.enterQ (fn := Try.f75) (fn_get Try.func75) (code := Try.f75.body.get rfl) rfl rfl rfl (by kernel_rfl) rfl (fun _ => rfl) hl w
theorem can75 : callable E 75 = true := callable_get Try.func75 rfl rfl

/-- tosher/search.isPlan$1 -/
def c76 : C := (.seq (.ops [⟨(some 3), .box 115 (.tmp 0), none⟩,
  ⟨(some 5), .mov (.const (.bool false)), none⟩])
 (.seq (.seq (.ops [⟨(some 9), .mov (.tmp 1), none⟩,
  ⟨(some 10), .lenS (.tmp 9), none⟩,
  ⟨(some 11), .fldA 1 (.tmp 3), none⟩,
  ⟨(some 12), .load1 (.tmp 11), none⟩,
  ⟨(some 13), .fldA 0 (.tmp 3), none⟩,
  ⟨(some 14), .load1 (.tmp 13), none⟩,
  ⟨(some 15), .ar .i64 .sub (.tmp 12) (.tmp 14), none⟩,
  ⟨(some 16), .ar .i64 .neq (.tmp 10) (.tmp 15), none⟩])
 (.cond (.tmp 16) (.seq (.ops [⟨(some 5), .mov (.const (.bool false)), none⟩])
 .ret)
 .skip))
 (.seq (.seq (.ops [⟨(some 17), .loadN 2 (.tmp 3), none⟩,
  ⟨(some 18), .call 77 [(.tmp 17)], none⟩])
 (.cond (.tmp 18) (.seq (.ops [⟨(some 5), .mov (.const (.bool true)), none⟩])
 .ret)
 .skip))
 (.seq (.ops [⟨(some 19), .mov (.tmp 1), none⟩,
  ⟨(some 20), .idxS 1 (.tmp 19) (.const (.int .i64 0)), none⟩,
  ⟨(some 21), .load1 (.tmp 20), none⟩,
  ⟨(some 22), .mov (.tmp 1), none⟩,
  ⟨(some 23), .cutS 1 (.tmp 22) (some (.const (.int .i64 1))) none none, none⟩,
  ⟨(some 6), .mov (.tmp 21), none⟩,
  ⟨(some 7), .mov (.tmp 23), none⟩])
 (.seq (.seq (.ops [⟨(some 24), .mov (.tmp 6), none⟩,
  ⟨(some 25), .fldA 0 (.tmp 3), none⟩,
  ⟨(some 26), .load1 (.tmp 25), none⟩,
  ⟨(some 27), .ar .i64 .lss (.tmp 24) (.tmp 26), none⟩,
  ⟨(some 28), .mov (.tmp 27), none⟩,
  ⟨(some 29), .mov (.tmp 6), (some (28, false))⟩,
  ⟨(some 30), .fldA 1 (.tmp 3), (some (28, false))⟩,
  ⟨(some 31), .load1 (.tmp 30), (some (28, false))⟩,
  ⟨(some 32), .ar .i64 .geq (.tmp 29) (.tmp 31), (some (28, false))⟩,
  ⟨(some 33), .pick (.tmp 28) (.const (.bool true)) (.tmp 32), none⟩])
 (.cond (.tmp 33) (.seq (.ops [⟨(some 5), .mov (.const (.bool false)), none⟩])
 .ret)
 .skip))
 (.seq (.ops [⟨(some 34), .mov (.tmp 6), none⟩,
  ⟨(some 35), .fldA 0 (.tmp 3), none⟩,
  ⟨(some 36), .load1 (.tmp 35), none⟩,
  ⟨(some 37), .ar .i64 .sub (.tmp 34) (.tmp 36), none⟩,
  ⟨(some 8), .mov (.tmp 37), none⟩])
 (.seq (.draw [⟨(some 38), .load1 (.tmp 2), none⟩,
  ⟨(some 39), .loadN 2 (.tmp 3), none⟩,
  ⟨(some 40), .mov (.tmp 6), none⟩,
  ⟨(some 41), .call 78 [(.tmp 39), (.tmp 40)], none⟩,
  ⟨(some 42), .mov (.tmp 7), none⟩,
  ⟨(some 43), .mov (.tmp 8), none⟩,
  ⟨(some 44), .cutS 1 (.tmp 42) none (some (.tmp 43)) none, none⟩,
  ⟨(some 45), .callv (.tmp 38) [(.tmp 41), (.tmp 44)], none⟩,
  ⟨(some 46), .mov (.tmp 45), none⟩,
  ⟨(some 47), .load1 (.tmp 2), (some (46, true))⟩,
  ⟨(some 48), .loadN 2 (.tmp 3), (some (46, true))⟩,
  ⟨(some 49), .mov (.tmp 6), (some (46, true))⟩,
  ⟨(some 50), .call 79 [(.tmp 48), (.tmp 49)], (some (46, true))⟩,
  ⟨(some 51), .mov (.tmp 7), (some (46, true))⟩,
  ⟨(some 52), .mov (.tmp 8), (some (46, true))⟩,
  ⟨(some 53), .cutS 1 (.tmp 51) (some (.tmp 52)) none none, (some (46, true))⟩,
  ⟨(some 54), .callv (.tmp 47) [(.tmp 50), (.tmp 53)], (some (46, true))⟩,
  ⟨(some 55), .pick (.tmp 46) (.tmp 54) (.const (.bool false)), none⟩,
  ⟨(some 5), .mov (.tmp 55), none⟩]
  [⟨false, true, [false, false, false, false, false, false, false, false, false, false, false, false, false, false, false, false, false, false, false], [false, false, false, true, false, false, false, false, false, false, false, false, false, false, false, false, false, false, false]⟩,
  ⟨false, false, [false, false, false, false, false, false, false, false, false, false, false, false, false, false, false, false, false, false, false], [false, false, false, false, false, false, false, false, false, false, false, false, false, false, false, false, false, false, false]⟩,
  ⟨false, false, [false, false, false, false, false, false, false, false, false, false, false, false, false, false, false, false, false, false, false], [false, false, false, false, false, false, false, false, false, false, false, false, false, false, false, false, false, false, false]⟩,
  ⟨true, false, [false, false, false, false, false, false, false, false, false, false, false, false, false, false, false, false, false, false, false], [false, false, false, true, false, false, false, false, false, false, false, false, false, false, false, false, false, false, false]⟩,
  ⟨false, true, [false, false, false, false, false, false, false, false, false, false, false, false, false, false, false, false, false, false, false], [false, false, false, true, false, false, false, false, false, false, false, false, false, false, false, false, false, false, false]⟩,
  ⟨false, true, [false, false, false, false, false, false, false, false, false, false, false, false, false, false, false, false, false, false, false], [false, false, false, true, false, false, false, false, false, false, false, false, false, false, false, false, false, false, false]⟩,
  ⟨false, true, [false, false, false, false, false, false, false, false, false, false, false, false, false, false, false, false, false, false, false], [false, false, false, true, false, false, false, false, false, false, false, false, false, false, false, false, false, false, false]⟩,
  ⟨true, false, [false, false, false, true, false, false, false, false, false, false, false, false, false, false, false, false, false, false, false], [false, false, false, true, false, false, false, true, false, false, false, false, false, false, false, false, false, false, false]⟩,
  ⟨false, false, [false, false, false, true, false, false, false, true, false, false, false, false, false, false, false, false, false, false, false], [false, false, false, true, false, false, false, true, false, false, false, false, false, false, false, false, false, false, false]⟩,
  ⟨false, true, [false, false, false, true, false, false, false, true, false, false, false, false, false, false, false, false, false, false, false], [false, false, false, true, false, false, false, true, false, false, false, false, true, false, false, false, false, false, false]⟩,
  ⟨false, false, [false, false, false, true, false, false, false, true, false, false, false, false, false, false, false, false, false, false, false], [false, false, false, true, false, false, false, true, false, false, false, false, false, false, false, false, false, false, false]⟩,
  ⟨false, false, [false, false, false, true, false, false, false, true, false, false, false, false, false, false, false, false, false, false, false], [false, false, false, true, false, false, false, true, false, false, false, false, false, false, false, false, false, false, false]⟩,
  ⟨true, false, [false, false, false, true, false, false, false, true, false, false, false, false, false, false, false, false, false, false, false], [false, false, false, true, false, false, false, true, false, false, false, false, true, false, false, false, false, false, false]⟩,
  ⟨false, true, [false, false, false, true, false, false, false, true, false, false, false, false, false, false, false, false, false, false, false], [false, false, false, true, false, false, false, true, false, false, false, false, true, false, false, false, false, false, false]⟩,
  ⟨false, true, [false, false, false, true, false, false, false, true, false, false, false, false, false, false, false, false, false, false, false], [false, false, false, true, false, false, false, true, false, false, false, false, true, false, false, false, false, false, false]⟩,
  ⟨false, true, [false, false, false, true, false, false, false, true, false, false, false, false, false, false, false, false, false, false, false], [false, false, false, true, false, false, false, true, false, false, false, false, true, false, false, false, false, false, false]⟩,
  ⟨true, false, [false, false, false, true, false, false, false, true, false, false, false, false, true, false, false, false, false, false, false], [false, false, false, true, false, false, false, true, false, false, false, false, true, false, false, false, true, false, false]⟩,
  ⟨false, false, [false, false, false, true, false, false, false, true, false, false, false, false, true, false, false, false, true, false, false], [false, false, false, true, false, false, false, true, false, false, false, false, true, false, false, false, true, false, false]⟩,
  ⟨false, false, [false, false, false, true, false, false, false, true, false, false, false, false, true, false, false, false, true, false, false], [false, false, false, true, false, false, false, true, false, false, false, false, true, false, false, false, true, false, false]⟩])
 .ret)))))))
theorem enter76 {xs : List Value} {h : Hp} {Q : Value → Hp → Prop} (hl : xs.length ≤ 56) (w : wq E 56 none c76 (frameOf xs) h [] (leaveQ E [.tmp 5] Q)) : CallP E 76 xs h Q :=
  CallP.enterQ (fn := Try.f76) (fn_get Try.func76) (code := Try.f76.body.get rfl) rfl rfl rfl (by kernel_rfl) rfl (fun _ => rfl) hl w
theorem can76 : callable E 76 = true := callable_get Try.func76 rfl rfl

/-- (tosher/search.part).isPiece -/
def c77 : C := (.seq (.ops [⟨(some 1), .box 115 (.tmp 0), none⟩,
  ⟨(some 2), .mov (.const (.bool false)), none⟩])
 (.seq (.ops [⟨(some 3), .loadN 2 (.tmp 1), none⟩,
  ⟨(some 4), .fldA 0 (.tmp 1), none⟩,
  ⟨(some 5), .load1 (.tmp 4), none⟩,
  ⟨(some 6), .fldA 0 (.tmp 1), none⟩,
  ⟨(some 7), .load1 (.tmp 6), none⟩,
  ⟨(some 8), .aggr [(.int .i64 0), (.int .i64 0)] [(0, 1, (.tmp 5)), (1, 1, (.tmp 7))], none⟩,
  ⟨(some 9), .raw (.binOp .eql 115 (.tmp 3) (.tmp 8) 115) 4, none⟩,
  ⟨(some 2), .mov (.tmp 9), none⟩])
 .ret))
theorem enter77 {xs : List Value} {h : Hp} {Q : Value → Hp → Prop} (hl : xs.length ≤ 10) (w : wq E 10 none c77 (frameOf xs) h [] (leaveQ E [.tmp 2] Q)) : CallP E 77 xs h Q :=
  CallP.enterQ (fn := Try.f77) (fn_get Try.func77) (code := Try.f77.body.get rfl) rfl rfl rfl (by kernel_rfl) rfl (fun _ => rfl) hl w
theorem can77 : callable E 77 = true := callable_get Try.func77 rfl rfl

/-- (tosher/search.part).before -/
def c78 : C := (.seq (.ops [⟨(some 2), .box 115 (.tmp 0), none⟩,
  ⟨(some 4), .alloc 115 [(.int .i64 0), (.int .i64 0)], none⟩])
 (.seq (.ops [⟨(some 5), .fldA 0 (.tmp 2), none⟩,
  ⟨(some 6), .load1 (.tmp 5), none⟩,
  ⟨(some 7), .mov (.tmp 1), none⟩,
  ⟨(some 8), .aggr [(.int .i64 0), (.int .i64 0)] [(0, 1, (.tmp 6)), (1, 1, (.tmp 7))], none⟩,
  ⟨none, .store 2 (.tmp 4) (.tmp 8), none⟩])
 .ret))
theorem enter78 {xs : List Value} {h : Hp} {Q : Value → Hp → Prop} (hl : xs.length ≤ 9) (w : wq E 9 none c78 (frameOf xs) h [] (leaveQ E [.cell 4 115] Q)) : CallP E 78 xs h Q :=
  CallP.enterQ (fn := Try.f78) (fn_get Try.func78) (code := Try.f78.body.get rfl) rfl rfl rfl (by kernel_rfl) rfl (fun _ => rfl) hl w
theorem can78 : callable E 78 = true := callable_get Try.func78 rfl rfl

/-- (tosher/search.part).behind -/
def c79 : C := (.seq (.ops [⟨(some 2), .box 115 (.tmp 0), none⟩,
  ⟨(some 4), .alloc 115 [(.int .i64 0), (.int .i64 0)], none⟩])
 (.seq (.ops [⟨(some 5), .mov (.tmp 1), none⟩,
  ⟨(some 6), .ar .i64 .add (.tmp 5) (.const (.int .i64 1)), none⟩,
  ⟨(some 7), .fldA 1 (.tmp 2), none⟩,
  ⟨(some 8), .load1 (.tmp 7), none⟩,
  ⟨(some 9), .aggr [(.int .i64 0), (.int .i64 0)] [(0, 1, (.tmp 6)), (1, 1, (.tmp 8))], none⟩,
  ⟨none, .store 2 (.tmp 4) (.tmp 9), none⟩])
 .ret))
theorem enter79 {xs : List Value} {h : Hp} {Q : Value → Hp → Prop} (hl : xs.length ≤ 10) (w : wq E 10 none c79 (frameOf xs) h [] (leaveQ E [.cell 4 115] Q)) : CallP E 79 xs h Q :=
  CallP.enterQ (fn := Try.f79) (fn_get Try.func79) (code := Try.f79.body.get rfl) rfl rfl rfl (by kernel_rfl) rfl (fun _ => rfl) hl w
theorem can79 : callable E 79 = true := callable_get Try.func79 rfl rfl

/-- tosher/search.filled -/
def c80 : C := (.seq (.ops [⟨(some 3), .box 118 (.tmp 1), none⟩,
  ⟨(some 4), .alloc 88 [(.int .i64 0), (.int .i64 0), (.int .i64 0), (.int .i64 0), (.int .i64 0), (.int .i64 0), (.int .i64 0), (.int .i64 0), (.int .i64 0), (.int .i64 0), (.int .i64 0), (.int .i64 0), (.int .i64 0), (.int .i64 0), (.int .i64 0), (.int .i64 0), (.int .i64 0), (.int .i64 0), (.int .i64 0), (.int .i64 0), (.int .i64 0), (.int .i64 0), (.int .i64 0), (.int .i64 0), (.int .i64 0), (.int .i64 0), (.int .i64 0), (.int .i64 0), (.int .i64 0), (.int .i64 0), (.int .i64 0), (.int .i64 0), (.int .i64 0), (.int .i64 0), (.int .i64 0), (.int .i64 0), (.int .i64 0), (.int .i64 0), (.int .i64 0), (.int .i64 0), (.int .i64 0), (.int .i64 0), (.int .i64 0), (.int .i64 0), (.int .i64 0), (.int .i64 0), (.int .i64 0), (.int .i64 0), (.int .i64 0), (.int .i64 0), (.int .i64 0), (.int .i64 0), (.int .i64 0), (.int .i64 0), (.int .i64 0), (.int .i64 0), (.int .i64 0), (.int .i64 0), (.int .i64 0), (.int .i64 0), (.int .i64 0), (.int .i64 0), (.int .i64 0), (.int .i64 0), (.int .i64 0), (.int .i64 0), (.int .i64 0), (.int .i64 0), (.int .i64 0), (.int .i64 0), (.int .i64 0), (.int .i64 0), (.int .i64 0), (.int .i64 0), (.int .i64 0), (.int .i64 0), (.int .i64 0), (.int .i64 0), (.int .i64 0), (.int .i64 0), (.int .i64 0), (.int .i64 0), (.int .i64 0), (.int .i64 0), (.int .i64 0), (.int .i64 0), (.int .i64 0), (.int .i64 0), (.int .i64 0), (.int .i64 0), (.int .i64 0), (.int .i64 0), (.int .i64 0), (.int .i64 0), (.int .i64 0), (.int .i64 0), (.int .i64 0), (.int .i64 0), (.int .i64 0), (.int .i64 0), (.int .i64 0), (.int .i64 0), (.int .i64 0), (.int .i64 0), (.int .i64 0), (.int .i64 0), (.int .i64 0), (.int .i64 0), (.int .i64 0), (.int .i64 0), (.int .i64 0), (.int .i64 0), (.int .i64 0), (.int .i64 0), (.int .i64 0), (.int .i64 0), (.int .i64 0), (.int .i64 0), (.int .i64 0), (.int .i64 0), (.int .i64 0), (.int .i64 0), (.int .i64 0), (.int .i64 0), (.int .i64 0), (.int .i64 0), (.int .i64 0), (.int .i64 0), (.int .i64 0), (.int .i64 0), (.int .i64 0), (.int .i64 0), (.int .i64 0), (.int .i64 0), (.int .i64 0), (.int .i64 0), (.int .i64 0), (.int .i64 0), (.int .i64 0), (.int .i64 0), (.int .i64 0), (.int .i64 0), (.int .i64 0), (.int .i64 0), (.int .i64 0), (.int .i64 0), (.int .i64 0), (.int .i64 0), (.int .i64 0), (.int .i64 0), (.int .i64 0), (.int .i64 0), (.int .i64 0), (.int .i64 0), (.int .i64 0), (.int .i64 0), (.int .i64 0), (.int .i64 0), (.int .i64 0), (.int .i64 0), (.int .i64 0), (.int .i64 0), (.int .i64 0), (.int .i64 0), (.int .i64 0), (.int .i64 0), (.int .i64 0), (.int .i64 0), (.int .i64 0), (.int .i64 0), (.int .i64 0), (.int .i64 0), (.int .i64 0), (.int .i64 0), (.int .i64 0), (.int .i64 0), (.int .i64 0), (.int .i64 0), (.int .i64 0), (.int .i64 0), (.int .i64 0), (.int .i64 0), (.int .i64 0), (.int .i64 0), (.int .i64 0), (.int .i64 0), (.int .i64 0), (.int .i64 0), (.int .i64 0), (.int .i64 0), (.int .i64 0), (.int .i64 0), (.int .i64 0), (.int .i64 0), (.int .i64 0), (.int .i64 0), (.int .i64 0), (.int .i64 0), (.int .i64 0), (.int .i64 0), (.int .i64 0), (.int .i64 0), (.int .i64 0), (.int .i64 0), (.int .i64 0), (.int .i64 0), (.int .i64 0), (.int .i64 0), (.int .i64 0), (.int .i64 0), (.int .i64 0), (.int .i64 0), (.int .i64 0), (.int .i64 0), (.int .i64 0), (.int .i64 0), (.int .i64 0), (.int .i64 0), (.int .i64 0), (.int .i64 0), (.int .i64 0), (.int .i64 0), (.int .i64 0), (.int .i64 0), (.int .i64 0), (.int .i64 0), (.int .i64 0), (.int .i64 0), (.int .i64 0), (.int .i64 0), (.int .i64 0), (.int .i64 0), (.int .i64 0), (.int .i64 0), (.int .i64 0), (.int .i64 0), (.int .i64 0), (.int .i64 0), (.int .i64 0), (.int .i64 0), (.int .i64 0), (.int .i64 0), (.int .i64 0), (.int .i64 0), (.int .i64 0), (.int .i64 0), (.int .i64 0), (.int .i64 0), (.int .i64 0), (.int .i64 0), (.int .i64 0), (.int .i64 0), (.int .i64 0), (.int .i64 0), (.int .i64 0), (.int .i64 0), (.int .i64 0), (.int .i64 0), (.int .i64 0), (.int .i64 0), (.int .i64 0), (.int .i64 0), (.int .i64 0), (.int .i64 0), (.int .i64 0), (.int .i64 0), (.int .i64 0), (.int .i64 0), (.int .i64 0), (.int .i64 0), (.int .i64 0), (.int .i64 0), (.int .i64 0), (.int .i64 0), (.int .i64 0), (.int .i64 0), (.int .i64 0), (.int .i64 0), (.int .i64 0), (.int .i64 0), (.int .i64 0), (.int .i64 0), (.int .i64 0), (.int .i64 0), (.int .i64 0), (.int .i64 0), (.int .i64 0), (.int .i64 0), (.int .i64 0), (.int .i64 0), (.int .i64 0), (.int .i64 0), (.int .i64 0), (.int .i64 0), (.int .i64 0), (.int .i64 0), (.int .i64 0), (.int .i64 0), (.int .i64 0), (.int .i64 0), (.int .i64 0), (.int .i64 0), (.int .i64 0), (.int .i64 0), (.int .i64 0), (.int .i64 0), (.int .i64 0), (.int .i64 0), (.int .i64 0), (.int .i64 0), (.int .i64 0), (.int .i64 0), (.int .i64 0), (.int .i64 0), (.int .i64 0), (.int .i64 0), (.int .i64 0), (.int .i64 0), (.int .i64 0), (.int .i64 0), (.int .i64 0), (.int .i64 0), (.int .i64 0), (.int .i64 0), (.int .i64 0), (.int .i64 0), (.int .i64 0), (.int .i64 0), (.int .i64 0), (.int .i64 0), (.int .i64 0), (.int .i64 0), (.int .i64 0), (.int .i64 0), (.int .i64 0), (.int .i64 0), (.int .i64 0), (.int .i64 0)], none⟩])
 (.seq (.ops [⟨(some 5), .alloc 88 [(.int .i64 0), (.int .i64 0), (.int .i64 0), (.int .i64 0), (.int .i64 0), (.int .i64 0), (.int .i64 0), (.int .i64 0), (.int .i64 0), (.int .i64 0), (.int .i64 0), (.int .i64 0), (.int .i64 0), (.int .i64 0), (.int .i64 0), (.int .i64 0), (.int .i64 0), (.int .i64 0), (.int .i64 0), (.int .i64 0), (.int .i64 0), (.int .i64 0), (.int .i64 0), (.int .i64 0), (.int .i64 0), (.int .i64 0), (.int .i64 0), (.int .i64 0), (.int .i64 0), (.int .i64 0), (.int .i64 0), (.int .i64 0), (.int .i64 0), (.int .i64 0), (.int .i64 0), (.int .i64 0), (.int .i64 0), (.int .i64 0), (.int .i64 0), (.int .i64 0), (.int .i64 0), (.int .i64 0), (.int .i64 0), (.int .i64 0), (.int .i64 0), (.int .i64 0), (.int .i64 0), (.int .i64 0), (.int .i64 0), (.int .i64 0), (.int .i64 0), (.int .i64 0), (.int .i64 0), (.int .i64 0), (.int .i64 0), (.int .i64 0), (.int .i64 0), (.int .i64 0), (.int .i64 0), (.int .i64 0), (.int .i64 0), (.int .i64 0), (.int .i64 0), (.int .i64 0), (.int .i64 0), (.int .i64 0), (.int .i64 0), (.int .i64 0), (.int .i64 0), (.int .i64 0), (.int .i64 0), (.int .i64 0), (.int .i64 0), (.int .i64 0), (.int .i64 0), (.int .i64 0), (.int .i64 0), (.int .i64 0), (.int .i64 0), (.int .i64 0), (.int .i64 0), (.int .i64 0), (.int .i64 0), (.int .i64 0), (.int .i64 0), (.int .i64 0), (.int .i64 0), (.int .i64 0), (.int .i64 0), (.int .i64 0), (.int .i64 0), (.int .i64 0), (.int .i64 0), (.int .i64 0), (.int .i64 0), (.int .i64 0), (.int .i64 0), (.int .i64 0), (.int .i64 0), (.int .i64 0), (.int .i64 0), (.int .i64 0), (.int .i64 0), (.int .i64 0), (.int .i64 0), (.int .i64 0), (.int .i64 0), (.int .i64 0), (.int .i64 0), (.int .i64 0), (.int .i64 0), (.int .i64 0), (.int .i64 0), (.int .i64 0), (.int .i64 0), (.int .i64 0), (.int .i64 0), (.int .i64 0), (.int .i64 0), (.int .i64 0), (.int .i64 0), (.int .i64 0), (.int .i64 0), (.int .i64 0), (.int .i64 0), (.int .i64 0), (.int .i64 0), (.int .i64 0), (.int .i64 0), (.int .i64 0), (.int .i64 0), (.int .i64 0), (.int .i64 0), (.int .i64 0), (.int .i64 0), (.int .i64 0), (.int .i64 0), (.int .i64 0), (.int .i64 0), (.int .i64 0), (.int .i64 0), (.int .i64 0), (.int .i64 0), (.int .i64 0), (.int .i64 0), (.int .i64 0), (.int .i64 0), (.int .i64 0), (.int .i64 0), (.int .i64 0), (.int .i64 0), (.int .i64 0), (.int .i64 0), (.int .i64 0), (.int .i64 0), (.int .i64 0), (.int .i64 0), (.int .i64 0), (.int .i64 0), (.int .i64 0), (.int .i64 0), (.int .i64 0), (.int .i64 0), (.int .i64 0), (.int .i64 0), (.int .i64 0), (.int .i64 0), (.int .i64 0), (.int .i64 0), (.int .i64 0), (.int .i64 0), (.int .i64 0), (.int .i64 0), (.int .i64 0), (.int .i64 0), (.int .i64 0), (.int .i64 0), (.int .i64 0), (.int .i64 0), (.int .i64 0), (.int .i64 0), (.int .i64 0), (.int .i64 0), (.int .i64 0), (.int .i64 0), (.int .i64 0), (.int .i64 0), (.int .i64 0), (.int .i64 0), (.int .i64 0), (.int .i64 0), (.int .i64 0), (.int .i64 0), (.int .i64 0), (.int .i64 0), (.int .i64 0), (.int .i64 0), (.int .i64 0), (.int .i64 0), (.int .i64 0), (.int .i64 0), (.int .i64 0), (.int .i64 0), (.int .i64 0), (.int .i64 0), (.int .i64 0), (.int .i64 0), (.int .i64 0), (.int .i64 0), (.int .i64 0), (.int .i64 0), (.int .i64 0), (.int .i64 0), (.int .i64 0), (.int .i64 0), (.int .i64 0), (.int .i64 0), (.int .i64 0), (.int .i64 0), (.int .i64 0), (.int .i64 0), (.int .i64 0), (.int .i64 0), (.int .i64 0), (.int .i64 0), (.int .i64 0), (.int .i64 0), (.int .i64 0), (.int .i64 0), (.int .i64 0), (.int .i64 0), (.int .i64 0), (.int .i64 0), (.int .i64 0), (.int .i64 0), (.int .i64 0), (.int .i64 0), (.int .i64 0), (.int .i64 0), (.int .i64 0), (.int .i64 0), (.int .i64 0), (.int .i64 0), (.int .i64 0), (.int .i64 0), (.int .i64 0), (.int .i64 0), (.int .i64 0), (.int .i64 0), (.int .i64 0), (.int .i64 0), (.int .i64 0), (.int .i64 0), (.int .i64 0), (.int .i64 0), (.int .i64 0), (.int .i64 0), (.int .i64 0), (.int .i64 0), (.int .i64 0), (.int .i64 0), (.int .i64 0), (.int .i64 0), (.int .i64 0), (.int .i64 0), (.int .i64 0), (.int .i64 0), (.int .i64 0), (.int .i64 0), (.int .i64 0), (.int .i64 0), (.int .i64 0), (.int .i64 0), (.int .i64 0), (.int .i64 0), (.int .i64 0), (.int .i64 0), (.int .i64 0), (.int .i64 0), (.int .i64 0), (.int .i64 0), (.int .i64 0), (.int .i64 0), (.int .i64 0), (.int .i64 0), (.int .i64 0), (.int .i64 0), (.int .i64 0), (.int .i64 0), (.int .i64 0), (.int .i64 0), (.int .i64 0), (.int .i64 0), (.int .i64 0), (.int .i64 0), (.int .i64 0), (.int .i64 0), (.int .i64 0), (.int .i64 0), (.int .i64 0), (.int .i64 0), (.int .i64 0), (.int .i64 0), (.int .i64 0), (.int .i64 0), (.int .i64 0), (.int .i64 0), (.int .i64 0), (.int .i64 0), (.int .i64 0), (.int .i64 0), (.int .i64 0), (.int .i64 0), (.int .i64 0), (.int .i64 0), (.int .i64 0), (.int .i64 0), (.int .i64 0), (.int .i64 0), (.int .i64 0), (.int .i64 0), (.int .i64 0), (.int .i64 0), (.int .i64 0), (.int .i64 0), (.int .i64 0), (.int .i64 0), (.int .i64 0), (.int .i64 0), (.int .i64 0), (.int .i64 0), (.int .i64 0), (.int .i64 0), (.int .i64 0), (.int .i64 0), (.int .i64 0), (.int .i64 0), (.int .i64 0)], none⟩])
 (.seq (.seq (.ops [⟨(some 6), .mov (.const (.int .i64 1)), none⟩])
 (.block 0 (.loop (.seq (.seq (.ops [⟨(some 12), .mov (.tmp 6), none⟩,
  ⟨(some 13), .mov (.tmp 0), none⟩,
  ⟨(some 14), .ar .i64 .leq (.tmp 12) (.tmp 13), none⟩])
 (.cond (.tmp 14) .skip
 (.exit 0)))
 (.seq (.block 1 (.seq (.ops [⟨(some 17), .mov (.tmp 0), none⟩,
  ⟨(some 18), .mov (.tmp 6), none⟩,
  ⟨(some 19), .ar .i64 .sub (.tmp 17) (.tmp 18), none⟩,
  ⟨(some 20), .ar .i64 .add (.tmp 19) (.const (.int .i64 1)), none⟩,
  ⟨(some 21), .mov (.const (.int .i64 0)), none⟩])
 (.block 2 (.loop (.seq (.ops [⟨(some 22), .ar .i64 .lss (.tmp 21) (.tmp 20), none⟩])
 (.seq (.cond (.tmp 22) .skip
 (.exit 2))
 (.seq (.block 3 (.seq (.ops [⟨(some 23), .mov (.tmp 21), none⟩,
  ⟨(some 7), .mov (.tmp 23), none⟩])
 (.seq (.ops [⟨(some 24), .mov (.tmp 7), none⟩,
  ⟨(some 25), .mov (.tmp 7), none⟩,
  ⟨(some 26), .mov (.tmp 6), none⟩,
  ⟨(some 27), .ar .i64 .add (.tmp 25) (.tmp 26), none⟩,
  ⟨(some 28), .aggr [(.int .i64 0), (.int .i64 0)] [(0, 1, (.tmp 24)), (1, 1, (.tmp 27))], none⟩,
  ⟨(some 8), .alloc 115 [(.int .i64 0), (.int .i64 0)], none⟩,
  ⟨none, .store 2 (.tmp 8) (.tmp 28), none⟩])
 (.seq (.ops [⟨(some 29), .aggr [(.int .i64 0), (.int .i64 0)] [(1, 1, (.const (.int .i64 (-1))))], none⟩,
  ⟨(some 9), .alloc 85 [(.int .i64 0), (.int .i64 0)], none⟩,
  ⟨none, .store 2 (.tmp 9) (.tmp 29), none⟩])
 (.seq (.seq (.ops [⟨(some 30), .loadN 2 (.tmp 8), none⟩,
  ⟨(some 31), .call 92 [(.tmp 30)], none⟩])
 (.block 4 (.range (.tmp 31) ⟨[32]⟩ (.ops [⟨(some 10), .mov (.tmp 32), none⟩])
 (.block 5 (.seq (.ahead [⟨(some 33), .load1 (.tmp 3), none⟩,
  ⟨(some 34), .loadN 2 (.tmp 8), none⟩,
  ⟨(some 35), .mov (.tmp 10), none⟩,
  ⟨(some 36), .fldA 0 (.tmp 8), none⟩,
  ⟨(some 37), .load1 (.tmp 36), none⟩,
  ⟨(some 38), .mov (.tmp 10), none⟩,
  ⟨(some 39), .idxA 13 26 (.tmp 5) (.tmp 37), none⟩,
  ⟨(some 40), .idxA 13 2 (.tmp 39) (.tmp 38), none⟩,
  ⟨(some 41), .fldA 0 (.tmp 40), none⟩,
  ⟨(some 42), .load1 (.tmp 41), none⟩,
  ⟨(some 43), .mov (.tmp 10), none⟩,
  ⟨(some 44), .ar .i64 .add (.tmp 43) (.const (.int .i64 1)), none⟩,
  ⟨(some 45), .fldA 1 (.tmp 8), none⟩,
  ⟨(some 46), .load1 (.tmp 45), none⟩,
  ⟨(some 47), .idxA 13 26 (.tmp 5) (.tmp 44), none⟩,
  ⟨(some 48), .idxA 13 2 (.tmp 47) (.tmp 46), none⟩,
  ⟨(some 49), .fldA 0 (.tmp 48), none⟩,
  ⟨(some 50), .load1 (.tmp 49), none⟩,
  ⟨(some 51), .callv (.tmp 33) [(.tmp 34), (.tmp 35), (.tmp 42), (.tmp 50)], none⟩,
  ⟨(some 52), .mov (.tmp 10), none⟩,
  ⟨(some 53), .aggr [(.int .i64 0), (.int .i64 0)] [(0, 1, (.tmp 51)), (1, 1, (.tmp 52))], none⟩,
  ⟨(some 11), .alloc 85 [(.int .i64 0), (.int .i64 0)], none⟩,
  ⟨none, .store 2 (.tmp 11) (.tmp 53), none⟩]
  [⟨false, false, [false, false, false, false, false, false, false, false, false, false, false, false, false, false, false, false, false, false, false, false, false, false, false], [false, false, false, false, false, false, false, false, false, false, false, false, false, false, false, false, false, false, false, false, false, false, false]⟩,
  ⟨false, false, [false, false, false, false, false, false, false, false, false, false, false, false, false, false, false, false, false, false, false, false, false, false, false], [false, false, false, false, false, false, false, false, false, false, false, false, false, false, false, false, false, false, false, false, false, false, false]⟩,
  ⟨false, false, [false, false, false, false, false, false, false, false, false, false, false, false, false, false, false, false, false, false, false, false, false, false, false], [false, false, false, false, false, false, false, false, false, false, false, false, false, false, false, false, false, false, false, false, false, false, false]⟩,
  ⟨false, false, [false, false, false, false, false, false, false, false, false, false, false, false, false, false, false, false, false, false, false, false, false, false, false], [false, false, false, false, false, false, false, false, false, false, false, false, false, false, false, false, false, false, false, false, false, false, false]⟩,
  ⟨false, false, [false, false, false, false, false, false, false, false, false, false, false, false, false, false, false, false, false, false, false, false, false, false, false], [false, false, false, false, false, false, false, false, false, false, false, false, false, false, false, false, false, false, false, false, false, false, false]⟩,
  ⟨false, false, [false, false, false, false, false, false, false, false, false, false, false, false, false, false, false, false, false, false, false, false, false, false, false], [false, false, false, false, false, false, false, false, false, false, false, false, false, false, false, false, false, false, false, false, false, false, false]⟩,
  ⟨false, false, [false, false, false, false, false, false, false, false, false, false, false, false, false, false, false, false, false, false, false, false, false, false, false], [false, false, false, false, false, false, false, false, false, false, false, false, false, false, false, false, false, false, false, false, false, false, false]⟩,
  ⟨false, false, [false, false, false, false, false, false, false, false, false, false, false, false, false, false, false, false, false, false, false, false, false, false, false], [false, false, false, false, false, false, false, false, false, false, false, false, false, false, false, false, false, false, false, false, false, false, false]⟩,
  ⟨false, false, [false, false, false, false, false, false, false, false, false, false, false, false, false, false, false, false, false, false, false, false, false, false, false], [false, false, false, false, false, false, false, false, false, false, false, false, false, false, false, false, false, false, false, false, false, false, false]⟩,
  ⟨false, false, [false, false, false, false, false, false, false, false, false, false, false, false, false, false, false, false, false, false, false, false, false, false, false], [false, false, false, false, false, false, false, false, false, false, false, false, false, false, false, false, false, false, false, false, false, false, false]⟩,
  ⟨false, false, [false, false, false, false, false, false, false, false, false, false, false, false, false, false, false, false, false, false, false, false, false, false, false], [false, false, false, false, false, false, false, false, false, false, false, false, false, false, false, false, false, false, false, false, false, false, false]⟩,
  ⟨false, false, [false, false, false, false, false, false, false, false, false, false, false, false, false, false, false, false, false, false, false, false, false, false, false], [false, false, false, false, false, false, false, false, false, false, false, false, false, false, false, false, false, false, false, false, false, false, false]⟩,
  ⟨false, false, [false, false, false, false, false, false, false, false, false, false, false, false, false, false, false, false, false, false, false, false, false, false, false], [false, false, false, false, false, false, false, false, false, false, false, false, false, false, false, false, false, false, false, false, false, false, false]⟩,
  ⟨false, false, [false, false, false, false, false, false, false, false, false, false, false, false, false, false, false, false, false, false, false, false, false, false, false], [false, false, false, false, false, false, false, false, false, false, false, false, false, false, false, false, false, false, false, false, false, false, false]⟩,
  ⟨false, false, [false, false, false, false, false, false, false, false, false, false, false, false, false, false, false, false, false, false, false, false, false, false, false], [false, false, false, false, false, false, false, false, false, false, false, false, false, false, false, false, false, false, false, false, false, false, false]⟩,
  ⟨false, false, [false, false, false, false, false, false, false, false, false, false, false, false, false, false, false, false, false, false, false, false, false, false, false], [false, false, false, false, false, false, false, false, false, false, false, false, false, false, false, false, false, false, false, false, false, false, false]⟩,
  ⟨false, false, [false, false, false, false, false, false, false, false, false, false, false, false, false, false, false, false, false, false, false, false, false, false, false], [false, false, false, false, false, false, false, false, false, false, false, false, false, false, false, false, false, false, false, false, false, false, false]⟩,
  ⟨false, false, [false, false, false, false, false, false, false, false, false, false, false, false, false, false, false, false, false, false, false, false, false, false, false], [false, false, false, false, false, false, false, false, false, false, false, false, false, false, false, false, false, false, false, false, false, false, false]⟩,
  ⟨true, false, [false, false, false, false, false, false, false, false, false, false, false, false, false, false, false, false, false, false, false, false, false, false, false], [false, false, false, false, false, false, false, false, false, false, false, false, false, false, false, false, false, false, true, false, false, false, false]⟩,
  ⟨false, true, [false, false, false, false, false, false, false, false, false, false, false, false, false, false, false, false, false, false, false, false, false, false, false], [false, false, false, false, false, false, false, false, false, false, false, false, false, false, false, false, false, false, true, false, false, false, false]⟩,
  ⟨false, false, [false, false, false, false, false, false, false, false, false, false, false, false, false, false, false, false, false, false, true, false, false, false, false], [false, false, false, false, false, false, false, false, false, false, false, false, false, false, false, false, false, false, true, false, false, false, false]⟩,
  ⟨false, true, [false, false, false, false, false, false, false, false, false, false, false, false, false, false, false, false, false, false, false, false, false, false, false], [false, false, false, false, false, false, false, false, false, false, false, false, false, false, false, false, false, false, true, false, false, false, false]⟩,
  ⟨true, false, [false, false, false, false, false, false, false, false, false, false, false, false, false, false, false, false, false, false, true, false, false, false, false], [false, false, false, false, false, false, false, false, false, false, false, false, false, false, false, false, false, false, true, false, false, false, true]⟩]
  [false, false, false, false, false, false, false, false, false, false, false, false, false, false, false, false, false, false, false, false, false, true, false])
 (.seq (.seq (.ops [⟨(some 54), .fldA 1 (.tmp 9), none⟩,
  ⟨(some 55), .load1 (.tmp 54), none⟩,
  ⟨(some 56), .ar .i64 .lss (.tmp 55) (.const (.int .i64 0)), none⟩])
 (.cond (.tmp 56) (.ops [⟨(some 57), .loadN 2 (.tmp 11), none⟩,
  ⟨none, .store 2 (.tmp 9) (.tmp 57), none⟩])
 .skip))
 (.ops [⟨(some 58), .loadN 2 (.tmp 9), none⟩,
  ⟨(some 59), .loadN 2 (.tmp 11), none⟩,
  ⟨(some 60), .call 87 [(.tmp 58), (.tmp 59), (.func 88)], none⟩,
  ⟨none, .store 2 (.tmp 9) (.tmp 60), none⟩])))))))
 (.ops [⟨(some 61), .fldA 0 (.tmp 8), none⟩,
  ⟨(some 62), .load1 (.tmp 61), none⟩,
  ⟨(some 63), .fldA 1 (.tmp 8), none⟩,
  ⟨(some 64), .load1 (.tmp 63), none⟩,
  ⟨(some 65), .loadN 2 (.tmp 9), none⟩,
  ⟨(some 66), .idxA 13 26 (.tmp 5) (.tmp 62), none⟩,
  ⟨(some 67), .idxA 13 2 (.tmp 66) (.tmp 64), none⟩,
  ⟨none, .store 2 (.tmp 67) (.tmp 65), none⟩]))))))
 (.ops [⟨(some 68), .ar .i64 .add (.tmp 21) (.const (.int .i64 1)), none⟩,
  ⟨(some 21), .mov (.tmp 68), none⟩]))))))))
 (.ops [⟨(some 15), .mov (.tmp 6), none⟩,
  ⟨(some 16), .ar .i64 .add (.tmp 15) (.const (.int .i64 1)), none⟩,
  ⟨(some 6), .mov (.tmp 16), none⟩]))))))
 (.seq (.ops [⟨(some 69), .loadN 338 (.tmp 5), none⟩,
  ⟨none, .store 338 (.tmp 4) (.tmp 69), none⟩])
 .ret))))
theorem enter80 {xs : List Value} {h : Hp} {Q : Value → Hp → Prop} (hl : xs.length ≤ 70) (w : wq E 70 none c80 (frameOf xs) h [] (leaveQ E [.cell 4 88] Q)) : CallP E 80 xs h Q :=
  CallP.enterQ (fn := Try.f80) (fn_get Try.func80) (code := Try.f80.body.get rfl) rfl rfl rfl (by kernel_rfl) rfl (fun _ => rfl) hl w
theorem can80 : callable E 80 = true := callable_get Try.func80 rfl rfl

/-- tosher/search.worst$1 -/
def c81 : C := (.seq (.ops [⟨(some 5), .box 115 (.tmp 0), none⟩,
  ⟨(some 9), .mov (.const (.int .i64 0)), none⟩])
 (.seq (.ops [⟨(some 10), .load1 (.tmp 4), none⟩,
  ⟨(some 11), .mov (.tmp 1), none⟩,
  ⟨(some 12), .idxS 1 (.tmp 10) (.tmp 11), none⟩,
  ⟨(some 13), .load1 (.tmp 12), none⟩,
  ⟨(some 14), .mov (.tmp 2), none⟩,
  ⟨(some 15), .mov (.tmp 3), none⟩,
  ⟨(some 16), .raw (.call ⟨.builtin .max, ⟨[(.tmp 14), (.tmp 15)]⟩, ⟨[3, 3]⟩⟩) 3, none⟩,
  ⟨(some 17), .ar .i64 .add (.tmp 13) (.tmp 16), none⟩,
  ⟨(some 9), .mov (.tmp 17), none⟩])
 .ret))
theorem enter81 {xs : List Value} {h : Hp} {Q : Value → Hp → Prop} (hl : xs.length ≤ 18) (w : wq E 18 none c81 (frameOf xs) h [] (leaveQ E [.tmp 9] Q)) : CallP E 81 xs h Q :=
  CallP.enterQ (fn := Try.f81) (fn_get Try.func81) (code := Try.f81.body.get rfl) rfl rfl rfl (by kernel_rfl) rfl (fun _ => rfl) hl w
theorem can81 : callable E 81 = true := callable_get Try.func81 rfl rfl

/-- (tosher/search.table).plan$1 -/
def c82 : C := (.seq (.ops [⟨(some 4), .box 115 (.tmp 0), none⟩])
 (.seq (.seq (.ops [⟨(some 6), .loadN 2 (.tmp 4), none⟩,
  ⟨(some 7), .call 77 [(.tmp 6)], none⟩])
 (.cond (.tmp 7) .ret
 .skip))
 (.seq (.ops [⟨(some 8), .fldA 0 (.tmp 4), none⟩,
  ⟨(some 9), .load1 (.tmp 8), none⟩,
  ⟨(some 10), .fldA 1 (.tmp 4), none⟩,
  ⟨(some 11), .load1 (.tmp 10), none⟩,
  ⟨(some 12), .idxA 13 26 (.tmp 1) (.tmp 9), none⟩,
  ⟨(some 13), .idxA 13 2 (.tmp 12) (.tmp 11), none⟩,
  ⟨(some 14), .fldA 1 (.tmp 13), none⟩,
  ⟨(some 15), .load1 (.tmp 14), none⟩,
  ⟨(some 5), .mov (.tmp 15), none⟩])
 (.seq (.ops [⟨(some 16), .load1 (.tmp 2), none⟩,
  ⟨(some 17), .mov (.tmp 5), none⟩,
  ⟨(some 18), .slit 3 1 [(.int .i64 0)] [(0, 1, (.tmp 17))], none⟩,
  ⟨(some 19), .append 3 1 8 (.tmp 16) (.tmp 18), none⟩,
  ⟨none, .store 1 (.tmp 2) (.tmp 19), none⟩])
 (.seq (.draw [⟨(some 20), .load1 (.tmp 3), none⟩,
  ⟨(some 21), .loadN 2 (.tmp 4), none⟩,
  ⟨(some 22), .mov (.tmp 5), none⟩,
  ⟨(some 23), .call 78 [(.tmp 21), (.tmp 22)], none⟩,
  ⟨(some 24), .callv (.tmp 20) [(.tmp 23)], none⟩]
  [⟨false, true, [false, false, false, false, false], [false, false, false, true, false]⟩,
  ⟨false, false, [false, false, false, false, false], [false, false, false, false, false]⟩,
  ⟨false, false, [false, false, false, false, false], [false, false, false, false, false]⟩,
  ⟨true, false, [false, false, false, false, false], [false, false, false, true, false]⟩,
  ⟨true, false, [false, false, false, true, false], [false, false, false, true, true]⟩])
 (.draw [⟨(some 25), .load1 (.tmp 3), none⟩,
  ⟨(some 26), .loadN 2 (.tmp 4), none⟩,
  ⟨(some 27), .mov (.tmp 5), none⟩,
  ⟨(some 28), .call 79 [(.tmp 26), (.tmp 27)], none⟩,
  ⟨(some 29), .callv (.tmp 25) [(.tmp 28)], none⟩]
  [⟨false, true, [false, false, false, false, false], [false, false, false, true, false]⟩,
  ⟨false, false, [false, false, false, false, false], [false, false, false, false, false]⟩,
  ⟨false, false, [false, false, false, false, false], [false, false, false, false, false]⟩,
  ⟨true, false, [false, false, false, false, false], [false, false, false, true, false]⟩,
  ⟨true, false, [false, false, false, true, false], [false, false, false, true, true]⟩]))))))
theorem enter82 {xs : List Value} {h : Hp} {Q : Value → Hp → Prop} (hl : xs.length ≤ 30) (w : wq E 30 none c82 (frameOf xs) h [] (leaveQ E [] Q)) : CallP E 82 xs h Q :=
  CallP.enterQ (fn := Try.f82) (fn_get Try.func82) (code := Try.f82.body.get rfl) rfl rfl rfl (by kernel_rfl) rfl (fun _ => rfl) hl w
theorem can82 : callable E 82 = true := callable_get Try.func82 rfl rfl

/-- tosher/search.weighed$1 -/
def c83 : C := (.seq (.ops [⟨(some 6), .box 115 (.tmp 0), none⟩,
  ⟨(some 10), .mov (.const (.int .i64 0)), none⟩])
 (.seq (.draw [⟨(some 11), .load1 (.tmp 4), none⟩,
  ⟨(some 12), .mov (.tmp 1), none⟩,
  ⟨(some 13), .idxS 1 (.tmp 11) (.tmp 12), none⟩,
  ⟨(some 14), .load1 (.tmp 13), none⟩,
  ⟨(some 15), .load1 (.tmp 5), none⟩,
  ⟨(some 16), .fldA 0 (.tmp 6), none⟩,
  ⟨(some 17), .load1 (.tmp 16), none⟩,
  ⟨(some 18), .fldA 1 (.tmp 6), none⟩,
  ⟨(some 19), .load1 (.tmp 18), none⟩,
  ⟨(some 20), .ar .i64 .add (.tmp 19) (.const (.int .i64 1)), none⟩,
  ⟨(some 21), .cutS 1 (.tmp 15) (some (.tmp 17)) (some (.tmp 20)) none, none⟩,
  ⟨(some 22), .call 64 [(.tmp 21)], none⟩,
  ⟨(some 23), .ar .i64 .mul (.tmp 14) (.tmp 22), none⟩,
  ⟨(some 24), .mov (.tmp 2), none⟩,
  ⟨(some 25), .ar .i64 .add (.tmp 23) (.tmp 24), none⟩,
  ⟨(some 26), .mov (.tmp 3), none⟩,
  ⟨(some 27), .ar .i64 .add (.tmp 25) (.tmp 26), none⟩,
  ⟨(some 10), .mov (.tmp 27), none⟩]
  [⟨false, true, [false, false, false, false, false, false, false, false, false, false, false, false, false, false, false, false, false, false], [false, false, false, false, false, false, false, false, false, false, false, true, false, false, false, false, false, false]⟩,
  ⟨false, true, [false, false, false, false, false, false, false, false, false, false, false, false, false, false, false, false, false, false], [false, false, false, false, false, false, false, false, false, false, false, true, false, false, false, false, false, false]⟩,
  ⟨false, true, [false, false, false, false, false, false, false, false, false, false, false, false, false, false, false, false, false, false], [false, false, false, false, false, false, false, false, false, false, false, true, false, false, false, false, false, false]⟩,
  ⟨false, true, [false, false, false, false, false, false, false, false, false, false, false, false, false, false, false, false, false, false], [false, false, false, false, false, false, false, false, false, false, false, true, false, false, false, false, false, false]⟩,
  ⟨false, false, [false, false, false, false, false, false, false, false, false, false, false, false, false, false, false, false, false, false], [false, false, false, false, false, false, false, false, false, false, false, false, false, false, false, false, false, false]⟩,
  ⟨false, false, [false, false, false, false, false, false, false, false, false, false, false, false, false, false, false, false, false, false], [false, false, false, false, false, false, false, false, false, false, false, false, false, false, false, false, false, false]⟩,
  ⟨false, false, [false, false, false, false, false, false, false, false, false, false, false, false, false, false, false, false, false, false], [false, false, false, false, false, false, false, false, false, false, false, false, false, false, false, false, false, false]⟩,
  ⟨false, false, [false, false, false, false, false, false, false, false, false, false, false, false, false, false, false, false, false, false], [false, false, false, false, false, false, false, false, false, false, false, false, false, false, false, false, false, false]⟩,
  ⟨false, false, [false, false, false, false, false, false, false, false, false, false, false, false, false, false, false, false, false, false], [false, false, false, false, false, false, false, false, false, false, false, false, false, false, false, false, false, false]⟩,
  ⟨false, false, [false, false, false, false, false, false, false, false, false, false, false, false, false, false, false, false, false, false], [false, false, false, false, false, false, false, false, false, false, false, false, false, false, false, false, false, false]⟩,
  ⟨false, false, [false, false, false, false, false, false, false, false, false, false, false, false, false, false, false, false, false, false], [false, false, false, false, false, false, false, false, false, false, false, false, false, false, false, false, false, false]⟩,
  ⟨true, false, [false, false, false, false, false, false, false, false, false, false, false, false, false, false, false, false, false, false], [false, false, false, false, false, false, false, false, false, false, false, true, false, false, false, false, false, false]⟩,
  ⟨false, false, [false, false, false, false, false, false, false, false, false, false, false, true, false, false, false, false, false, false], [false, false, false, false, false, false, false, false, false, false, false, true, false, false, false, false, false, false]⟩,
  ⟨false, true, [false, false, false, false, false, false, false, false, false, false, false, false, false, false, false, false, false, false], [false, false, false, false, false, false, false, false, false, false, false, true, false, false, false, false, false, false]⟩,
  ⟨false, false, [false, false, false, false, false, false, false, false, false, false, false, true, false, false, false, false, false, false], [false, false, false, false, false, false, false, false, false, false, false, true, false, false, false, false, false, false]⟩,
  ⟨false, true, [false, false, false, false, false, false, false, false, false, false, false, false, false, false, false, false, false, false], [false, false, false, false, false, false, false, false, false, false, false, true, false, false, false, false, false, false]⟩,
  ⟨false, false, [false, false, false, false, false, false, false, false, false, false, false, true, false, false, false, false, false, false], [false, false, false, false, false, false, false, false, false, false, false, true, false, false, false, false, false, false]⟩,
  ⟨false, false, [false, false, false, false, false, false, false, false, false, false, false, true, false, false, false, false, false, false], [false, false, false, false, false, false, false, false, false, false, false, true, false, false, false, false, false, false]⟩])
 .ret))
theorem enter83 {xs : List Value} {h : Hp} {Q : Value → Hp → Prop} (hl : xs.length ≤ 28) (w : wq E 28 none c83 (frameOf xs) h [] (leaveQ E [.tmp 10] Q)) : CallP E 83 xs h Q :=
  CallP.enterQ (fn := Try.f83) (fn_get Try.func83) (code := Try.f83.body.get rfl) rfl rfl rfl (by kernel_rfl) rfl (fun _ => rfl) hl w
theorem can83 : callable E 83 = true := callable_get Try.func83 rfl rfl

/-- tosher/search.better[tosher/search.choice] -/
def c87 : C := (.seq (.ops [⟨(some 3), .box 85 (.tmp 0), none⟩,
  ⟨(some 4), .box 85 (.tmp 1), none⟩,
  ⟨(some 6), .alloc 85 [(.int .i64 0), (.int .i64 0)], none⟩])
 (.seq (.seq (.draw [⟨(some 7), .mov (.tmp 2), none⟩,
  ⟨(some 8), .loadN 2 (.tmp 4), none⟩,
  ⟨(some 9), .callv (.tmp 7) [(.tmp 8)], none⟩,
  ⟨(some 10), .mov (.tmp 2), none⟩,
  ⟨(some 11), .loadN 2 (.tmp 3), none⟩,
  ⟨(some 12), .callv (.tmp 10) [(.tmp 11)], none⟩,
  ⟨(some 13), .ar .i64 .lss (.tmp 9) (.tmp 12), none⟩]
  [⟨false, false, [false, false, false, false, false, false, false], [false, false, false, false, false, false, false]⟩,
  ⟨false, false, [false, false, false, false, false, false, false], [false, false, false, false, false, false, false]⟩,
  ⟨true, false, [false, false, false, false, false, false, false], [false, false, true, false, false, false, false]⟩,
  ⟨false, true, [false, false, false, false, false, false, false], [false, false, true, false, false, false, false]⟩,
  ⟨false, true, [false, false, false, false, false, false, false], [false, false, true, false, false, false, false]⟩,
  ⟨true, false, [false, false, true, false, false, false, false], [false, false, true, false, false, true, false]⟩,
  ⟨false, false, [false, false, true, false, false, true, false], [false, false, true, false, false, true, false]⟩])
 (.cond (.tmp 13) (.seq (.ops [⟨(some 14), .loadN 2 (.tmp 4), none⟩,
  ⟨none, .store 2 (.tmp 6) (.tmp 14), none⟩])
 .ret)
 .skip))
 (.seq (.ops [⟨(some 15), .loadN 2 (.tmp 3), none⟩,
  ⟨none, .store 2 (.tmp 6) (.tmp 15), none⟩])
 .ret)))
theorem enter87 {xs : List Value} {h : Hp} {Q : Value → Hp → Prop} (hl : xs.length ≤ 16) (w : wq E 16 none c87 (frameOf xs) h [] (leaveQ E [.cell 6 85] Q)) : CallP E 87 xs h Q :=
  CallP.enterQ (fn := Try.f87) (fn_get Try.func87) (code := Try.f87.body.get rfl) rfl rfl rfl (by kernel_rfl) rfl (fun _ => rfl) hl w
theorem can87 : callable E 87 = true := callable_get Try.func87 rfl rfl

/-- (tosher/search.choice).price -/
def c88 : C := (.seq (.ops [⟨(some 1), .box 85 (.tmp 0), none⟩,
  ⟨(some 2), .mov (.const (.int .i64 0)), none⟩])
 (.seq (.ops [⟨(some 3), .fldA 0 (.tmp 1), none⟩,
  ⟨(some 4), .load1 (.tmp 3), none⟩,
  ⟨(some 2), .mov (.tmp 4), none⟩])
 .ret))
theorem enter88 {xs : List Value} {h : Hp} {Q : Value → Hp → Prop} (hl : xs.length ≤ 5) (w : wq E 5 none c88 (frameOf xs) h [] (leaveQ E [.tmp 2] Q)) : CallP E 88 xs h Q :=
  CallP.enterQ (fn := Try.f88) (fn_get Try.func88) (code := Try.f88.body.get rfl) rfl rfl rfl (by kernel_rfl) rfl (fun _ => rfl) hl w
theorem can88 : callable E 88 = true := callable_get Try.func88 rfl rfl

/-- (tosher/search.part).gates -/
def c92 : C := (.seq (.ops [⟨(some 1), .box 115 (.tmp 0), none⟩,
  ⟨(some 2), .mov (.const .nilFunc), none⟩])
 (.seq (.ops [⟨(some 3), .func (.func 95) [] [(.tmp 1)], none⟩,
  ⟨(some 2), .mov (.tmp 3), none⟩])
 .ret))
theorem enter92 {xs : List Value} {h : Hp} {Q : Value → Hp → Prop} (hl : xs.length ≤ 4) (w : wq E 4 none c92 (frameOf xs) h [] (leaveQ E [.tmp 2] Q)) : CallP E 92 xs h Q :=
  CallP.enterQ (fn := Try.f92) (fn_get Try.func92) (code := Try.f92.body.get rfl) rfl rfl rfl (by kernel_rfl) rfl (fun _ => rfl) hl w
theorem can92 : callable E 92 = true := callable_get Try.func92 rfl rfl

/-- (tosher/search.part).gates$1 -/
def c95 : C := (.seq (.ops [⟨(some 4), .fldA 0 (.tmp 1), none⟩,
  ⟨(some 5), .load1 (.tmp 4), none⟩,
  ⟨(some 3), .mov (.tmp 5), none⟩])
 (.block 0 (.loop (.seq (.seq (.ops [⟨(some 6), .mov (.tmp 3), none⟩,
  ⟨(some 7), .fldA 1 (.tmp 1), none⟩,
  ⟨(some 8), .load1 (.tmp 7), none⟩,
  ⟨(some 9), .ar .i64 .lss (.tmp 6) (.tmp 8), none⟩])
 (.cond (.tmp 9) .skip
 (.exit 0)))
 (.seq (.block 1 (.seq (.ops [⟨(some 12), .mov (.tmp 0), none⟩,
  ⟨(some 13), .mov (.tmp 3), none⟩,
  ⟨(some 14), .callv (.tmp 12) [(.tmp 13)], none⟩,
  ⟨(some 15), .not (.tmp 14), none⟩])
 (.cond (.tmp 15) .ret
 .skip)))
 (.ops [⟨(some 10), .mov (.tmp 3), none⟩,
  ⟨(some 11), .ar .i64 .add (.tmp 10) (.const (.int .i64 1)), none⟩,
  ⟨(some 3), .mov (.tmp 11), none⟩]))))))
theorem enter95 {xs : List Value} {h : Hp} {Q : Value → Hp → Prop} (hl : xs.length ≤ 16) (w : wq E 16 none c95 (frameOf xs) h [] (leaveQ E [] Q)) : CallP E 95 xs h Q :=
  CallP.enterQ (fn := Try.f95) (fn_get Try.func95) (code := Try.f95.body.get rfl) rfl rfl rfl (by kernel_rfl) rfl (fun _ => rfl) hl w
theorem can95 : callable E 95 = true := callable_get Try.func95 rfl rfl
end
end Go.Proofs.Yticmdpcahpimhaa
