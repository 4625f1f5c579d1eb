/- The code of the functions that LLogs comes to. -/
import Derived.Test.YtlcnmneildefmaaTypesC
set_option maxRecDepth 100000
set_option linter.unusedSectionVars false
set_option linter.unusedVariables false
namespace Go.Proofs.Ytlcnmneildefmaa
open Go.Rx Go.RowKit
noncomputable section
variable [Unknowns]
/-- tosher/tosherlaw07.LogsChecks -/
def c3 : C := (.seq (.ops [⟨(some 6), .mov (.const (.bool false)), none⟩])
 (.seq (.ops [⟨(some 44), .mov (.tmp 0), none⟩,
  ⟨(some 45), .mov (.tmp 1), none⟩,
  ⟨(some 46), .call 16 [(.tmp 44), (.tmp 45)], none⟩,
  ⟨(some 7), .mov (.tmp 46), none⟩])
 (.seq (.seq (.ops [⟨(some 47), .mov (.tmp 0), none⟩,
  ⟨(some 48), .mov (.tmp 1), none⟩,
  ⟨(some 49), .call 17 [(.tmp 47), (.tmp 48)], none⟩,
  ⟨(some 50), .mov (.tmp 7), none⟩,
  ⟨(some 51), .ar .i64 .neq (.tmp 49) (.tmp 50), none⟩])
 (.cond (.tmp 51) (.seq (.ops [⟨(some 6), .mov (.const (.bool false)), none⟩])
 .ret)
 .skip))
 (.seq (.seq (.ops [⟨(some 52), .mov (.tmp 0), none⟩,
  ⟨(some 53), .call 18 [(.tmp 52)], none⟩,
  ⟨(some 54), .not (.tmp 53), none⟩])
 (.cond (.tmp 54) (.seq (.ops [⟨(some 56), .mov (.tmp 0), none⟩,
  ⟨(some 57), .call 19 [(.tmp 56)], none⟩,
  ⟨(some 55), .mov (.tmp 57), none⟩,
  ⟨(some 58), .ext (.tmp 55) 0, none⟩,
  ⟨(some 59), .ext (.tmp 55) 1, none⟩,
  ⟨(some 8), .mov (.tmp 58), none⟩,
  ⟨(some 9), .mov (.tmp 59), none⟩])
 (.seq (.ops [⟨(some 61), .mov (.tmp 0), none⟩,
  ⟨(some 62), .call 20 [(.tmp 61)], none⟩,
  ⟨(some 60), .mov (.tmp 62), none⟩,
  ⟨(some 63), .ext (.tmp 60) 0, none⟩,
  ⟨(some 64), .ext (.tmp 60) 1, none⟩,
  ⟨(some 10), .mov (.tmp 63), none⟩,
  ⟨(some 11), .mov (.tmp 64), none⟩])
 (.seq (.ops [⟨(some 66), .mov (.tmp 0), none⟩,
  ⟨(some 67), .call 21 [(.tmp 66)], none⟩,
  ⟨(some 65), .mov (.tmp 67), none⟩,
  ⟨(some 68), .ext (.tmp 65) 0, none⟩,
  ⟨(some 69), .ext (.tmp 65) 1, none⟩,
  ⟨(some 12), .mov (.tmp 68), none⟩,
  ⟨(some 13), .mov (.tmp 69), none⟩])
 (.seq (.ops [⟨(some 71), .mov (.tmp 0), none⟩,
  ⟨(some 72), .call 22 [(.tmp 71)], none⟩,
  ⟨(some 70), .mov (.tmp 72), none⟩,
  ⟨(some 73), .ext (.tmp 70) 0, none⟩,
  ⟨(some 74), .ext (.tmp 70) 1, none⟩,
  ⟨(some 14), .mov (.tmp 73), none⟩,
  ⟨(some 15), .mov (.tmp 74), none⟩])
 (.seq (.ops [⟨(some 76), .mov (.tmp 0), none⟩,
  ⟨(some 77), .call 23 [(.tmp 76)], none⟩,
  ⟨(some 75), .mov (.tmp 77), none⟩,
  ⟨(some 78), .ext (.tmp 75) 0, none⟩,
  ⟨(some 79), .ext (.tmp 75) 1, none⟩,
  ⟨(some 16), .mov (.tmp 78), none⟩,
  ⟨(some 17), .mov (.tmp 79), none⟩])
 (.seq (.ops [⟨(some 81), .mov (.tmp 0), none⟩,
  ⟨(some 82), .call 24 [(.tmp 81)], none⟩,
  ⟨(some 80), .mov (.tmp 82), none⟩,
  ⟨(some 83), .ext (.tmp 80) 0, none⟩,
  ⟨(some 84), .ext (.tmp 80) 1, none⟩,
  ⟨(some 18), .mov (.tmp 83), none⟩,
  ⟨(some 19), .mov (.tmp 84), none⟩])
 (.seq (.ops [⟨(some 86), .mov (.tmp 0), none⟩,
  ⟨(some 87), .call 25 [(.tmp 86), (.const (.int .i64 0))], none⟩,
  ⟨(some 85), .mov (.tmp 87), none⟩,
  ⟨(some 88), .ext (.tmp 85) 0, none⟩,
  ⟨(some 89), .ext (.tmp 85) 1, none⟩,
  ⟨(some 20), .mov (.tmp 88), none⟩,
  ⟨(some 21), .mov (.tmp 89), none⟩])
 (.seq (.ops [⟨(some 91), .mov (.tmp 0), none⟩,
  ⟨(some 92), .call 26 [(.tmp 91)], none⟩,
  ⟨(some 90), .mov (.tmp 92), none⟩,
  ⟨(some 93), .ext (.tmp 90) 0, none⟩,
  ⟨(some 94), .ext (.tmp 90) 1, none⟩,
  ⟨(some 22), .mov (.tmp 93), none⟩,
  ⟨(some 23), .mov (.tmp 94), none⟩])
 (.seq (.ops [⟨(some 96), .mov (.tmp 0), none⟩,
  ⟨(some 97), .call 27 [(.tmp 96)], none⟩,
  ⟨(some 95), .mov (.tmp 97), none⟩,
  ⟨(some 98), .ext (.tmp 95) 0, none⟩,
  ⟨(some 99), .ext (.tmp 95) 1, none⟩,
  ⟨(some 100), .ext (.tmp 95) 2, none⟩,
  ⟨(some 24), .mov (.tmp 98), none⟩,
  ⟨(some 25), .mov (.tmp 99), none⟩,
  ⟨(some 26), .mov (.tmp 100), none⟩])
 (.seq (.ops [⟨(some 101), .mov (.tmp 9), none⟩,
  ⟨(some 102), .mov (.tmp 7), none⟩,
  ⟨(some 103), .ar .i64 .neq (.tmp 101) (.tmp 102), none⟩,
  ⟨(some 104), .mov (.tmp 103), none⟩,
  ⟨(some 105), .mov (.tmp 11), (some (104, false))⟩,
  ⟨(some 106), .mov (.tmp 7), (some (104, false))⟩,
  ⟨(some 107), .ar .i64 .neq (.tmp 105) (.tmp 106), (some (104, false))⟩,
  ⟨(some 108), .pick (.tmp 104) (.const (.bool true)) (.tmp 107), none⟩,
  ⟨(some 109), .mov (.tmp 108), none⟩,
  ⟨(some 110), .mov (.tmp 13), (some (109, false))⟩,
  ⟨(some 111), .mov (.tmp 7), (some (109, false))⟩,
  ⟨(some 112), .ar .i64 .neq (.tmp 110) (.tmp 111), (some (109, false))⟩,
  ⟨(some 113), .pick (.tmp 109) (.const (.bool true)) (.tmp 112), none⟩,
  ⟨(some 114), .mov (.tmp 113), none⟩,
  ⟨(some 115), .mov (.tmp 15), (some (114, false))⟩,
  ⟨(some 116), .mov (.tmp 7), (some (114, false))⟩,
  ⟨(some 117), .ar .i64 .neq (.tmp 115) (.tmp 116), (some (114, false))⟩,
  ⟨(some 118), .pick (.tmp 114) (.const (.bool true)) (.tmp 117), none⟩,
  ⟨(some 119), .mov (.tmp 118), none⟩,
  ⟨(some 120), .mov (.tmp 17), (some (119, false))⟩,
  ⟨(some 121), .mov (.tmp 7), (some (119, false))⟩,
  ⟨(some 122), .ar .i64 .neq (.tmp 120) (.tmp 121), (some (119, false))⟩,
  ⟨(some 123), .pick (.tmp 119) (.const (.bool true)) (.tmp 122), none⟩,
  ⟨(some 124), .mov (.tmp 123), none⟩,
  ⟨(some 125), .mov (.tmp 19), (some (124, false))⟩,
  ⟨(some 126), .mov (.tmp 7), (some (124, false))⟩,
  ⟨(some 127), .ar .i64 .neq (.tmp 125) (.tmp 126), (some (124, false))⟩,
  ⟨(some 128), .pick (.tmp 124) (.const (.bool true)) (.tmp 127), none⟩,
  ⟨(some 129), .mov (.tmp 128), none⟩,
  ⟨(some 130), .mov (.tmp 21), (some (129, false))⟩,
  ⟨(some 131), .mov (.tmp 7), (some (129, false))⟩,
  ⟨(some 132), .ar .i64 .neq (.tmp 130) (.tmp 131), (some (129, false))⟩,
  ⟨(some 133), .pick (.tmp 129) (.const (.bool true)) (.tmp 132), none⟩,
  ⟨(some 134), .mov (.tmp 133), none⟩,
  ⟨(some 135), .mov (.tmp 23), (some (134, false))⟩,
  ⟨(some 136), .mov (.tmp 7), (some (134, false))⟩,
  ⟨(some 137), .ar .i64 .neq (.tmp 135) (.tmp 136), (some (134, false))⟩,
  ⟨(some 138), .pick (.tmp 134) (.const (.bool true)) (.tmp 137), none⟩,
  ⟨(some 139), .mov (.tmp 138), none⟩,
  ⟨(some 140), .mov (.tmp 26), (some (139, false))⟩,
  ⟨(some 141), .mov (.tmp 7), (some (139, false))⟩,
  ⟨(some 142), .ar .i64 .neq (.tmp 140) (.tmp 141), (some (139, false))⟩,
  ⟨(some 143), .pick (.tmp 139) (.const (.bool true)) (.tmp 142), none⟩,
  ⟨(some 144), .mov (.tmp 143), none⟩,
  ⟨(some 145), .mov (.tmp 25), (some (144, false))⟩,
  ⟨(some 146), .pick (.tmp 144) (.const (.bool true)) (.tmp 145), none⟩,
  ⟨(some 147), .mov (.tmp 146), none⟩,
  ⟨(some 148), .mov (.tmp 8), (some (147, false))⟩,
  ⟨(some 149), .mov (.tmp 10), (some (147, false))⟩,
  ⟨(some 150), .ar .i64 .add (.tmp 148) (.tmp 149), (some (147, false))⟩,
  ⟨(some 151), .mov (.tmp 12), (some (147, false))⟩,
  ⟨(some 152), .ar .i64 .add (.tmp 150) (.tmp 151), (some (147, false))⟩,
  ⟨(some 153), .mov (.tmp 14), (some (147, false))⟩,
  ⟨(some 154), .ar .i64 .add (.tmp 152) (.tmp 153), (some (147, false))⟩,
  ⟨(some 155), .mov (.tmp 16), (some (147, false))⟩,
  ⟨(some 156), .lenS (.tmp 155), (some (147, false))⟩,
  ⟨(some 157), .ar .i64 .add (.tmp 154) (.tmp 156), (some (147, false))⟩,
  ⟨(some 158), .mov (.tmp 18), (some (147, false))⟩,
  ⟨(some 159), .lenS (.tmp 158), (some (147, false))⟩,
  ⟨(some 160), .ar .i64 .add (.tmp 157) (.tmp 159), (some (147, false))⟩,
  ⟨(some 161), .mov (.tmp 20), (some (147, false))⟩,
  ⟨(some 162), .ar .i64 .add (.tmp 160) (.tmp 161), (some (147, false))⟩,
  ⟨(some 163), .mov (.tmp 22), (some (147, false))⟩,
  ⟨(some 164), .lenS (.tmp 163), (some (147, false))⟩,
  ⟨(some 165), .ar .i64 .add (.tmp 162) (.tmp 164), (some (147, false))⟩,
  ⟨(some 166), .mov (.tmp 24), (some (147, false))⟩,
  ⟨(some 167), .ar .i64 .add (.tmp 165) (.tmp 166), (some (147, false))⟩,
  ⟨(some 168), .ar .i64 .neq (.tmp 167) (.const (.int .i64 0)), (some (147, false))⟩,
  ⟨(some 169), .pick (.tmp 147) (.const (.bool true)) (.tmp 168), none⟩])
 (.cond (.tmp 169) (.seq (.ops [⟨(some 6), .mov (.const (.bool false)), none⟩])
 .ret)
 .skip)))))))))))
 .skip))
 (.seq (.seq (.ops [⟨(some 170), .mov (.tmp 7), none⟩,
  ⟨(some 171), .ar .i64 .eql (.tmp 170) (.const (.int .i64 0)), none⟩])
 (.cond (.tmp 171) (.seq (.ops [⟨(some 172), .call 28 [], none⟩,
  ⟨(some 6), .mov (.tmp 172), none⟩])
 .ret)
 .skip))
 (.seq (.ops [⟨(some 174), .mov (.tmp 0), none⟩,
  ⟨(some 175), .mov (.tmp 1), none⟩,
  ⟨(some 176), .call 29 [(.tmp 174), (.tmp 175)], none⟩,
  ⟨(some 173), .mov (.tmp 176), none⟩,
  ⟨(some 177), .ext (.tmp 173) 0, none⟩,
  ⟨(some 178), .ext (.tmp 173) 1, none⟩,
  ⟨(some 27), .mov (.tmp 177), none⟩,
  ⟨(some 28), .mov (.tmp 178), none⟩])
 (.seq (.ops [⟨(some 180), .mov (.tmp 0), none⟩,
  ⟨(some 181), .mov (.tmp 1), none⟩,
  ⟨(some 182), .mov (.tmp 1), none⟩,
  ⟨(some 183), .call 30 [(.tmp 180), (.tmp 181), (.tmp 182)], none⟩,
  ⟨(some 179), .mov (.tmp 183), none⟩,
  ⟨(some 184), .ext (.tmp 179) 0, none⟩,
  ⟨(some 185), .ext (.tmp 179) 1, none⟩,
  ⟨(some 186), .ext (.tmp 179) 2, none⟩,
  ⟨(some 29), .mov (.tmp 184), none⟩,
  ⟨(some 30), .mov (.tmp 185), none⟩,
  ⟨(some 31), .mov (.tmp 186), none⟩])
 (.seq (.ops [⟨(some 188), .mov (.tmp 0), none⟩,
  ⟨(some 189), .mov (.tmp 1), none⟩,
  ⟨(some 190), .call 31 [(.tmp 188), (.tmp 189), (.const (.int .i64 (-1)))], none⟩,
  ⟨(some 187), .mov (.tmp 190), none⟩,
  ⟨(some 191), .ext (.tmp 187) 0, none⟩,
  ⟨(some 192), .ext (.tmp 187) 1, none⟩,
  ⟨(some 32), .mov (.tmp 191), none⟩,
  ⟨(some 33), .mov (.tmp 192), none⟩])
 (.seq (.ops [⟨(some 194), .mov (.tmp 0), none⟩,
  ⟨(some 195), .mov (.tmp 1), none⟩,
  ⟨(some 196), .call 32 [(.tmp 194), (.tmp 195)], none⟩,
  ⟨(some 193), .mov (.tmp 196), none⟩,
  ⟨(some 197), .ext (.tmp 193) 0, none⟩,
  ⟨(some 198), .ext (.tmp 193) 1, none⟩,
  ⟨(some 34), .mov (.tmp 197), none⟩,
  ⟨(some 35), .mov (.tmp 198), none⟩])
 (.seq (.ops [⟨(some 200), .mov (.tmp 0), none⟩,
  ⟨(some 201), .mov (.tmp 1), none⟩,
  ⟨(some 202), .call 33 [(.tmp 200), (.tmp 201), (.const (.int .i64 0))], none⟩,
  ⟨(some 199), .mov (.tmp 202), none⟩,
  ⟨(some 203), .ext (.tmp 199) 0, none⟩,
  ⟨(some 204), .ext (.tmp 199) 1, none⟩,
  ⟨(some 36), .mov (.tmp 203), none⟩,
  ⟨(some 37), .mov (.tmp 204), none⟩])
 (.seq (.ops [⟨(some 206), .mov (.tmp 0), none⟩,
  ⟨(some 207), .mov (.tmp 1), none⟩,
  ⟨(some 208), .call 34 [(.tmp 206), (.tmp 207), (.const (.int .i64 0))], none⟩,
  ⟨(some 205), .mov (.tmp 208), none⟩,
  ⟨(some 209), .ext (.tmp 205) 0, none⟩,
  ⟨(some 210), .ext (.tmp 205) 1, none⟩,
  ⟨(some 211), .ext (.tmp 205) 2, none⟩,
  ⟨(some 38), .mov (.tmp 209), none⟩,
  ⟨(some 39), .mov (.tmp 210), none⟩,
  ⟨(some 40), .mov (.tmp 211), none⟩])
 (.seq (.seq (.ops [⟨(some 212), .mov (.tmp 28), none⟩,
  ⟨(some 213), .mov (.tmp 7), none⟩,
  ⟨(some 214), .ar .i64 .neq (.tmp 212) (.tmp 213), none⟩,
  ⟨(some 215), .mov (.tmp 214), none⟩,
  ⟨(some 216), .mov (.tmp 31), (some (215, false))⟩,
  ⟨(some 217), .mov (.tmp 7), (some (215, false))⟩,
  ⟨(some 218), .ar .i64 .neq (.tmp 216) (.tmp 217), (some (215, false))⟩,
  ⟨(some 219), .pick (.tmp 215) (.const (.bool true)) (.tmp 218), none⟩,
  ⟨(some 220), .mov (.tmp 219), none⟩,
  ⟨(some 221), .mov (.tmp 33), (some (220, false))⟩,
  ⟨(some 222), .mov (.tmp 7), (some (220, false))⟩,
  ⟨(some 223), .ar .i64 .neq (.tmp 221) (.tmp 222), (some (220, false))⟩,
  ⟨(some 224), .pick (.tmp 220) (.const (.bool true)) (.tmp 223), none⟩,
  ⟨(some 225), .mov (.tmp 224), none⟩,
  ⟨(some 226), .mov (.tmp 35), (some (225, false))⟩,
  ⟨(some 227), .mov (.tmp 7), (some (225, false))⟩,
  ⟨(some 228), .ar .i64 .neq (.tmp 226) (.tmp 227), (some (225, false))⟩,
  ⟨(some 229), .pick (.tmp 225) (.const (.bool true)) (.tmp 228), none⟩,
  ⟨(some 230), .mov (.tmp 229), none⟩,
  ⟨(some 231), .mov (.tmp 37), (some (230, false))⟩,
  ⟨(some 232), .mov (.tmp 7), (some (230, false))⟩,
  ⟨(some 233), .ar .i64 .neq (.tmp 231) (.tmp 232), (some (230, false))⟩,
  ⟨(some 234), .pick (.tmp 230) (.const (.bool true)) (.tmp 233), none⟩,
  ⟨(some 235), .mov (.tmp 234), none⟩,
  ⟨(some 236), .mov (.tmp 40), (some (235, false))⟩,
  ⟨(some 237), .mov (.tmp 7), (some (235, false))⟩,
  ⟨(some 238), .ar .i64 .neq (.tmp 236) (.tmp 237), (some (235, false))⟩,
  ⟨(some 239), .pick (.tmp 235) (.const (.bool true)) (.tmp 238), none⟩,
  ⟨(some 240), .mov (.tmp 239), none⟩,
  ⟨(some 241), .mov (.tmp 30), (some (240, false))⟩,
  ⟨(some 242), .pick (.tmp 240) (.const (.bool true)) (.tmp 241), none⟩,
  ⟨(some 243), .mov (.tmp 242), none⟩,
  ⟨(some 244), .mov (.tmp 39), (some (243, false))⟩,
  ⟨(some 245), .pick (.tmp 243) (.const (.bool true)) (.tmp 244), none⟩,
  ⟨(some 246), .mov (.tmp 245), none⟩,
  ⟨(some 247), .mov (.tmp 27), (some (246, false))⟩,
  ⟨(some 248), .mov (.tmp 29), (some (246, false))⟩,
  ⟨(some 249), .ar .i64 .add (.tmp 247) (.tmp 248), (some (246, false))⟩,
  ⟨(some 250), .mov (.tmp 32), (some (246, false))⟩,
  ⟨(some 251), .ar .i64 .add (.tmp 249) (.tmp 250), (some (246, false))⟩,
  ⟨(some 252), .mov (.tmp 34), (some (246, false))⟩,
  ⟨(some 253), .ar .i64 .add (.tmp 251) (.tmp 252), (some (246, false))⟩,
  ⟨(some 254), .mov (.tmp 36), (some (246, false))⟩,
  ⟨(some 255), .ar .i64 .add (.tmp 253) (.tmp 254), (some (246, false))⟩,
  ⟨(some 256), .mov (.tmp 38), (some (246, false))⟩,
  ⟨(some 257), .ar .i64 .add (.tmp 255) (.tmp 256), (some (246, false))⟩,
  ⟨(some 258), .ar .i64 .neq (.tmp 257) (.const (.int .i64 0)), (some (246, false))⟩,
  ⟨(some 259), .pick (.tmp 246) (.const (.bool true)) (.tmp 258), none⟩])
 (.cond (.tmp 259) (.seq (.ops [⟨(some 6), .mov (.const (.bool false)), none⟩])
 .ret)
 .skip))
 (.seq (.seq (.ops [⟨(some 260), .mov (.tmp 0), none⟩,
  ⟨(some 261), .call 18 [(.tmp 260)], none⟩,
  ⟨(some 262), .not (.tmp 261), none⟩])
 (.cond (.tmp 262) (.seq (.ops [⟨(some 263), .call 28 [], none⟩,
  ⟨(some 6), .mov (.tmp 263), none⟩])
 .ret)
 .skip))
 (.seq (.ops [⟨(some 265), .mov (.tmp 0), none⟩,
  ⟨(some 266), .mov (.tmp 0), none⟩,
  ⟨(some 267), .mov (.tmp 2), none⟩,
  ⟨(some 268), .call 35 [(.tmp 266), (.tmp 267)], none⟩,
  ⟨(some 269), .mov (.tmp 1), none⟩,
  ⟨(some 270), .call 30 [(.tmp 265), (.tmp 268), (.tmp 269)], none⟩,
  ⟨(some 264), .mov (.tmp 270), none⟩,
  ⟨(some 271), .ext (.tmp 264) 0, none⟩,
  ⟨(some 272), .ext (.tmp 264) 1, none⟩,
  ⟨(some 273), .ext (.tmp 264) 2, none⟩,
  ⟨(some 41), .mov (.tmp 271), none⟩,
  ⟨(some 42), .mov (.tmp 272), none⟩,
  ⟨(some 43), .mov (.tmp 273), none⟩])
 (.seq (.ops [⟨(some 274), .mov (.tmp 43), none⟩,
  ⟨(some 275), .ar .i64 .eql (.tmp 274) (.const (.int .i64 70)), none⟩,
  ⟨(some 276), .mov (.tmp 275), none⟩,
  ⟨(some 277), .mov (.tmp 42), (some (276, true))⟩,
  ⟨(some 278), .not (.tmp 277), (some (276, true))⟩,
  ⟨(some 279), .pick (.tmp 276) (.tmp 278) (.const (.bool false)), none⟩,
  ⟨(some 280), .mov (.tmp 279), none⟩,
  ⟨(some 281), .mov (.tmp 41), (some (280, true))⟩,
  ⟨(some 282), .ar .i64 .eql (.tmp 281) (.const (.int .i64 0)), (some (280, true))⟩,
  ⟨(some 283), .pick (.tmp 280) (.tmp 282) (.const (.bool false)), none⟩,
  ⟨(some 284), .mov (.tmp 283), none⟩,
  ⟨(some 285), .call 28 [], (some (284, true))⟩,
  ⟨(some 286), .pick (.tmp 284) (.tmp 285) (.const (.bool false)), none⟩,
  ⟨(some 6), .mov (.tmp 286), none⟩])
 .ret)))))))))))))))
theorem enter3 {xs : List Value} {h : Hp} {Q : Value → Hp → Prop} (hl : xs.length ≤ 287) (w : wq E 287 none c3 (frameOf xs) h [] (leaveQ E [.tmp 6] Q)) : CallP E 3 xs h Q :=
  CallP.enterQ (fn := Try.f3) (fn_get Try.func3) (code := Try.f3.body.get rfl) rfl rfl rfl (by kernel_rfl) rfl (fun _ => rfl) hl w
theorem can3 : callable E 3 = true := callable_get Try.func3 rfl rfl

/-- tosher/tosherlaw07.LogsGroups -/
def c5 : C := (.seq (.ops [⟨(some 2), .mov (.const (.bool false)), none⟩])
 (.seq (.seq (.ops [⟨(some 3), .mov (.const (.int .i64 0)), none⟩])
 (.block 0 (.loop (.seq (.seq (.ops [⟨(some 22), .mov (.tmp 3), none⟩,
  ⟨(some 23), .ar .i64 .lss (.tmp 22) (.const (.int .i64 2)), none⟩])
 (.cond (.tmp 23) .skip
 (.exit 0)))
 (.seq (.block 1 (.seq (.ops [⟨(some 4), .mov (.const (.int .i64 1000000)), none⟩])
 (.seq (.seq (.ops [⟨(some 26), .mov (.tmp 3), none⟩,
  ⟨(some 27), .ar .i64 .eql (.tmp 26) (.const (.int .i64 1)), none⟩])
 (.cond (.tmp 27) (.ops [⟨(some 4), .mov (.const (.int .i64 400)), none⟩])
 .skip))
 (.seq (.ops [⟨(some 28), .mov (.tmp 0), none⟩,
  ⟨(some 29), .mov (.tmp 4), none⟩,
  ⟨(some 30), .call 36 [(.tmp 28), (.tmp 29)], none⟩,
  ⟨(some 5), .mov (.tmp 30), none⟩])
 (.seq (.ops [⟨(some 32), .mov (.tmp 5), none⟩,
  ⟨(some 33), .call 19 [(.tmp 32)], none⟩,
  ⟨(some 31), .mov (.tmp 33), none⟩,
  ⟨(some 34), .ext (.tmp 31) 0, none⟩,
  ⟨(some 35), .ext (.tmp 31) 1, none⟩,
  ⟨(some 6), .mov (.tmp 34), none⟩,
  ⟨(some 7), .mov (.tmp 35), none⟩])
 (.seq (.ops [⟨(some 37), .mov (.tmp 5), none⟩,
  ⟨(some 38), .call 20 [(.tmp 37)], none⟩,
  ⟨(some 36), .mov (.tmp 38), none⟩,
  ⟨(some 39), .ext (.tmp 36) 0, none⟩,
  ⟨(some 40), .ext (.tmp 36) 1, none⟩,
  ⟨(some 8), .mov (.tmp 39), none⟩,
  ⟨(some 9), .mov (.tmp 40), none⟩])
 (.seq (.ops [⟨(some 42), .mov (.tmp 5), none⟩,
  ⟨(some 43), .call 21 [(.tmp 42)], none⟩,
  ⟨(some 41), .mov (.tmp 43), none⟩,
  ⟨(some 44), .ext (.tmp 41) 0, none⟩,
  ⟨(some 45), .ext (.tmp 41) 1, none⟩,
  ⟨(some 10), .mov (.tmp 44), none⟩,
  ⟨(some 11), .mov (.tmp 45), none⟩])
 (.seq (.ops [⟨(some 47), .mov (.tmp 5), none⟩,
  ⟨(some 48), .call 22 [(.tmp 47)], none⟩,
  ⟨(some 46), .mov (.tmp 48), none⟩,
  ⟨(some 49), .ext (.tmp 46) 0, none⟩,
  ⟨(some 50), .ext (.tmp 46) 1, none⟩,
  ⟨(some 12), .mov (.tmp 49), none⟩,
  ⟨(some 13), .mov (.tmp 50), none⟩])
 (.seq (.ops [⟨(some 52), .mov (.tmp 5), none⟩,
  ⟨(some 53), .call 23 [(.tmp 52)], none⟩,
  ⟨(some 51), .mov (.tmp 53), none⟩,
  ⟨(some 54), .ext (.tmp 51) 0, none⟩,
  ⟨(some 55), .ext (.tmp 51) 1, none⟩,
  ⟨(some 14), .mov (.tmp 54), none⟩,
  ⟨(some 15), .mov (.tmp 55), none⟩])
 (.seq (.ops [⟨(some 57), .mov (.tmp 5), none⟩,
  ⟨(some 58), .call 26 [(.tmp 57)], none⟩,
  ⟨(some 56), .mov (.tmp 58), none⟩,
  ⟨(some 59), .ext (.tmp 56) 0, none⟩,
  ⟨(some 60), .ext (.tmp 56) 1, none⟩,
  ⟨(some 16), .mov (.tmp 59), none⟩,
  ⟨(some 17), .mov (.tmp 60), none⟩])
 (.seq (.ops [⟨(some 61), .mov (.tmp 5), none⟩,
  ⟨(some 62), .call 39 [(.tmp 61)], none⟩,
  ⟨(some 18), .mov (.tmp 62), none⟩])
 (.seq (.seq (.ops [⟨(some 63), .mov (.tmp 7), none⟩,
  ⟨(some 64), .ar .i64 .neq (.tmp 63) (.const (.int .i64 0)), none⟩,
  ⟨(some 65), .mov (.tmp 64), none⟩,
  ⟨(some 66), .mov (.tmp 6), (some (65, false))⟩,
  ⟨(some 67), .mov (.tmp 18), (some (65, false))⟩,
  ⟨(some 68), .ar .i64 .neq (.tmp 66) (.tmp 67), (some (65, false))⟩,
  ⟨(some 69), .pick (.tmp 65) (.const (.bool true)) (.tmp 68), none⟩,
  ⟨(some 70), .mov (.tmp 69), none⟩,
  ⟨(some 71), .mov (.tmp 9), (some (70, false))⟩,
  ⟨(some 72), .ar .i64 .neq (.tmp 71) (.const (.int .i64 0)), (some (70, false))⟩,
  ⟨(some 73), .pick (.tmp 70) (.const (.bool true)) (.tmp 72), none⟩,
  ⟨(some 74), .mov (.tmp 73), none⟩,
  ⟨(some 75), .mov (.tmp 8), (some (74, false))⟩,
  ⟨(some 76), .mov (.tmp 5), (some (74, false))⟩,
  ⟨(some 77), .call 40 [(.tmp 76)], (some (74, false))⟩,
  ⟨(some 78), .ar .i64 .neq (.tmp 75) (.tmp 77), (some (74, false))⟩,
  ⟨(some 79), .pick (.tmp 74) (.const (.bool true)) (.tmp 78), none⟩,
  ⟨(some 80), .mov (.tmp 79), none⟩,
  ⟨(some 81), .mov (.tmp 13), (some (80, false))⟩,
  ⟨(some 82), .ar .i64 .neq (.tmp 81) (.const (.int .i64 0)), (some (80, false))⟩,
  ⟨(some 83), .pick (.tmp 80) (.const (.bool true)) (.tmp 82), none⟩,
  ⟨(some 84), .mov (.tmp 83), none⟩,
  ⟨(some 85), .mov (.tmp 12), (some (84, false))⟩,
  ⟨(some 86), .mov (.tmp 5), (some (84, false))⟩,
  ⟨(some 87), .mov (.tmp 18), (some (84, false))⟩,
  ⟨(some 88), .call 41 [(.tmp 86), (.tmp 87)], (some (84, false))⟩,
  ⟨(some 89), .ar .i64 .neq (.tmp 85) (.tmp 88), (some (84, false))⟩,
  ⟨(some 90), .pick (.tmp 84) (.const (.bool true)) (.tmp 89), none⟩,
  ⟨(some 91), .mov (.tmp 90), none⟩,
  ⟨(some 92), .mov (.tmp 15), (some (91, false))⟩,
  ⟨(some 93), .ar .i64 .neq (.tmp 92) (.const (.int .i64 0)), (some (91, false))⟩,
  ⟨(some 94), .pick (.tmp 91) (.const (.bool true)) (.tmp 93), none⟩,
  ⟨(some 95), .mov (.tmp 94), none⟩,
  ⟨(some 96), .mov (.tmp 14), (some (95, false))⟩,
  ⟨(some 97), .mov (.tmp 5), (some (95, false))⟩,
  ⟨(some 98), .call 43 [(.tmp 97)], (some (95, false))⟩,
  ⟨(some 99), .call 42 [(.tmp 96), (.tmp 98)], (some (95, false))⟩,
  ⟨(some 100), .not (.tmp 99), (some (95, false))⟩,
  ⟨(some 101), .pick (.tmp 95) (.const (.bool true)) (.tmp 100), none⟩,
  ⟨(some 102), .mov (.tmp 101), none⟩,
  ⟨(some 103), .mov (.tmp 17), (some (102, false))⟩,
  ⟨(some 104), .ar .i64 .neq (.tmp 103) (.const (.int .i64 0)), (some (102, false))⟩,
  ⟨(some 105), .pick (.tmp 102) (.const (.bool true)) (.tmp 104), none⟩])
 (.cond (.tmp 105) (.seq (.ops [⟨(some 2), .mov (.const (.bool false)), none⟩])
 .ret)
 .skip))
 (.seq (.seq (.ops [⟨(some 106), .mov (.tmp 5), none⟩,
  ⟨(some 107), .call 44 [(.tmp 106)], none⟩,
  ⟨(some 19), .mov (.tmp 107), none⟩])
 (.seq (.ops [⟨(some 108), .mov (.tmp 19), none⟩,
  ⟨(some 109), .ar .i64 .lss (.tmp 108) (.const (.int .i64 0)), none⟩,
  ⟨(some 110), .mov (.tmp 109), none⟩,
  ⟨(some 111), .mov (.tmp 11), (some (110, true))⟩,
  ⟨(some 112), .ar .i64 .neq (.tmp 111) (.const (.int .i64 4)), (some (110, true))⟩,
  ⟨(some 113), .mov (.tmp 112), (some (110, true))⟩,
  ⟨(some 114), .mov (.tmp 10), (some (113, false))⟩,
  ⟨(some 115), .ar .i64 .neq (.tmp 114) (.const (.int .i64 0)), (some (113, false))⟩,
  ⟨(some 116), .pick (.tmp 113) (.const (.bool true)) (.tmp 115), (some (110, true))⟩,
  ⟨(some 117), .pick (.tmp 110) (.tmp 116) (.const (.bool false)), none⟩,
  ⟨(some 118), .mov (.tmp 117), none⟩,
  ⟨(some 119), .mov (.tmp 19), (some (118, false))⟩,
  ⟨(some 120), .ar .i64 .geq (.tmp 119) (.const (.int .i64 0)), (some (118, false))⟩,
  ⟨(some 121), .mov (.tmp 120), (some (118, false))⟩,
  ⟨(some 122), .mov (.tmp 11), (some (121, true))⟩,
  ⟨(some 123), .ar .i64 .neq (.tmp 122) (.const (.int .i64 0)), (some (121, true))⟩,
  ⟨(some 124), .mov (.tmp 123), (some (121, true))⟩,
  ⟨(some 125), .mov (.tmp 10), (some (124, false))⟩,
  ⟨(some 126), .mov (.tmp 19), (some (124, false))⟩,
  ⟨(some 127), .ar .i64 .neq (.tmp 125) (.tmp 126), (some (124, false))⟩,
  ⟨(some 128), .pick (.tmp 124) (.const (.bool true)) (.tmp 127), (some (121, true))⟩,
  ⟨(some 129), .pick (.tmp 121) (.tmp 128) (.const (.bool false)), (some (118, false))⟩,
  ⟨(some 130), .pick (.tmp 118) (.const (.bool true)) (.tmp 129), none⟩])
 (.cond (.tmp 130) (.seq (.ops [⟨(some 2), .mov (.const (.bool false)), none⟩])
 .ret)
 .skip)))
 (.seq (.ops [⟨(some 131), .mov (.tmp 5), none⟩,
  ⟨(some 132), .call 45 [(.tmp 131)], none⟩,
  ⟨(some 20), .mov (.tmp 132), none⟩])
 (.seq (.seq (.ops [⟨(some 133), .mov (.tmp 16), none⟩,
  ⟨(some 134), .lenS (.tmp 133), none⟩,
  ⟨(some 135), .mov (.tmp 20), none⟩,
  ⟨(some 136), .lenS (.tmp 135), none⟩,
  ⟨(some 137), .ar .i64 .neq (.tmp 134) (.tmp 136), none⟩])
 (.cond (.tmp 137) (.seq (.ops [⟨(some 2), .mov (.const (.bool false)), none⟩])
 .ret)
 .skip))
 (.seq (.ops [⟨(some 21), .mov (.const (.int .i64 0)), none⟩])
 (.block 2 (.loop (.seq (.seq (.ops [⟨(some 138), .mov (.tmp 21), none⟩,
  ⟨(some 139), .mov (.tmp 16), none⟩,
  ⟨(some 140), .lenS (.tmp 139), none⟩,
  ⟨(some 141), .ar .i64 .lss (.tmp 138) (.tmp 140), none⟩])
 (.cond (.tmp 141) .skip
 (.exit 2)))
 (.seq (.block 3 (.seq (.ops [⟨(some 144), .mov (.tmp 16), none⟩,
  ⟨(some 145), .mov (.tmp 21), none⟩,
  ⟨(some 146), .idxS 2 (.tmp 144) (.tmp 145), none⟩,
  ⟨(some 147), .loadN 2 (.tmp 146), none⟩,
  ⟨(some 148), .mov (.tmp 20), none⟩,
  ⟨(some 149), .mov (.tmp 21), none⟩,
  ⟨(some 150), .idxS 2 (.tmp 148) (.tmp 149), none⟩,
  ⟨(some 151), .loadN 2 (.tmp 150), none⟩,
  ⟨(some 152), .raw (.binOp .neq 47 (.tmp 147) (.tmp 151) 47) 4, none⟩])
 (.cond (.tmp 152) (.seq (.ops [⟨(some 2), .mov (.const (.bool false)), none⟩])
 .ret)
 .skip)))
 (.ops [⟨(some 142), .mov (.tmp 21), none⟩,
  ⟨(some 143), .ar .i64 .add (.tmp 142) (.const (.int .i64 1)), none⟩,
  ⟨(some 21), .mov (.tmp 143), none⟩])))))))))))))))))))))
 (.ops [⟨(some 24), .mov (.tmp 3), none⟩,
  ⟨(some 25), .ar .i64 .add (.tmp 24) (.const (.int .i64 1)), none⟩,
  ⟨(some 3), .mov (.tmp 25), none⟩]))))))
 (.seq (.ops [⟨(some 153), .call 28 [], none⟩,
  ⟨(some 2), .mov (.tmp 153), none⟩])
 .ret)))
theorem enter5 {xs : List Value} {h : Hp} {Q : Value → Hp → Prop} (hl : xs.length ≤ 154) (w : wq E 154 none c5 (frameOf xs) h [] (leaveQ E [.tmp 2] Q)) : CallP E 5 xs h Q :=
  CallP.enterQ (fn := Try.f5) (fn_get Try.func5) (code := Try.f5.body.get rfl) rfl rfl rfl (by kernel_rfl) rfl (fun _ => rfl) hl w
theorem can5 : callable E 5 = true := callable_get Try.func5 rfl rfl

/-- tosher/tosherlaw07.LogsLogs -/
def c6 : C := (.seq (.ops [⟨(some 6), .mov (.const (.bool false)), none⟩])
 (.seq (.seq (.ops [⟨(some 7), .mov (.const (.int .i64 0)), none⟩])
 (.block 0 (.loop (.seq (.seq (.ops [⟨(some 16), .mov (.tmp 7), none⟩,
  ⟨(some 17), .ar .i64 .lss (.tmp 16) (.const (.int .i64 2)), none⟩])
 (.cond (.tmp 17) .skip
 (.exit 0)))
 (.seq (.block 1 (.seq (.ops [⟨(some 8), .mov (.const (.int .i64 1000000)), none⟩])
 (.seq (.seq (.ops [⟨(some 20), .mov (.tmp 7), none⟩,
  ⟨(some 21), .ar .i64 .eql (.tmp 20) (.const (.int .i64 1)), none⟩])
 (.cond (.tmp 21) (.ops [⟨(some 8), .mov (.const (.int .i64 400)), none⟩])
 .skip))
 (.seq (.ops [⟨(some 22), .mov (.tmp 0), none⟩,
  ⟨(some 23), .mov (.tmp 8), none⟩,
  ⟨(some 24), .call 36 [(.tmp 22), (.tmp 23)], none⟩,
  ⟨(some 9), .mov (.tmp 24), none⟩])
 (.seq (.ops [⟨(some 25), .mov (.tmp 9), none⟩,
  ⟨(some 26), .mov (.tmp 1), none⟩,
  ⟨(some 27), .call 35 [(.tmp 25), (.tmp 26)], none⟩,
  ⟨(some 28), .mov (.tmp 9), none⟩,
  ⟨(some 29), .mov (.tmp 2), none⟩,
  ⟨(some 30), .call 35 [(.tmp 28), (.tmp 29)], none⟩,
  ⟨(some 10), .mov (.tmp 27), none⟩,
  ⟨(some 11), .mov (.tmp 30), none⟩])
 (.seq (.seq (.ops [⟨(some 31), .mov (.tmp 7), none⟩,
  ⟨(some 32), .ar .i64 .eql (.tmp 31) (.const (.int .i64 1)), none⟩,
  ⟨(some 33), .mov (.tmp 32), none⟩,
  ⟨(some 34), .mov (.tmp 2), (some (33, true))⟩,
  ⟨(some 35), .ar .i64 .rem (.tmp 34) (.const (.int .i64 2)), (some (33, true))⟩,
  ⟨(some 36), .ar .i64 .eql (.tmp 35) (.const (.int .i64 0)), (some (33, true))⟩,
  ⟨(some 37), .pick (.tmp 33) (.tmp 36) (.const (.bool false)), none⟩])
 (.cond (.tmp 37) (.ops [⟨(some 38), .mov (.tmp 9), none⟩,
  ⟨(some 39), .mov (.tmp 10), none⟩,
  ⟨(some 40), .mov (.tmp 2), none⟩,
  ⟨(some 41), .cint .u64 (.tmp 40), none⟩,
  ⟨(some 42), .ar .u64 .rem (.tmp 41) (.const (.int .u64 1000)), none⟩,
  ⟨(some 43), .cint .i64 (.tmp 42), none⟩,
  ⟨(some 44), .call 38 [(.tmp 38), (.tmp 39), (.tmp 43)], none⟩,
  ⟨(some 11), .mov (.tmp 44), none⟩])
 .skip))
 (.seq (.ops [⟨(some 46), .mov (.tmp 9), none⟩,
  ⟨(some 47), .mov (.tmp 10), none⟩,
  ⟨(some 48), .mov (.tmp 11), none⟩,
  ⟨(some 49), .call 30 [(.tmp 46), (.tmp 47), (.tmp 48)], none⟩,
  ⟨(some 45), .mov (.tmp 49), none⟩,
  ⟨(some 50), .ext (.tmp 45) 0, none⟩,
  ⟨(some 51), .ext (.tmp 45) 1, none⟩,
  ⟨(some 52), .ext (.tmp 45) 2, none⟩,
  ⟨(some 12), .mov (.tmp 50), none⟩,
  ⟨(some 13), .mov (.tmp 51), none⟩,
  ⟨(some 14), .mov (.tmp 52), none⟩])
 (.seq (.ops [⟨(some 53), .mov (.tmp 9), none⟩,
  ⟨(some 54), .mov (.tmp 10), none⟩,
  ⟨(some 55), .mov (.tmp 11), none⟩,
  ⟨(some 56), .call 46 [(.tmp 53), (.tmp 54), (.tmp 55)], none⟩,
  ⟨(some 15), .mov (.tmp 56), none⟩])
 (.seq (.ops [⟨(some 57), .mov (.tmp 14), none⟩,
  ⟨(some 58), .ar .i64 .neq (.tmp 57) (.const (.int .i64 0)), none⟩,
  ⟨(some 59), .mov (.tmp 58), none⟩,
  ⟨(some 60), .mov (.tmp 13), (some (59, false))⟩,
  ⟨(some 61), .mov (.tmp 15), (some (59, false))⟩,
  ⟨(some 62), .ar .i64 .geq (.tmp 61) (.const (.int .i64 0)), (some (59, false))⟩,
  ⟨(some 63), .raw (.binOp .neq 4 (.tmp 60) (.tmp 62) 4) 4, (some (59, false))⟩,
  ⟨(some 64), .pick (.tmp 59) (.const (.bool true)) (.tmp 63), none⟩,
  ⟨(some 65), .mov (.tmp 64), none⟩,
  ⟨(some 66), .mov (.tmp 12), (some (65, false))⟩,
  ⟨(some 67), .mov (.tmp 15), (some (65, false))⟩,
  ⟨(some 68), .raw (.call ⟨.builtin .max, ⟨[(.tmp 67), (.const (.int .i64 0))]⟩, ⟨[3, 3]⟩⟩) 3, (some (65, false))⟩,
  ⟨(some 69), .ar .i64 .neq (.tmp 66) (.tmp 68), (some (65, false))⟩,
  ⟨(some 70), .pick (.tmp 65) (.const (.bool true)) (.tmp 69), none⟩])
 (.cond (.tmp 70) (.seq (.ops [⟨(some 6), .mov (.const (.bool false)), none⟩])
 .ret)
 .skip))))))))))
 (.ops [⟨(some 18), .mov (.tmp 7), none⟩,
  ⟨(some 19), .ar .i64 .add (.tmp 18) (.const (.int .i64 1)), none⟩,
  ⟨(some 7), .mov (.tmp 19), none⟩]))))))
 (.seq (.ops [⟨(some 71), .call 28 [], none⟩,
  ⟨(some 6), .mov (.tmp 71), none⟩])
 .ret)))
theorem enter6 {xs : List Value} {h : Hp} {Q : Value → Hp → Prop} (hl : xs.length ≤ 72) (w : wq E 72 none c6 (frameOf xs) h [] (leaveQ E [.tmp 6] Q)) : CallP E 6 xs h Q :=
  CallP.enterQ (fn := Try.f6) (fn_get Try.func6) (code := Try.f6.body.get rfl) rfl rfl rfl (by kernel_rfl) rfl (fun _ => rfl) hl w
theorem can6 : callable E 6 = true := callable_get Try.func6 rfl rfl

/-- tosher/tosherref07.Check -/
def c16 : C := (.seq (.ops [⟨(some 4), .mov (.const (.int .i64 0)), none⟩])
 (.seq (.block 0 (.seq (.ops [⟨(some 6), .mov (.tmp 0), none⟩,
  ⟨(some 7), .call 18 [(.tmp 6)], none⟩,
  ⟨(some 8), .not (.tmp 7), none⟩,
  ⟨(some 5), .mov (.tmp 8), none⟩])
 (.cond (.tmp 5) (.seq (.ops [⟨(some 4), .mov (.const (.int .i64 1)), none⟩])
 .ret)
 (.seq (.ops [⟨(some 10), .mov (.tmp 1), none⟩,
  ⟨(some 11), .ar .i64 .lss (.tmp 10) (.const (.int .i64 0)), none⟩,
  ⟨(some 12), .mov (.tmp 11), none⟩,
  ⟨(some 13), .mov (.tmp 1), (some (12, false))⟩,
  ⟨(some 14), .mov (.tmp 0), (some (12, false))⟩,
  ⟨(some 15), .ar .i64 .geq (.tmp 13) (.tmp 14), (some (12, false))⟩,
  ⟨(some 16), .pick (.tmp 12) (.const (.bool true)) (.tmp 15), none⟩,
  ⟨(some 17), .mov (.tmp 16), none⟩,
  ⟨(some 18), .mov (.tmp 0), (some (17, false))⟩,
  ⟨(some 19), .mov (.tmp 1), (some (17, false))⟩,
  ⟨(some 20), .call 49 [(.tmp 18), (.tmp 19)], (some (17, false))⟩,
  ⟨(some 21), .ar .i64 .neq (.tmp 20) (.const (.int .i64 1)), (some (17, false))⟩,
  ⟨(some 22), .pick (.tmp 17) (.const (.bool true)) (.tmp 21), none⟩,
  ⟨(some 9), .mov (.tmp 22), none⟩])
 (.cond (.tmp 9) (.seq (.ops [⟨(some 4), .mov (.const (.int .i64 70)), none⟩])
 .ret)
 .skip)))))
 (.seq (.ops [⟨(some 4), .mov (.const (.int .i64 0)), none⟩])
 .ret)))
theorem enter16 {xs : List Value} {h : Hp} {Q : Value → Hp → Prop} (hl : xs.length ≤ 23) (w : wq E 23 none c16 (frameOf xs) h [] (leaveQ E [.tmp 4] Q)) : CallP E 16 xs h Q :=
  CallP.enterQ (fn := Try.f16) (fn_get Try.func16) (code := Try.f16.body.get rfl) rfl rfl rfl (by kernel_rfl) rfl (fun _ => rfl) hl w
theorem can16 : callable E 16 = true := callable_get Try.func16 rfl rfl

/-- tosher/logs.Check -/
def c17 : C := (.seq (.ops [⟨(some 4), .mov (.const (.int .i64 0)), none⟩])
 (.seq (.seq (.ops [⟨(some 5), .mov (.tmp 0), none⟩,
  ⟨(some 6), .call 53 [(.tmp 5)], none⟩,
  ⟨(some 7), .not (.tmp 6), none⟩])
 (.cond (.tmp 7) (.seq (.ops [⟨(some 4), .mov (.const (.int .i64 1)), none⟩])
 .ret)
 .skip))
 (.seq (.seq (.ops [⟨(some 8), .mov (.tmp 0), none⟩,
  ⟨(some 9), .mov (.tmp 1), none⟩,
  ⟨(some 10), .call 54 [(.tmp 8), (.tmp 9)], none⟩,
  ⟨(some 11), .not (.tmp 10), none⟩])
 (.cond (.tmp 11) (.seq (.ops [⟨(some 4), .mov (.const (.int .i64 70)), none⟩])
 .ret)
 .skip))
 (.seq (.ops [⟨(some 4), .mov (.const (.int .i64 0)), none⟩])
 .ret))))
theorem enter17 {xs : List Value} {h : Hp} {Q : Value → Hp → Prop} (hl : xs.length ≤ 12) (w : wq E 12 none c17 (frameOf xs) h [] (leaveQ E [.tmp 4] Q)) : CallP E 17 xs h Q :=
  CallP.enterQ (fn := Try.f17) (fn_get Try.func17) (code := Try.f17.body.get rfl) rfl rfl rfl (by kernel_rfl) rfl (fun _ => rfl) hl w
theorem can17 : callable E 17 = true := callable_get Try.func17 rfl rfl

/-- tosher/tosherref07.Modulus -/
def c18 : C := (.seq (.ops [⟨(some 2), .mov (.const (.bool false)), none⟩])
 (.seq (.ops [⟨(some 3), .mov (.tmp 0), none⟩,
  ⟨(some 4), .ar .i64 .geq (.tmp 3) (.const (.int .i64 1)), none⟩,
  ⟨(some 5), .mov (.tmp 4), none⟩,
  ⟨(some 6), .mov (.tmp 0), (some (5, true))⟩,
  ⟨(some 7), .ar .i64 .leq (.tmp 6) (.const (.int .i64 1000000)), (some (5, true))⟩,
  ⟨(some 8), .pick (.tmp 5) (.tmp 7) (.const (.bool false)), none⟩,
  ⟨(some 2), .mov (.tmp 8), none⟩])
 .ret))
theorem enter18 {xs : List Value} {h : Hp} {Q : Value → Hp → Prop} (hl : xs.length ≤ 9) (w : wq E 9 none c18 (frameOf xs) h [] (leaveQ E [.tmp 2] Q)) : CallP E 18 xs h Q :=
  CallP.enterQ (fn := Try.f18) (fn_get Try.func18) (code := Try.f18.body.get rfl) rfl rfl rfl (by kernel_rfl) rfl (fun _ => rfl) hl w
theorem can18 : callable E 18 = true := callable_get Try.func18 rfl rfl

/-- tosher/logs.Units -/
def c19 : C := (.seq (.ops [⟨(some 2), .mov (.const (.int .i64 0)), none⟩,
  ⟨(some 3), .mov (.const (.int .i64 0)), none⟩])
 (.seq (.seq (.ops [⟨(some 4), .mov (.tmp 0), none⟩,
  ⟨(some 5), .call 53 [(.tmp 4)], none⟩,
  ⟨(some 6), .not (.tmp 5), none⟩])
 (.cond (.tmp 6) (.seq (.ops [⟨(some 2), .mov (.const (.int .i64 0)), none⟩,
  ⟨(some 3), .mov (.const (.int .i64 1)), none⟩])
 .ret)
 .skip))
 (.seq (.ops [⟨(some 7), .mov (.tmp 0), none⟩,
  ⟨(some 8), .call 55 [(.tmp 7)], none⟩,
  ⟨(some 2), .mov (.tmp 8), none⟩,
  ⟨(some 3), .mov (.const (.int .i64 0)), none⟩])
 .ret)))
theorem enter19 {xs : List Value} {h : Hp} {Q : Value → Hp → Prop} (hl : xs.length ≤ 9) (w : wq E 9 none c19 (frameOf xs) h [] (leaveQ E [.tmp 2, .tmp 3] Q)) : CallP E 19 xs h Q :=
  CallP.enterQ (fn := Try.f19) (fn_get Try.func19) (code := Try.f19.body.get rfl) rfl rfl rfl (by kernel_rfl) rfl (fun _ => rfl) hl w
theorem can19 : callable E 19 = true := callable_get Try.func19 rfl rfl

/-- tosher/logs.Exponent -/
def c20 : C := (.seq (.ops [⟨(some 2), .mov (.const (.int .i64 0)), none⟩,
  ⟨(some 3), .mov (.const (.int .i64 0)), none⟩])
 (.seq (.seq (.ops [⟨(some 7), .mov (.tmp 0), none⟩,
  ⟨(some 8), .call 53 [(.tmp 7)], none⟩,
  ⟨(some 9), .not (.tmp 8), none⟩])
 (.cond (.tmp 9) (.seq (.ops [⟨(some 2), .mov (.const (.int .i64 0)), none⟩,
  ⟨(some 3), .mov (.const (.int .i64 1)), none⟩])
 .ret)
 .skip))
 (.seq (.ops [⟨(some 4), .mov (.const (.int .i64 1)), none⟩])
 (.seq (.seq (.ops [⟨(some 10), .mov (.tmp 0), none⟩,
  ⟨(some 11), .call 56 [(.tmp 10)], none⟩,
  ⟨(some 12), .lenS (.tmp 11), none⟩,
  ⟨(some 13), .mov (.const (.int .i64 0)), none⟩])
 (.block 0 (.loop (.seq (.ops [⟨(some 14), .ar .i64 .lss (.tmp 13) (.tmp 12), none⟩])
 (.seq (.cond (.tmp 14) .skip
 (.exit 0))
 (.seq (.block 1 (.seq (.ops [⟨(some 15), .idxS 3 (.tmp 11) (.tmp 13), none⟩,
  ⟨(some 16), .loadN 3 (.tmp 15), none⟩,
  ⟨(some 6), .alloc 55 [(.int .i64 0), (.int .i64 0), (.int .i64 0)], none⟩,
  ⟨none, .store 3 (.tmp 6) (.tmp 16), none⟩])
 (.draw [⟨(some 17), .mov (.tmp 4), none⟩,
  ⟨(some 18), .mov (.tmp 4), none⟩,
  ⟨(some 19), .fldA 2 (.tmp 6), none⟩,
  ⟨(some 20), .load1 (.tmp 19), none⟩,
  ⟨(some 21), .slit 3 2 [(.int .i64 0), (.int .i64 0)] [(0, 1, (.tmp 18)), (1, 1, (.tmp 20))], none⟩,
  ⟨(some 22), .call 57 [(.tmp 21)], none⟩,
  ⟨(some 23), .ar .i64 .quo (.tmp 17) (.tmp 22), none⟩,
  ⟨(some 24), .fldA 2 (.tmp 6), none⟩,
  ⟨(some 25), .load1 (.tmp 24), none⟩,
  ⟨(some 26), .ar .i64 .mul (.tmp 23) (.tmp 25), none⟩,
  ⟨(some 4), .mov (.tmp 26), none⟩]
  [⟨false, true, [false, false, false, false, false, false, false, false, false, false, false], [false, false, false, false, true, true, false, false, false, false, false]⟩,
  ⟨false, false, [false, false, false, false, false, false, false, false, false, false, false], [false, false, false, false, false, false, false, false, false, false, false]⟩,
  ⟨false, false, [false, false, false, false, false, false, false, false, false, false, false], [false, false, false, false, false, false, false, false, false, false, false]⟩,
  ⟨false, false, [false, false, false, false, false, false, false, false, false, false, false], [false, false, false, false, false, false, false, false, false, false, false]⟩,
  ⟨true, false, [false, false, false, false, false, false, false, false, false, false, false], [false, false, false, false, true, false, false, false, false, false, false]⟩,
  ⟨true, false, [false, false, false, false, true, false, false, false, false, false, false], [false, false, false, false, true, true, false, false, false, false, false]⟩,
  ⟨false, false, [false, false, false, false, true, true, false, false, false, false, false], [false, false, false, false, true, true, false, false, false, false, false]⟩,
  ⟨false, true, [false, false, false, false, false, false, false, false, false, false, false], [false, false, false, false, true, true, false, false, false, false, false]⟩,
  ⟨false, true, [false, false, false, false, false, false, false, false, false, false, false], [false, false, false, false, true, true, false, false, false, false, false]⟩,
  ⟨false, false, [false, false, false, false, true, true, false, false, false, false, false], [false, false, false, false, true, true, false, false, false, false, false]⟩,
  ⟨false, false, [false, false, false, false, true, true, false, false, false, false, false], [false, false, false, false, true, true, false, false, false, false, false]⟩])))
 (.ops [⟨(some 27), .ar .i64 .add (.tmp 13) (.const (.int .i64 1)), none⟩,
  ⟨(some 13), .mov (.tmp 27), none⟩])))))))
 (.seq (.ops [⟨(some 28), .mov (.tmp 4), none⟩,
  ⟨(some 2), .mov (.tmp 28), none⟩,
  ⟨(some 3), .mov (.const (.int .i64 0)), none⟩])
 .ret)))))
theorem enter20 {xs : List Value} {h : Hp} {Q : Value → Hp → Prop} (hl : xs.length ≤ 29) (w : wq E 29 none c20 (frameOf xs) h [] (leaveQ E [.tmp 2, .tmp 3] Q)) : CallP E 20 xs h Q :=
  CallP.enterQ (fn := Try.f20) (fn_get Try.func20) (code := Try.f20.body.get rfl) rfl rfl rfl (by kernel_rfl) rfl (fun _ => rfl) hl w
theorem can20 : callable E 20 = true := callable_get Try.func20 rfl rfl

/-- tosher/logs.Generator -/
def c21 : C := (.seq (.ops [⟨(some 2), .mov (.const (.int .i64 0)), none⟩,
  ⟨(some 3), .mov (.const (.int .i64 0)), none⟩])
 (.seq (.seq (.ops [⟨(some 4), .mov (.tmp 0), none⟩,
  ⟨(some 5), .call 53 [(.tmp 4)], none⟩,
  ⟨(some 6), .not (.tmp 5), none⟩])
 (.cond (.tmp 6) (.seq (.ops [⟨(some 2), .mov (.const (.int .i64 0)), none⟩,
  ⟨(some 3), .mov (.const (.int .i64 1)), none⟩])
 .ret)
 .skip))
 (.seq (.seq (.ops [⟨(some 7), .mov (.tmp 0), none⟩,
  ⟨(some 8), .call 58 [(.tmp 7)], none⟩,
  ⟨(some 9), .not (.tmp 8), none⟩])
 (.cond (.tmp 9) (.seq (.ops [⟨(some 2), .mov (.const (.int .i64 0)), none⟩,
  ⟨(some 3), .mov (.const (.int .i64 4)), none⟩])
 .ret)
 .skip))
 (.seq (.ops [⟨(some 10), .mov (.tmp 0), none⟩,
  ⟨(some 11), .call 59 [(.tmp 10)], none⟩,
  ⟨(some 2), .mov (.tmp 11), none⟩,
  ⟨(some 3), .mov (.const (.int .i64 0)), none⟩])
 .ret))))
theorem enter21 {xs : List Value} {h : Hp} {Q : Value → Hp → Prop} (hl : xs.length ≤ 12) (w : wq E 12 none c21 (frameOf xs) h [] (leaveQ E [.tmp 2, .tmp 3] Q)) : CallP E 21 xs h Q :=
  CallP.enterQ (fn := Try.f21) (fn_get Try.func21) (code := Try.f21.body.get rfl) rfl rfl rfl (by kernel_rfl) rfl (fun _ => rfl) hl w
theorem can21 : callable E 21 = true := callable_get Try.func21 rfl rfl

/-- tosher/logs.Generators -/
def c22 : C := (.seq (.ops [⟨(some 2), .mov (.const (.int .i64 0)), none⟩,
  ⟨(some 3), .mov (.const (.int .i64 0)), none⟩])
 (.seq (.seq (.ops [⟨(some 4), .mov (.tmp 0), none⟩,
  ⟨(some 5), .call 53 [(.tmp 4)], none⟩,
  ⟨(some 6), .not (.tmp 5), none⟩])
 (.cond (.tmp 6) (.seq (.ops [⟨(some 2), .mov (.const (.int .i64 0)), none⟩,
  ⟨(some 3), .mov (.const (.int .i64 1)), none⟩])
 .ret)
 .skip))
 (.seq (.seq (.ops [⟨(some 7), .mov (.tmp 0), none⟩,
  ⟨(some 8), .call 58 [(.tmp 7)], none⟩,
  ⟨(some 9), .not (.tmp 8), none⟩])
 (.cond (.tmp 9) (.seq (.ops [⟨(some 2), .mov (.const (.int .i64 0)), none⟩,
  ⟨(some 3), .mov (.const (.int .i64 0)), none⟩])
 .ret)
 .skip))
 (.seq (.ops [⟨(some 10), .mov (.tmp 0), none⟩,
  ⟨(some 11), .call 55 [(.tmp 10)], none⟩,
  ⟨(some 12), .call 55 [(.tmp 11)], none⟩,
  ⟨(some 2), .mov (.tmp 12), none⟩,
  ⟨(some 3), .mov (.const (.int .i64 0)), none⟩])
 .ret))))
theorem enter22 {xs : List Value} {h : Hp} {Q : Value → Hp → Prop} (hl : xs.length ≤ 13) (w : wq E 13 none c22 (frameOf xs) h [] (leaveQ E [.tmp 2, .tmp 3] Q)) : CallP E 22 xs h Q :=
  CallP.enterQ (fn := Try.f22) (fn_get Try.func22) (code := Try.f22.body.get rfl) rfl rfl rfl (by kernel_rfl) rfl (fun _ => rfl) hl w
theorem can22 : callable E 22 = true := callable_get Try.func22 rfl rfl

/-- tosher/logs.Parts -/
def c23 : C := (.seq (.ops [⟨(some 2), .mov (.const (.slice none 0 0)), none⟩,
  ⟨(some 3), .mov (.const (.int .i64 0)), none⟩])
 (.seq (.seq (.ops [⟨(some 6), .mov (.tmp 0), none⟩,
  ⟨(some 7), .call 53 [(.tmp 6)], none⟩,
  ⟨(some 8), .not (.tmp 7), none⟩])
 (.cond (.tmp 8) (.seq (.ops [⟨(some 2), .mov (.const (.slice none 0 0)), none⟩,
  ⟨(some 3), .mov (.const (.int .i64 1)), none⟩])
 .ret)
 .skip))
 (.seq (.ops [⟨(some 10), .mov (.tmp 0), none⟩,
  ⟨(some 11), .call 60 [(.tmp 10)], none⟩,
  ⟨(some 9), .mov (.tmp 11), none⟩,
  ⟨(some 12), .ext (.tmp 9) 0, none⟩,
  ⟨(some 13), .ext (.tmp 9) 1, none⟩,
  ⟨(some 4), .mov (.tmp 12), none⟩,
  ⟨(some 5), .mov (.tmp 13), none⟩])
 (.seq (.ops [⟨(some 14), .mov (.tmp 4), none⟩,
  ⟨(some 2), .mov (.tmp 14), none⟩,
  ⟨(some 3), .mov (.const (.int .i64 0)), none⟩])
 .ret))))
theorem enter23 {xs : List Value} {h : Hp} {Q : Value → Hp → Prop} (hl : xs.length ≤ 15) (w : wq E 15 none c23 (frameOf xs) h [] (leaveQ E [.tmp 2, .tmp 3] Q)) : CallP E 23 xs h Q :=
  CallP.enterQ (fn := Try.f23) (fn_get Try.func23) (code := Try.f23.body.get rfl) rfl rfl rfl (by kernel_rfl) rfl (fun _ => rfl) hl w
theorem can23 : callable E 23 = true := callable_get Try.func23 rfl rfl

/-- tosher/logs.Basis -/
def c24 : C := (.seq (.ops [⟨(some 2), .mov (.const (.slice none 0 0)), none⟩,
  ⟨(some 3), .mov (.const (.int .i64 0)), none⟩])
 (.seq (.seq (.ops [⟨(some 6), .mov (.tmp 0), none⟩,
  ⟨(some 7), .call 53 [(.tmp 6)], none⟩,
  ⟨(some 8), .not (.tmp 7), none⟩])
 (.cond (.tmp 8) (.seq (.ops [⟨(some 2), .mov (.const (.slice none 0 0)), none⟩,
  ⟨(some 3), .mov (.const (.int .i64 1)), none⟩])
 .ret)
 .skip))
 (.seq (.ops [⟨(some 10), .mov (.tmp 0), none⟩,
  ⟨(some 11), .call 60 [(.tmp 10)], none⟩,
  ⟨(some 9), .mov (.tmp 11), none⟩,
  ⟨(some 12), .ext (.tmp 9) 0, none⟩,
  ⟨(some 13), .ext (.tmp 9) 1, none⟩,
  ⟨(some 4), .mov (.tmp 12), none⟩,
  ⟨(some 5), .mov (.tmp 13), none⟩])
 (.seq (.ops [⟨(some 14), .mov (.tmp 5), none⟩,
  ⟨(some 2), .mov (.tmp 14), none⟩,
  ⟨(some 3), .mov (.const (.int .i64 0)), none⟩])
 .ret))))
theorem enter24 {xs : List Value} {h : Hp} {Q : Value → Hp → Prop} (hl : xs.length ≤ 15) (w : wq E 15 none c24 (frameOf xs) h [] (leaveQ E [.tmp 2, .tmp 3] Q)) : CallP E 24 xs h Q :=
  CallP.enterQ (fn := Try.f24) (fn_get Try.func24) (code := Try.f24.body.get rfl) rfl rfl rfl (by kernel_rfl) rfl (fun _ => rfl) hl w
theorem can24 : callable E 24 = true := callable_get Try.func24 rfl rfl

/-- tosher/logs.Count -/
def c25 : C := (.seq (.ops [⟨(some 4), .mov (.const (.int .i64 0)), none⟩,
  ⟨(some 5), .mov (.const (.int .i64 0)), none⟩])
 (.seq (.seq (.ops [⟨(some 6), .mov (.tmp 0), none⟩,
  ⟨(some 7), .call 53 [(.tmp 6)], none⟩,
  ⟨(some 8), .not (.tmp 7), none⟩,
  ⟨(some 9), .mov (.tmp 8), none⟩,
  ⟨(some 10), .mov (.tmp 1), (some (9, false))⟩,
  ⟨(some 11), .ar .i64 .lss (.tmp 10) (.const (.int .i64 1)), (some (9, false))⟩,
  ⟨(some 12), .pick (.tmp 9) (.const (.bool true)) (.tmp 11), none⟩,
  ⟨(some 13), .mov (.tmp 12), none⟩,
  ⟨(some 14), .mov (.tmp 1), (some (13, false))⟩,
  ⟨(some 15), .ar .i64 .gtr (.tmp 14) (.const (.int .i64 1000000)), (some (13, false))⟩,
  ⟨(some 16), .pick (.tmp 13) (.const (.bool true)) (.tmp 15), none⟩])
 (.cond (.tmp 16) (.seq (.ops [⟨(some 4), .mov (.const (.int .i64 0)), none⟩,
  ⟨(some 5), .mov (.const (.int .i64 1)), none⟩])
 .ret)
 .skip))
 (.seq (.ops [⟨(some 17), .mov (.tmp 0), none⟩,
  ⟨(some 18), .mov (.tmp 1), none⟩,
  ⟨(some 19), .call 61 [(.tmp 17), (.tmp 18)], none⟩,
  ⟨(some 4), .mov (.tmp 19), none⟩,
  ⟨(some 5), .mov (.const (.int .i64 0)), none⟩])
 .ret)))
theorem enter25 {xs : List Value} {h : Hp} {Q : Value → Hp → Prop} (hl : xs.length ≤ 20) (w : wq E 20 none c25 (frameOf xs) h [] (leaveQ E [.tmp 4, .tmp 5] Q)) : CallP E 25 xs h Q :=
  CallP.enterQ (fn := Try.f25) (fn_get Try.func25) (code := Try.f25.body.get rfl) rfl rfl rfl (by kernel_rfl) rfl (fun _ => rfl) hl w
theorem can25 : callable E 25 = true := callable_get Try.func25 rfl rfl

/-- tosher/logs.Factor -/
def c26 : C := (.seq (.ops [⟨(some 2), .mov (.const (.slice none 0 0)), none⟩,
  ⟨(some 3), .mov (.const (.int .i64 0)), none⟩])
 (.seq (.seq (.ops [⟨(some 6), .mov (.tmp 0), none⟩,
  ⟨(some 7), .call 53 [(.tmp 6)], none⟩,
  ⟨(some 8), .not (.tmp 7), none⟩])
 (.cond (.tmp 8) (.seq (.ops [⟨(some 2), .mov (.const (.slice none 0 0)), none⟩,
  ⟨(some 3), .mov (.const (.int .i64 1)), none⟩])
 .ret)
 .skip))
 (.seq (.ops [⟨(some 4), .alloc 32 [(.slice none 0 0)], none⟩])
 (.seq (.seq (.ops [⟨(some 9), .mov (.tmp 0), none⟩,
  ⟨(some 10), .call 62 [(.tmp 9)], none⟩])
 (.block 0 (.range (.tmp 10) ⟨[11]⟩ (.ops [⟨(some 5), .alloc 63 [(.int .i64 0), (.int .i64 0)], none⟩,
  ⟨none, .store 2 (.tmp 5) (.tmp 11), none⟩])
 (.block 1 (.ops [⟨(some 12), .load1 (.tmp 4), none⟩,
  ⟨(some 13), .fldA 0 (.tmp 5), none⟩,
  ⟨(some 14), .load1 (.tmp 13), none⟩,
  ⟨(some 15), .fldA 1 (.tmp 5), none⟩,
  ⟨(some 16), .load1 (.tmp 15), none⟩,
  ⟨(some 17), .aggr [(.int .i64 0), (.int .i64 0)] [(0, 1, (.tmp 14)), (1, 1, (.tmp 16))], none⟩,
  ⟨(some 18), .slit 47 1 [(.int .i64 0), (.int .i64 0)] [(0, 2, (.tmp 17))], none⟩,
  ⟨(some 19), .append 47 2 16 (.tmp 12) (.tmp 18), none⟩,
  ⟨none, .store 1 (.tmp 4) (.tmp 19), none⟩])))))
 (.seq (.ops [⟨(some 20), .load1 (.tmp 4), none⟩,
  ⟨(some 2), .mov (.tmp 20), none⟩,
  ⟨(some 3), .mov (.const (.int .i64 0)), none⟩])
 .ret)))))
theorem enter26 {xs : List Value} {h : Hp} {Q : Value → Hp → Prop} (hl : xs.length ≤ 21) (w : wq E 21 none c26 (frameOf xs) h [] (leaveQ E [.tmp 2, .tmp 3] Q)) : CallP E 26 xs h Q :=
  CallP.enterQ (fn := Try.f26) (fn_get Try.func26) (code := Try.f26.body.get rfl) rfl rfl rfl (by kernel_rfl) rfl (fun _ => rfl) hl w
theorem can26 : callable E 26 = true := callable_get Try.func26 rfl rfl

/-- tosher/logs.Witness -/
def c27 : C := (.seq (.ops [⟨(some 2), .mov (.const (.int .i64 0)), none⟩,
  ⟨(some 3), .mov (.const (.bool false)), none⟩,
  ⟨(some 4), .mov (.const (.int .i64 0)), none⟩])
 (.seq (.seq (.ops [⟨(some 6), .mov (.tmp 0), none⟩,
  ⟨(some 7), .call 53 [(.tmp 6)], none⟩,
  ⟨(some 8), .not (.tmp 7), none⟩])
 (.cond (.tmp 8) (.seq (.ops [⟨(some 2), .mov (.const (.int .i64 0)), none⟩,
  ⟨(some 3), .mov (.const (.bool false)), none⟩,
  ⟨(some 4), .mov (.const (.int .i64 1)), none⟩])
 .ret)
 .skip))
 (.seq (.seq (.ops [⟨(some 9), .mov (.tmp 0), none⟩,
  ⟨(some 10), .ar .i64 .lss (.tmp 9) (.const (.int .i64 3)), none⟩,
  ⟨(some 11), .mov (.tmp 10), none⟩,
  ⟨(some 12), .mov (.tmp 0), (some (11, false))⟩,
  ⟨(some 13), .ar .i64 .rem (.tmp 12) (.const (.int .i64 2)), (some (11, false))⟩,
  ⟨(some 14), .ar .i64 .eql (.tmp 13) (.const (.int .i64 0)), (some (11, false))⟩,
  ⟨(some 15), .pick (.tmp 11) (.const (.bool true)) (.tmp 14), none⟩])
 (.cond (.tmp 15) (.seq (.ops [⟨(some 2), .mov (.const (.int .i64 0)), none⟩,
  ⟨(some 3), .mov (.const (.bool false)), none⟩,
  ⟨(some 4), .mov (.const (.int .i64 4)), none⟩])
 .ret)
 .skip))
 (.seq (.seq (.ops [⟨(some 16), .mov (.tmp 0), none⟩,
  ⟨(some 17), .call 63 [(.tmp 16)], none⟩])
 (.cond (.tmp 17) (.seq (.ops [⟨(some 2), .mov (.const (.int .i64 0)), none⟩,
  ⟨(some 3), .mov (.const (.bool false)), none⟩,
  ⟨(some 4), .mov (.const (.int .i64 0)), none⟩])
 .ret)
 .skip))
 (.seq (.ops [⟨(some 5), .mov (.const (.int .i64 2)), none⟩])
 (.seq (.block 0 (.loop (.seq (.seq (.ops [⟨(some 18), .mov (.tmp 0), none⟩,
  ⟨(some 19), .mov (.tmp 5), none⟩,
  ⟨(some 20), .call 64 [(.tmp 18), (.tmp 19)], none⟩,
  ⟨(some 21), .not (.tmp 20), none⟩])
 (.cond (.tmp 21) .skip
 (.exit 0)))
 (.block 1 (.ops [⟨(some 22), .mov (.tmp 5), none⟩,
  ⟨(some 23), .ar .i64 .add (.tmp 22) (.const (.int .i64 1)), none⟩,
  ⟨(some 5), .mov (.tmp 23), none⟩])))))
 (.seq (.ops [⟨(some 24), .mov (.tmp 5), none⟩,
  ⟨(some 2), .mov (.tmp 24), none⟩,
  ⟨(some 3), .mov (.const (.bool true)), none⟩,
  ⟨(some 4), .mov (.const (.int .i64 0)), none⟩])
 .ret)))))))
theorem enter27 {xs : List Value} {h : Hp} {Q : Value → Hp → Prop} (hl : xs.length ≤ 25) (w : wq E 25 none c27 (frameOf xs) h [] (leaveQ E [.tmp 2, .tmp 3, .tmp 4] Q)) : CallP E 27 xs h Q :=
  CallP.enterQ (fn := Try.f27) (fn_get Try.func27) (code := Try.f27.body.get rfl) rfl rfl rfl (by kernel_rfl) rfl (fun _ => rfl) hl w
theorem can27 : callable E 27 = true := callable_get Try.func27 rfl rfl

theorem memo28 {h : Hp} {Q : Value → Hp → Prop} (q : Q (.bool true) h) : CallP E 28 [] h Q := CallP.memo rfl q

/-- tosher/logs.Order -/
def c29 : C := (.seq (.ops [⟨(some 4), .mov (.const (.int .i64 0)), none⟩,
  ⟨(some 5), .mov (.const (.int .i64 0)), none⟩])
 (.seq (.seq (.ops [⟨(some 7), .mov (.tmp 0), none⟩,
  ⟨(some 8), .mov (.tmp 1), none⟩,
  ⟨(some 9), .call 17 [(.tmp 7), (.tmp 8)], none⟩,
  ⟨(some 6), .mov (.tmp 9), none⟩])
 (.seq (.ops [⟨(some 10), .mov (.tmp 6), none⟩,
  ⟨(some 11), .ar .i64 .neq (.tmp 10) (.const (.int .i64 0)), none⟩])
 (.cond (.tmp 11) (.seq (.ops [⟨(some 12), .mov (.tmp 6), none⟩,
  ⟨(some 4), .mov (.const (.int .i64 0)), none⟩,
  ⟨(some 5), .mov (.tmp 12), none⟩])
 .ret)
 .skip)))
 (.seq (.ops [⟨(some 13), .mov (.tmp 0), none⟩,
  ⟨(some 14), .mov (.tmp 1), none⟩,
  ⟨(some 15), .aggr [(.int .i64 0), (.int .i64 0)] [(0, 1, (.tmp 13)), (1, 1, (.tmp 14))], none⟩,
  ⟨(some 16), .call 65 [(.tmp 15)], none⟩,
  ⟨(some 4), .mov (.tmp 16), none⟩,
  ⟨(some 5), .mov (.const (.int .i64 0)), none⟩])
 .ret)))
theorem enter29 {xs : List Value} {h : Hp} {Q : Value → Hp → Prop} (hl : xs.length ≤ 17) (w : wq E 17 none c29 (frameOf xs) h [] (leaveQ E [.tmp 4, .tmp 5] Q)) : CallP E 29 xs h Q :=
  CallP.enterQ (fn := Try.f29) (fn_get Try.func29) (code := Try.f29.body.get rfl) rfl rfl rfl (by kernel_rfl) rfl (fun _ => rfl) hl w
theorem can29 : callable E 29 = true := callable_get Try.func29 rfl rfl

/-- tosher/logs.Log -/
def c30 : C := (.seq (.ops [⟨(some 6), .mov (.const (.int .i64 0)), none⟩,
  ⟨(some 7), .mov (.const (.bool false)), none⟩,
  ⟨(some 8), .mov (.const (.int .i64 0)), none⟩])
 (.seq (.seq (.ops [⟨(some 13), .mov (.tmp 0), none⟩,
  ⟨(some 14), .mov (.tmp 1), none⟩,
  ⟨(some 15), .call 17 [(.tmp 13), (.tmp 14)], none⟩,
  ⟨(some 9), .mov (.tmp 15), none⟩])
 (.seq (.ops [⟨(some 16), .mov (.tmp 9), none⟩,
  ⟨(some 17), .ar .i64 .neq (.tmp 16) (.const (.int .i64 0)), none⟩])
 (.cond (.tmp 17) (.seq (.ops [⟨(some 18), .mov (.tmp 9), none⟩,
  ⟨(some 6), .mov (.const (.int .i64 0)), none⟩,
  ⟨(some 7), .mov (.const (.bool false)), none⟩,
  ⟨(some 8), .mov (.tmp 18), none⟩])
 .ret)
 .skip)))
 (.seq (.seq (.ops [⟨(some 19), .mov (.tmp 0), none⟩,
  ⟨(some 20), .mov (.tmp 2), none⟩,
  ⟨(some 21), .call 17 [(.tmp 19), (.tmp 20)], none⟩,
  ⟨(some 10), .mov (.tmp 21), none⟩])
 (.seq (.ops [⟨(some 22), .mov (.tmp 10), none⟩,
  ⟨(some 23), .ar .i64 .neq (.tmp 22) (.const (.int .i64 0)), none⟩])
 (.cond (.tmp 23) (.seq (.ops [⟨(some 24), .mov (.tmp 10), none⟩,
  ⟨(some 6), .mov (.const (.int .i64 0)), none⟩,
  ⟨(some 7), .mov (.const (.bool false)), none⟩,
  ⟨(some 8), .mov (.tmp 24), none⟩])
 .ret)
 .skip)))
 (.seq (.ops [⟨(some 26), .mov (.tmp 0), none⟩,
  ⟨(some 27), .mov (.tmp 1), none⟩,
  ⟨(some 28), .aggr [(.int .i64 0), (.int .i64 0)] [(0, 1, (.tmp 26)), (1, 1, (.tmp 27))], none⟩,
  ⟨(some 29), .mov (.tmp 2), none⟩,
  ⟨(some 30), .call 66 [(.tmp 28), (.tmp 29)], none⟩,
  ⟨(some 25), .mov (.tmp 30), none⟩,
  ⟨(some 31), .ext (.tmp 25) 0, none⟩,
  ⟨(some 32), .ext (.tmp 25) 1, none⟩,
  ⟨(some 11), .mov (.tmp 31), none⟩,
  ⟨(some 12), .mov (.tmp 32), none⟩])
 (.seq (.ops [⟨(some 33), .mov (.tmp 11), none⟩,
  ⟨(some 34), .mov (.tmp 12), none⟩,
  ⟨(some 6), .mov (.tmp 33), none⟩,
  ⟨(some 7), .mov (.tmp 34), none⟩,
  ⟨(some 8), .mov (.const (.int .i64 0)), none⟩])
 .ret)))))
theorem enter30 {xs : List Value} {h : Hp} {Q : Value → Hp → Prop} (hl : xs.length ≤ 35) (w : wq E 35 none c30 (frameOf xs) h [] (leaveQ E [.tmp 6, .tmp 7, .tmp 8] Q)) : CallP E 30 xs h Q :=
  CallP.enterQ (fn := Try.f30) (fn_get Try.func30) (code := Try.f30.body.get rfl) rfl rfl rfl (by kernel_rfl) rfl (fun _ => rfl) hl w
theorem can30 : callable E 30 = true := callable_get Try.func30 rfl rfl

/-- tosher/logs.Power -/
def c31 : C := (.seq (.ops [⟨(some 6), .mov (.const (.int .i64 0)), none⟩,
  ⟨(some 7), .mov (.const (.int .i64 0)), none⟩])
 (.seq (.seq (.ops [⟨(some 9), .mov (.tmp 0), none⟩,
  ⟨(some 10), .mov (.tmp 1), none⟩,
  ⟨(some 11), .call 17 [(.tmp 9), (.tmp 10)], none⟩,
  ⟨(some 8), .mov (.tmp 11), none⟩])
 (.seq (.ops [⟨(some 12), .mov (.tmp 8), none⟩,
  ⟨(some 13), .ar .i64 .neq (.tmp 12) (.const (.int .i64 0)), none⟩])
 (.cond (.tmp 13) (.seq (.ops [⟨(some 14), .mov (.tmp 8), none⟩,
  ⟨(some 6), .mov (.const (.int .i64 0)), none⟩,
  ⟨(some 7), .mov (.tmp 14), none⟩])
 .ret)
 .skip)))
 (.seq (.seq (.ops [⟨(some 15), .mov (.tmp 2), none⟩,
  ⟨(some 16), .ar .i64 .lss (.tmp 15) (.const (.int .i64 0)), none⟩,
  ⟨(some 17), .mov (.tmp 16), none⟩,
  ⟨(some 18), .mov (.tmp 2), (some (17, false))⟩,
  ⟨(some 19), .ar .i64 .gtr (.tmp 18) (.const (.int .i64 1000000000)), (some (17, false))⟩,
  ⟨(some 20), .pick (.tmp 17) (.const (.bool true)) (.tmp 19), none⟩])
 (.cond (.tmp 20) (.seq (.ops [⟨(some 6), .mov (.const (.int .i64 0)), none⟩,
  ⟨(some 7), .mov (.const (.int .i64 1)), none⟩])
 .ret)
 .skip))
 (.seq (.ops [⟨(some 21), .mov (.tmp 0), none⟩,
  ⟨(some 22), .mov (.tmp 1), none⟩,
  ⟨(some 23), .aggr [(.int .i64 0), (.int .i64 0)] [(0, 1, (.tmp 21)), (1, 1, (.tmp 22))], none⟩,
  ⟨(some 24), .mov (.tmp 2), none⟩,
  ⟨(some 25), .call 67 [(.tmp 23), (.tmp 24)], none⟩,
  ⟨(some 6), .mov (.tmp 25), none⟩,
  ⟨(some 7), .mov (.const (.int .i64 0)), none⟩])
 .ret))))
theorem enter31 {xs : List Value} {h : Hp} {Q : Value → Hp → Prop} (hl : xs.length ≤ 26) (w : wq E 26 none c31 (frameOf xs) h [] (leaveQ E [.tmp 6, .tmp 7] Q)) : CallP E 31 xs h Q :=
  CallP.enterQ (fn := Try.f31) (fn_get Try.func31) (code := Try.f31.body.get rfl) rfl rfl rfl (by kernel_rfl) rfl (fun _ => rfl) hl w
theorem can31 : callable E 31 = true := callable_get Try.func31 rfl rfl

/-- tosher/logs.Inverse -/
def c32 : C := (.seq (.ops [⟨(some 4), .mov (.const (.int .i64 0)), none⟩,
  ⟨(some 5), .mov (.const (.int .i64 0)), none⟩])
 (.seq (.seq (.ops [⟨(some 7), .mov (.tmp 0), none⟩,
  ⟨(some 8), .mov (.tmp 1), none⟩,
  ⟨(some 9), .call 17 [(.tmp 7), (.tmp 8)], none⟩,
  ⟨(some 6), .mov (.tmp 9), none⟩])
 (.seq (.ops [⟨(some 10), .mov (.tmp 6), none⟩,
  ⟨(some 11), .ar .i64 .neq (.tmp 10) (.const (.int .i64 0)), none⟩])
 (.cond (.tmp 11) (.seq (.ops [⟨(some 12), .mov (.tmp 6), none⟩,
  ⟨(some 4), .mov (.const (.int .i64 0)), none⟩,
  ⟨(some 5), .mov (.tmp 12), none⟩])
 .ret)
 .skip)))
 (.seq (.ops [⟨(some 13), .mov (.tmp 0), none⟩,
  ⟨(some 14), .mov (.tmp 1), none⟩,
  ⟨(some 15), .aggr [(.int .i64 0), (.int .i64 0)] [(0, 1, (.tmp 13)), (1, 1, (.tmp 14))], none⟩,
  ⟨(some 16), .call 68 [(.tmp 15)], none⟩,
  ⟨(some 4), .mov (.tmp 16), none⟩,
  ⟨(some 5), .mov (.const (.int .i64 0)), none⟩])
 .ret)))
theorem enter32 {xs : List Value} {h : Hp} {Q : Value → Hp → Prop} (hl : xs.length ≤ 17) (w : wq E 17 none c32 (frameOf xs) h [] (leaveQ E [.tmp 4, .tmp 5] Q)) : CallP E 32 xs h Q :=
  CallP.enterQ (fn := Try.f32) (fn_get Try.func32) (code := Try.f32.body.get rfl) rfl rfl rfl (by kernel_rfl) rfl (fun _ => rfl) hl w
theorem can32 : callable E 32 = true := callable_get Try.func32 rfl rfl

/-- tosher/logs.Roots -/
def c33 : C := (.seq (.ops [⟨(some 6), .mov (.const (.int .i64 0)), none⟩,
  ⟨(some 7), .mov (.const (.int .i64 0)), none⟩])
 (.seq (.seq (.ops [⟨(some 9), .mov (.tmp 0), none⟩,
  ⟨(some 10), .mov (.tmp 1), none⟩,
  ⟨(some 11), .call 17 [(.tmp 9), (.tmp 10)], none⟩,
  ⟨(some 8), .mov (.tmp 11), none⟩])
 (.seq (.ops [⟨(some 12), .mov (.tmp 8), none⟩,
  ⟨(some 13), .ar .i64 .neq (.tmp 12) (.const (.int .i64 0)), none⟩])
 (.cond (.tmp 13) (.seq (.ops [⟨(some 14), .mov (.tmp 8), none⟩,
  ⟨(some 6), .mov (.const (.int .i64 0)), none⟩,
  ⟨(some 7), .mov (.tmp 14), none⟩])
 .ret)
 .skip)))
 (.seq (.seq (.ops [⟨(some 15), .mov (.tmp 2), none⟩,
  ⟨(some 16), .ar .i64 .lss (.tmp 15) (.const (.int .i64 1)), none⟩,
  ⟨(some 17), .mov (.tmp 16), none⟩,
  ⟨(some 18), .mov (.tmp 2), (some (17, false))⟩,
  ⟨(some 19), .ar .i64 .gtr (.tmp 18) (.const (.int .i64 100)), (some (17, false))⟩,
  ⟨(some 20), .pick (.tmp 17) (.const (.bool true)) (.tmp 19), none⟩])
 (.cond (.tmp 20) (.seq (.ops [⟨(some 6), .mov (.const (.int .i64 0)), none⟩,
  ⟨(some 7), .mov (.const (.int .i64 1)), none⟩])
 .ret)
 .skip))
 (.seq (.ops [⟨(some 21), .mov (.tmp 0), none⟩,
  ⟨(some 22), .mov (.tmp 1), none⟩,
  ⟨(some 23), .mov (.tmp 2), none⟩,
  ⟨(some 24), .call 69 [(.tmp 21), (.tmp 22), (.tmp 23)], none⟩,
  ⟨(some 6), .mov (.tmp 24), none⟩,
  ⟨(some 7), .mov (.const (.int .i64 0)), none⟩])
 .ret))))
theorem enter33 {xs : List Value} {h : Hp} {Q : Value → Hp → Prop} (hl : xs.length ≤ 25) (w : wq E 25 none c33 (frameOf xs) h [] (leaveQ E [.tmp 6, .tmp 7] Q)) : CallP E 33 xs h Q :=
  CallP.enterQ (fn := Try.f33) (fn_get Try.func33) (code := Try.f33.body.get rfl) rfl rfl rfl (by kernel_rfl) rfl (fun _ => rfl) hl w
theorem can33 : callable E 33 = true := callable_get Try.func33 rfl rfl

/-- tosher/logs.Root -/
def c34 : C := (.seq (.ops [⟨(some 6), .mov (.const (.int .i64 0)), none⟩,
  ⟨(some 7), .mov (.const (.bool false)), none⟩,
  ⟨(some 8), .mov (.const (.int .i64 0)), none⟩])
 (.seq (.ops [⟨(some 13), .mov (.tmp 0), none⟩,
  ⟨(some 14), .mov (.tmp 1), none⟩,
  ⟨(some 15), .mov (.tmp 2), none⟩,
  ⟨(some 16), .call 33 [(.tmp 13), (.tmp 14), (.tmp 15)], none⟩,
  ⟨(some 12), .mov (.tmp 16), none⟩,
  ⟨(some 17), .ext (.tmp 12) 0, none⟩,
  ⟨(some 18), .ext (.tmp 12) 1, none⟩,
  ⟨(some 9), .mov (.tmp 17), none⟩,
  ⟨(some 10), .mov (.tmp 18), none⟩])
 (.seq (.seq (.ops [⟨(some 19), .mov (.tmp 10), none⟩,
  ⟨(some 20), .ar .i64 .neq (.tmp 19) (.const (.int .i64 0)), none⟩,
  ⟨(some 21), .mov (.tmp 20), none⟩,
  ⟨(some 22), .mov (.tmp 9), (some (21, false))⟩,
  ⟨(some 23), .ar .i64 .eql (.tmp 22) (.const (.int .i64 0)), (some (21, false))⟩,
  ⟨(some 24), .pick (.tmp 21) (.const (.bool true)) (.tmp 23), none⟩])
 (.cond (.tmp 24) (.seq (.ops [⟨(some 25), .mov (.tmp 10), none⟩,
  ⟨(some 6), .mov (.const (.int .i64 0)), none⟩,
  ⟨(some 7), .mov (.const (.bool false)), none⟩,
  ⟨(some 8), .mov (.tmp 25), none⟩])
 .ret)
 .skip))
 (.seq (.seq (.ops [⟨(some 26), .mov (.tmp 0), none⟩,
  ⟨(some 27), .mov (.const (.int .i64 0)), none⟩])
 (.block 0 (.loop (.seq (.ops [⟨(some 28), .ar .i64 .lss (.tmp 27) (.tmp 26), none⟩])
 (.seq (.cond (.tmp 28) .skip
 (.exit 0))
 (.seq (.block 1 (.seq (.ops [⟨(some 29), .mov (.tmp 27), none⟩,
  ⟨(some 11), .mov (.tmp 29), none⟩])
 (.seq (.ops [⟨(some 30), .mov (.tmp 0), none⟩,
  ⟨(some 31), .mov (.tmp 11), none⟩,
  ⟨(some 32), .aggr [(.int .i64 0), (.int .i64 0)] [(0, 1, (.tmp 30)), (1, 1, (.tmp 31))], none⟩,
  ⟨(some 33), .mov (.tmp 2), none⟩,
  ⟨(some 34), .call 67 [(.tmp 32), (.tmp 33)], none⟩,
  ⟨(some 35), .mov (.tmp 1), none⟩,
  ⟨(some 36), .ar .i64 .eql (.tmp 34) (.tmp 35), none⟩])
 (.cond (.tmp 36) (.seq (.ops [⟨(some 37), .mov (.tmp 11), none⟩,
  ⟨(some 6), .mov (.tmp 37), none⟩,
  ⟨(some 7), .mov (.const (.bool true)), none⟩,
  ⟨(some 8), .mov (.const (.int .i64 0)), none⟩])
 .ret)
 .skip))))
 (.ops [⟨(some 38), .ar .i64 .add (.tmp 27) (.const (.int .i64 1)), none⟩,
  ⟨(some 27), .mov (.tmp 38), none⟩])))))))
 (.seq (.ops [⟨(some 6), .mov (.const (.int .i64 0)), none⟩,
  ⟨(some 7), .mov (.const (.bool false)), none⟩,
  ⟨(some 8), .mov (.const (.int .i64 0)), none⟩])
 .ret)))))
theorem enter34 {xs : List Value} {h : Hp} {Q : Value → Hp → Prop} (hl : xs.length ≤ 39) (w : wq E 39 none c34 (frameOf xs) h [] (leaveQ E [.tmp 6, .tmp 7, .tmp 8] Q)) : CallP E 34 xs h Q :=
  CallP.enterQ (fn := Try.f34) (fn_get Try.func34) (code := Try.f34.body.get rfl) rfl rfl rfl (by kernel_rfl) rfl (fun _ => rfl) hl w
theorem can34 : callable E 34 = true := callable_get Try.func34 rfl rfl

/-- tosher/tosherlaw07.unit -/
def c35 : C := (.seq (.ops [⟨(some 4), .mov (.const (.int .i64 0)), none⟩])
 (.seq (.ops [⟨(some 5), .mov (.tmp 1), none⟩,
  ⟨(some 6), .cint .u64 (.tmp 5), none⟩,
  ⟨(some 7), .mov (.tmp 0), none⟩,
  ⟨(some 8), .cint .u64 (.tmp 7), none⟩,
  ⟨(some 9), .ar .u64 .rem (.tmp 6) (.tmp 8), none⟩,
  ⟨(some 10), .cint .i64 (.tmp 9), none⟩,
  ⟨(some 1), .mov (.tmp 10), none⟩])
 (.seq (.block 0 (.loop (.seq (.seq (.ops [⟨(some 11), .mov (.tmp 0), none⟩,
  ⟨(some 12), .mov (.tmp 1), none⟩,
  ⟨(some 13), .call 49 [(.tmp 11), (.tmp 12)], none⟩,
  ⟨(some 14), .ar .i64 .neq (.tmp 13) (.const (.int .i64 1)), none⟩])
 (.cond (.tmp 14) .skip
 (.exit 0)))
 (.block 1 (.ops [⟨(some 15), .mov (.tmp 1), none⟩,
  ⟨(some 16), .ar .i64 .add (.tmp 15) (.const (.int .i64 1)), none⟩,
  ⟨(some 17), .mov (.tmp 0), none⟩,
  ⟨(some 18), .ar .i64 .rem (.tmp 16) (.tmp 17), none⟩,
  ⟨(some 1), .mov (.tmp 18), none⟩])))))
 (.seq (.ops [⟨(some 19), .mov (.tmp 1), none⟩,
  ⟨(some 4), .mov (.tmp 19), none⟩])
 .ret))))
theorem enter35 {xs : List Value} {h : Hp} {Q : Value → Hp → Prop} (hl : xs.length ≤ 20) (w : wq E 20 none c35 (frameOf xs) h [] (leaveQ E [.tmp 4] Q)) : CallP E 35 xs h Q :=
  CallP.enterQ (fn := Try.f35) (fn_get Try.func35) (code := Try.f35.body.get rfl) rfl rfl rfl (by kernel_rfl) rfl (fun _ => rfl) hl w
theorem can35 : callable E 35 = true := callable_get Try.func35 rfl rfl

/-- tosher/tosherlaw07.modulus -/
def c36 : C := (.seq (.ops [⟨(some 4), .mov (.const (.int .i64 0)), none⟩])
 (.seq (.ops [⟨(some 5), .mov (.tmp 0), none⟩,
  ⟨(some 6), .cint .u64 (.tmp 5), none⟩,
  ⟨(some 7), .mov (.tmp 1), none⟩,
  ⟨(some 8), .cint .u64 (.tmp 7), none⟩,
  ⟨(some 9), .ar .u64 .rem (.tmp 6) (.tmp 8), none⟩,
  ⟨(some 10), .cint .i64 (.tmp 9), none⟩,
  ⟨(some 11), .ar .i64 .add (.const (.int .i64 1)) (.tmp 10), none⟩,
  ⟨(some 4), .mov (.tmp 11), none⟩])
 .ret))
theorem enter36 {xs : List Value} {h : Hp} {Q : Value → Hp → Prop} (hl : xs.length ≤ 12) (w : wq E 12 none c36 (frameOf xs) h [] (leaveQ E [.tmp 4] Q)) : CallP E 36 xs h Q :=
  CallP.enterQ (fn := Try.f36) (fn_get Try.func36) (code := Try.f36.body.get rfl) rfl rfl rfl (by kernel_rfl) rfl (fun _ => rfl) hl w
theorem can36 : callable E 36 = true := callable_get Try.func36 rfl rfl

/-- tosher/tosherref07.Order -/
def c37 : C := (.seq (.ops [⟨(some 4), .mov (.const (.int .i64 0)), none⟩])
 (.seq (.ops [⟨(some 7), .mov (.tmp 1), none⟩,
  ⟨(some 5), .mov (.tmp 7), none⟩,
  ⟨(some 6), .mov (.const (.int .i64 1)), none⟩])
 (.seq (.block 0 (.loop (.seq (.seq (.ops [⟨(some 8), .mov (.tmp 5), none⟩,
  ⟨(some 9), .mov (.tmp 0), none⟩,
  ⟨(some 10), .ar .i64 .rem (.const (.int .i64 1)) (.tmp 9), none⟩,
  ⟨(some 11), .ar .i64 .neq (.tmp 8) (.tmp 10), none⟩])
 (.cond (.tmp 11) .skip
 (.exit 0)))
 (.block 1 (.seq (.ops [⟨(some 12), .mov (.tmp 5), none⟩,
  ⟨(some 13), .mov (.tmp 1), none⟩,
  ⟨(some 14), .ar .i64 .mul (.tmp 12) (.tmp 13), none⟩,
  ⟨(some 15), .mov (.tmp 0), none⟩,
  ⟨(some 16), .ar .i64 .rem (.tmp 14) (.tmp 15), none⟩,
  ⟨(some 5), .mov (.tmp 16), none⟩])
 (.ops [⟨(some 17), .mov (.tmp 6), none⟩,
  ⟨(some 18), .ar .i64 .add (.tmp 17) (.const (.int .i64 1)), none⟩,
  ⟨(some 6), .mov (.tmp 18), none⟩]))))))
 (.seq (.ops [⟨(some 19), .mov (.tmp 6), none⟩,
  ⟨(some 4), .mov (.tmp 19), none⟩])
 .ret))))
theorem enter37 {xs : List Value} {h : Hp} {Q : Value → Hp → Prop} (hl : xs.length ≤ 20) (w : wq E 20 none c37 (frameOf xs) h [] (leaveQ E [.tmp 4] Q)) : CallP E 37 xs h Q :=
  CallP.enterQ (fn := Try.f37) (fn_get Try.func37) (code := Try.f37.body.get rfl) rfl rfl rfl (by kernel_rfl) rfl (fun _ => rfl) hl w
theorem can37 : callable E 37 = true := callable_get Try.func37 rfl rfl

/-- tosher/tosherref07.Power -/
def c38 : C := (.seq (.ops [⟨(some 6), .mov (.const (.int .i64 0)), none⟩])
 (.seq (.ops [⟨(some 8), .mov (.tmp 0), none⟩,
  ⟨(some 9), .ar .i64 .rem (.const (.int .i64 1)) (.tmp 8), none⟩,
  ⟨(some 7), .mov (.tmp 9), none⟩])
 (.seq (.seq (.ops [⟨(some 10), .mov (.tmp 1), none⟩,
  ⟨(some 11), .mov (.tmp 0), none⟩,
  ⟨(some 12), .ar .i64 .rem (.tmp 10) (.tmp 11), none⟩,
  ⟨(some 1), .mov (.tmp 12), none⟩])
 (.block 0 (.loop (.seq (.seq (.ops [⟨(some 13), .mov (.tmp 2), none⟩,
  ⟨(some 14), .ar .i64 .gtr (.tmp 13) (.const (.int .i64 0)), none⟩])
 (.cond (.tmp 14) .skip
 (.exit 0)))
 (.seq (.block 1 (.seq (.seq (.ops [⟨(some 17), .mov (.tmp 2), none⟩,
  ⟨(some 18), .ar .i64 .rem (.tmp 17) (.const (.int .i64 2)), none⟩,
  ⟨(some 19), .ar .i64 .eql (.tmp 18) (.const (.int .i64 1)), none⟩])
 (.cond (.tmp 19) (.ops [⟨(some 20), .mov (.tmp 7), none⟩,
  ⟨(some 21), .mov (.tmp 1), none⟩,
  ⟨(some 22), .ar .i64 .mul (.tmp 20) (.tmp 21), none⟩,
  ⟨(some 23), .mov (.tmp 0), none⟩,
  ⟨(some 24), .ar .i64 .rem (.tmp 22) (.tmp 23), none⟩,
  ⟨(some 7), .mov (.tmp 24), none⟩])
 .skip))
 (.ops [⟨(some 25), .mov (.tmp 1), none⟩,
  ⟨(some 26), .mov (.tmp 1), none⟩,
  ⟨(some 27), .ar .i64 .mul (.tmp 25) (.tmp 26), none⟩,
  ⟨(some 28), .mov (.tmp 0), none⟩,
  ⟨(some 29), .ar .i64 .rem (.tmp 27) (.tmp 28), none⟩,
  ⟨(some 1), .mov (.tmp 29), none⟩])))
 (.ops [⟨(some 15), .mov (.tmp 2), none⟩,
  ⟨(some 16), .ar .i64 .quo (.tmp 15) (.const (.int .i64 2)), none⟩,
  ⟨(some 2), .mov (.tmp 16), none⟩]))))))
 (.seq (.ops [⟨(some 30), .mov (.tmp 7), none⟩,
  ⟨(some 6), .mov (.tmp 30), none⟩])
 .ret))))
theorem enter38 {xs : List Value} {h : Hp} {Q : Value → Hp → Prop} (hl : xs.length ≤ 31) (w : wq E 31 none c38 (frameOf xs) h [] (leaveQ E [.tmp 6] Q)) : CallP E 38 xs h Q :=
  CallP.enterQ (fn := Try.f38) (fn_get Try.func38) (code := Try.f38.body.get rfl) rfl rfl rfl (by kernel_rfl) rfl (fun _ => rfl) hl w
theorem can38 : callable E 38 = true := callable_get Try.func38 rfl rfl

/-- tosher/tosherref07.Log -/
def c46 : C := (.seq (.ops [⟨(some 6), .mov (.const (.int .i64 0)), none⟩])
 (.seq (.ops [⟨(some 9), .mov (.tmp 0), none⟩,
  ⟨(some 10), .ar .i64 .rem (.const (.int .i64 1)) (.tmp 9), none⟩,
  ⟨(some 7), .mov (.tmp 10), none⟩])
 (.seq (.seq (.ops [⟨(some 8), .mov (.const (.int .i64 0)), none⟩])
 (.block 0 (.loop (.seq (.seq (.ops [⟨(some 11), .mov (.tmp 8), none⟩,
  ⟨(some 12), .mov (.tmp 0), none⟩,
  ⟨(some 13), .ar .i64 .lss (.tmp 11) (.tmp 12), none⟩])
 (.cond (.tmp 13) .skip
 (.exit 0)))
 (.seq (.block 1 (.seq (.seq (.ops [⟨(some 16), .mov (.tmp 7), none⟩,
  ⟨(some 17), .mov (.tmp 2), none⟩,
  ⟨(some 18), .ar .i64 .eql (.tmp 16) (.tmp 17), none⟩])
 (.cond (.tmp 18) (.seq (.ops [⟨(some 19), .mov (.tmp 8), none⟩,
  ⟨(some 6), .mov (.tmp 19), none⟩])
 .ret)
 .skip))
 (.seq (.ops [⟨(some 20), .mov (.tmp 7), none⟩,
  ⟨(some 21), .mov (.tmp 1), none⟩,
  ⟨(some 22), .ar .i64 .mul (.tmp 20) (.tmp 21), none⟩,
  ⟨(some 23), .mov (.tmp 0), none⟩,
  ⟨(some 24), .ar .i64 .rem (.tmp 22) (.tmp 23), none⟩,
  ⟨(some 7), .mov (.tmp 24), none⟩])
 (.seq (.ops [⟨(some 25), .mov (.tmp 7), none⟩,
  ⟨(some 26), .mov (.tmp 0), none⟩,
  ⟨(some 27), .ar .i64 .rem (.const (.int .i64 1)) (.tmp 26), none⟩,
  ⟨(some 28), .ar .i64 .eql (.tmp 25) (.tmp 27), none⟩])
 (.cond (.tmp 28) (.seq (.ops [⟨(some 6), .mov (.const (.int .i64 (-1))), none⟩])
 .ret)
 .skip)))))
 (.ops [⟨(some 14), .mov (.tmp 8), none⟩,
  ⟨(some 15), .ar .i64 .add (.tmp 14) (.const (.int .i64 1)), none⟩,
  ⟨(some 8), .mov (.tmp 15), none⟩]))))))
 (.seq (.ops [⟨(some 6), .mov (.const (.int .i64 (-1))), none⟩])
 .ret))))
theorem enter46 {xs : List Value} {h : Hp} {Q : Value → Hp → Prop} (hl : xs.length ≤ 29) (w : wq E 29 none c46 (frameOf xs) h [] (leaveQ E [.tmp 6] Q)) : CallP E 46 xs h Q :=
  CallP.enterQ (fn := Try.f46) (fn_get Try.func46) (code := Try.f46.body.get rfl) rfl rfl rfl (by kernel_rfl) rfl (fun _ => rfl) hl w
theorem can46 : callable E 46 = true := callable_get Try.func46 rfl rfl

/-- tosher/tosherref07.Gcd -/
def c49 : C := (.seq (.ops [⟨(some 4), .mov (.const (.int .i64 0)), none⟩])
 (.seq (.block 0 (.loop (.seq (.seq (.ops [⟨(some 5), .mov (.tmp 1), none⟩,
  ⟨(some 6), .ar .i64 .gtr (.tmp 5) (.const (.int .i64 0)), none⟩])
 (.cond (.tmp 6) .skip
 (.exit 0)))
 (.block 1 (.ops [⟨(some 7), .mov (.tmp 1), none⟩,
  ⟨(some 8), .mov (.tmp 0), none⟩,
  ⟨(some 9), .mov (.tmp 1), none⟩,
  ⟨(some 10), .ar .i64 .rem (.tmp 8) (.tmp 9), none⟩,
  ⟨(some 0), .mov (.tmp 7), none⟩,
  ⟨(some 1), .mov (.tmp 10), none⟩])))))
 (.seq (.ops [⟨(some 11), .mov (.tmp 0), none⟩,
  ⟨(some 4), .mov (.tmp 11), none⟩])
 .ret)))
theorem enter49 {xs : List Value} {h : Hp} {Q : Value → Hp → Prop} (hl : xs.length ≤ 12) (w : wq E 12 none c49 (frameOf xs) h [] (leaveQ E [.tmp 4] Q)) : CallP E 49 xs h Q :=
  CallP.enterQ (fn := Try.f49) (fn_get Try.func49) (code := Try.f49.body.get rfl) rfl rfl rfl (by kernel_rfl) rfl (fun _ => rfl) hl w
theorem can49 : callable E 49 = true := callable_get Try.func49 rfl rfl

/-- tosher/logs.isModulus -/
def c53 : C := (.seq (.ops [⟨(some 2), .mov (.const (.bool false)), none⟩])
 (.seq (.ops [⟨(some 3), .mov (.tmp 0), none⟩,
  ⟨(some 4), .ar .i64 .geq (.tmp 3) (.const (.int .i64 1)), none⟩,
  ⟨(some 5), .mov (.tmp 4), none⟩,
  ⟨(some 6), .mov (.tmp 0), (some (5, true))⟩,
  ⟨(some 7), .ar .i64 .leq (.tmp 6) (.const (.int .i64 1000000)), (some (5, true))⟩,
  ⟨(some 8), .pick (.tmp 5) (.tmp 7) (.const (.bool false)), none⟩,
  ⟨(some 2), .mov (.tmp 8), none⟩])
 .ret))
theorem enter53 {xs : List Value} {h : Hp} {Q : Value → Hp → Prop} (hl : xs.length ≤ 9) (w : wq E 9 none c53 (frameOf xs) h [] (leaveQ E [.tmp 2] Q)) : CallP E 53 xs h Q :=
  CallP.enterQ (fn := Try.f53) (fn_get Try.func53) (code := Try.f53.body.get rfl) rfl rfl rfl (by kernel_rfl) rfl (fun _ => rfl) hl w
theorem can53 : callable E 53 = true := callable_get Try.func53 rfl rfl

/-- tosher/logs.isUnit -/
def c54 : C := (.seq (.ops [⟨(some 4), .mov (.const (.bool false)), none⟩])
 (.seq (.ops [⟨(some 5), .mov (.tmp 1), none⟩,
  ⟨(some 6), .ar .i64 .geq (.tmp 5) (.const (.int .i64 0)), none⟩,
  ⟨(some 7), .mov (.tmp 6), none⟩,
  ⟨(some 8), .mov (.tmp 1), (some (7, true))⟩,
  ⟨(some 9), .mov (.tmp 0), (some (7, true))⟩,
  ⟨(some 10), .ar .i64 .lss (.tmp 8) (.tmp 9), (some (7, true))⟩,
  ⟨(some 11), .pick (.tmp 7) (.tmp 10) (.const (.bool false)), none⟩,
  ⟨(some 12), .mov (.tmp 11), none⟩,
  ⟨(some 13), .mov (.tmp 1), (some (12, true))⟩,
  ⟨(some 14), .mov (.tmp 0), (some (12, true))⟩,
  ⟨(some 15), .slit 3 2 [(.int .i64 0), (.int .i64 0)] [(0, 1, (.tmp 13)), (1, 1, (.tmp 14))], (some (12, true))⟩,
  ⟨(some 16), .call 57 [(.tmp 15)], (some (12, true))⟩,
  ⟨(some 17), .ar .i64 .eql (.tmp 16) (.const (.int .i64 1)), (some (12, true))⟩,
  ⟨(some 18), .pick (.tmp 12) (.tmp 17) (.const (.bool false)), none⟩,
  ⟨(some 4), .mov (.tmp 18), none⟩])
 .ret))
theorem enter54 {xs : List Value} {h : Hp} {Q : Value → Hp → Prop} (hl : xs.length ≤ 19) (w : wq E 19 none c54 (frameOf xs) h [] (leaveQ E [.tmp 4] Q)) : CallP E 54 xs h Q :=
  CallP.enterQ (fn := Try.f54) (fn_get Try.func54) (code := Try.f54.body.get rfl) rfl rfl rfl (by kernel_rfl) rfl (fun _ => rfl) hl w
theorem can54 : callable E 54 = true := callable_get Try.func54 rfl rfl

/-- tosher/logs.units -/
def c55 : C := (.seq (.ops [⟨(some 1), .box 3 (.tmp 0), none⟩,
  ⟨(some 2), .mov (.const (.int .i64 0)), none⟩])
 (.seq (.seq (.ops [⟨(some 4), .load1 (.tmp 1), none⟩,
  ⟨(some 5), .call 62 [(.tmp 4)], none⟩])
 (.block 0 (.range (.tmp 5) ⟨[6]⟩ (.ops [⟨(some 3), .alloc 63 [(.int .i64 0), (.int .i64 0)], none⟩,
  ⟨none, .store 2 (.tmp 3) (.tmp 6), none⟩])
 (.block 1 (.ops [⟨(some 7), .load1 (.tmp 1), none⟩,
  ⟨(some 8), .fldA 0 (.tmp 3), none⟩,
  ⟨(some 9), .load1 (.tmp 8), none⟩,
  ⟨(some 10), .ar .i64 .quo (.tmp 7) (.tmp 9), none⟩,
  ⟨(some 11), .fldA 0 (.tmp 3), none⟩,
  ⟨(some 12), .load1 (.tmp 11), none⟩,
  ⟨(some 13), .ar .i64 .sub (.tmp 12) (.const (.int .i64 1)), none⟩,
  ⟨(some 14), .ar .i64 .mul (.tmp 10) (.tmp 13), none⟩,
  ⟨none, .store 1 (.tmp 1) (.tmp 14), none⟩])))))
 (.seq (.ops [⟨(some 15), .load1 (.tmp 1), none⟩,
  ⟨(some 2), .mov (.tmp 15), none⟩])
 .ret)))
theorem enter55 {xs : List Value} {h : Hp} {Q : Value → Hp → Prop} (hl : xs.length ≤ 16) (w : wq E 16 none c55 (frameOf xs) h [] (leaveQ E [.tmp 2] Q)) : CallP E 55 xs h Q :=
  CallP.enterQ (fn := Try.f55) (fn_get Try.func55) (code := Try.f55.body.get rfl) rfl rfl rfl (by kernel_rfl) rfl (fun _ => rfl) hl w
theorem can55 : callable E 55 = true := callable_get Try.func55 rfl rfl

/-- tosher/logs.divisor[int] -/
def c57 : C := (.seq (.ops [⟨(some 2), .mov (.const (.int .i64 0)), none⟩])
 (.seq (.ops [⟨(some 3), .mov (.const (.int .i64 0)), none⟩])
 (.seq (.seq (.ops [⟨(some 6), .mov (.tmp 0), none⟩,
  ⟨(some 7), .lenS (.tmp 6), none⟩,
  ⟨(some 8), .mov (.const (.int .i64 0)), none⟩])
 (.block 0 (.loop (.seq (.ops [⟨(some 9), .ar .i64 .lss (.tmp 8) (.tmp 7), none⟩])
 (.seq (.cond (.tmp 9) .skip
 (.exit 0))
 (.seq (.block 1 (.seq (.ops [⟨(some 10), .idxS 1 (.tmp 6) (.tmp 8), none⟩,
  ⟨(some 11), .load1 (.tmp 10), none⟩,
  ⟨(some 5), .mov (.tmp 11), none⟩])
 (.block 2 (.loop (.seq (.seq (.ops [⟨(some 12), .mov (.tmp 5), none⟩,
  ⟨(some 13), .ar .i64 .neq (.tmp 12) (.const (.int .i64 0)), none⟩])
 (.cond (.tmp 13) .skip
 (.exit 2)))
 (.block 3 (.ops [⟨(some 14), .mov (.tmp 5), none⟩,
  ⟨(some 15), .mov (.tmp 3), none⟩,
  ⟨(some 16), .mov (.tmp 5), none⟩,
  ⟨(some 17), .ar .i64 .rem (.tmp 15) (.tmp 16), none⟩,
  ⟨(some 3), .mov (.tmp 14), none⟩,
  ⟨(some 5), .mov (.tmp 17), none⟩])))))))
 (.ops [⟨(some 18), .ar .i64 .add (.tmp 8) (.const (.int .i64 1)), none⟩,
  ⟨(some 8), .mov (.tmp 18), none⟩])))))))
 (.seq (.ops [⟨(some 19), .mov (.tmp 3), none⟩,
  ⟨(some 2), .mov (.tmp 19), none⟩])
 .ret))))
theorem enter57 {xs : List Value} {h : Hp} {Q : Value → Hp → Prop} (hl : xs.length ≤ 20) (w : wq E 20 none c57 (frameOf xs) h [] (leaveQ E [.tmp 2] Q)) : CallP E 57 xs h Q :=
  CallP.enterQ (fn := Try.f57) (fn_get Try.func57) (code := Try.f57.body.get rfl) rfl rfl rfl (by kernel_rfl) rfl (fun _ => rfl) hl w
theorem can57 : callable E 57 = true := callable_get Try.func57 rfl rfl

/-- tosher/logs.factors -/
def c62 : C := (.seq (.ops [⟨(some 1), .box 3 (.tmp 0), none⟩,
  ⟨(some 2), .mov (.const .nilFunc), none⟩])
 (.seq (.ops [⟨(some 3), .func (.func 79) [] [(.tmp 1)], none⟩,
  ⟨(some 2), .mov (.tmp 3), none⟩])
 .ret))
theorem enter62 {xs : List Value} {h : Hp} {Q : Value → Hp → Prop} (hl : xs.length ≤ 4) (w : wq E 4 none c62 (frameOf xs) h [] (leaveQ E [.tmp 2] Q)) : CallP E 62 xs h Q :=
  CallP.enterQ (fn := Try.f62) (fn_get Try.func62) (code := Try.f62.body.get rfl) rfl rfl rfl (by kernel_rfl) rfl (fun _ => rfl) hl w
theorem can62 : callable E 62 = true := callable_get Try.func62 rfl rfl

/-- (tosher/logs.base).order -/
def c65 : C := (.seq (.ops [⟨(some 1), .box 65 (.tmp 0), none⟩,
  ⟨(some 2), .mov (.const (.int .i64 0)), none⟩])
 (.seq (.ops [⟨(some 7), .fldA 0 (.tmp 1), none⟩,
  ⟨(some 8), .load1 (.tmp 7), none⟩,
  ⟨(some 9), .call 55 [(.tmp 8)], none⟩,
  ⟨(some 3), .alloc 3 [(.int .i64 0)], none⟩,
  ⟨none, .store 1 (.tmp 3) (.tmp 9), none⟩])
 (.seq (.ops [⟨(some 10), .loadN 2 (.tmp 1), none⟩,
  ⟨(some 11), .func (.func 67) [(.tmp 10)] [], none⟩,
  ⟨(some 4), .alloc 43 [.nilFunc], none⟩,
  ⟨none, .store 1 (.tmp 4) (.tmp 11), none⟩])
 (.seq (.ops [⟨(some 12), .func (.func 80) [] [(.tmp 3), (.tmp 4), (.tmp 1)], none⟩,
  ⟨(some 5), .alloc 77 [.nilFunc], none⟩,
  ⟨none, .store 1 (.tmp 5) (.tmp 12), none⟩])
 (.seq (.seq (.ops [⟨(some 13), .load1 (.tmp 3), none⟩,
  ⟨(some 14), .call 62 [(.tmp 13)], none⟩])
 (.block 0 (.range (.tmp 14) ⟨[15]⟩ (.ops [⟨(some 6), .alloc 63 [(.int .i64 0), (.int .i64 0)], none⟩,
  ⟨none, .store 2 (.tmp 6) (.tmp 15), none⟩])
 (.block 1 (.ops [⟨(some 16), .load1 (.tmp 5), none⟩,
  ⟨(some 17), .fldA 0 (.tmp 6), none⟩,
  ⟨(some 18), .load1 (.tmp 17), none⟩,
  ⟨(some 19), .callv (.tmp 16) [(.tmp 18)], none⟩])))))
 (.seq (.ops [⟨(some 20), .load1 (.tmp 3), none⟩,
  ⟨(some 2), .mov (.tmp 20), none⟩])
 .ret))))))
theorem enter65 {xs : List Value} {h : Hp} {Q : Value → Hp → Prop} (hl : xs.length ≤ 21) (w : wq E 21 none c65 (frameOf xs) h [] (leaveQ E [.tmp 2] Q)) : CallP E 65 xs h Q :=
  CallP.enterQ (fn := Try.f65) (fn_get Try.func65) (code := Try.f65.body.get rfl) rfl rfl rfl (by kernel_rfl) rfl (fun _ => rfl) hl w
theorem can65 : callable E 65 = true := callable_get Try.func65 rfl rfl

/-- (tosher/logs.base).log -/
def c66 : C := (.seq (.ops [⟨(some 2), .box 65 (.tmp 0), none⟩,
  ⟨(some 4), .mov (.const (.int .i64 0)), none⟩,
  ⟨(some 5), .mov (.const (.bool false)), none⟩])
 (.scope (.seq (.ops [⟨(some 19), .loadN 2 (.tmp 2), none⟩,
  ⟨(some 20), .call 65 [(.tmp 19)], none⟩,
  ⟨(some 6), .mov (.tmp 20), none⟩])
 (.seq (.ops [⟨(some 7), .mov (.const (.int .i64 1)), none⟩])
 (.seq (.block 0 (.loop (.seq (.seq (.ops [⟨(some 21), .mov (.tmp 7), none⟩,
  ⟨(some 22), .mov (.tmp 7), none⟩,
  ⟨(some 23), .ar .i64 .mul (.tmp 21) (.tmp 22), none⟩,
  ⟨(some 24), .mov (.tmp 6), none⟩,
  ⟨(some 25), .ar .i64 .lss (.tmp 23) (.tmp 24), none⟩])
 (.cond (.tmp 25) .skip
 (.exit 0)))
 (.block 1 (.ops [⟨(some 26), .mov (.tmp 7), none⟩,
  ⟨(some 27), .ar .i64 .add (.tmp 26) (.const (.int .i64 1)), none⟩,
  ⟨(some 7), .mov (.tmp 27), none⟩])))))
 (.seq (.ops [⟨(some 28), .newMap, none⟩,
  ⟨(some 8), .mov (.tmp 28), none⟩])
 (.seq (.ops [⟨(some 29), .fldA 0 (.tmp 2), none⟩,
  ⟨(some 30), .load1 (.tmp 29), none⟩,
  ⟨(some 31), .ar .i64 .rem (.const (.int .i64 1)) (.tmp 30), none⟩,
  ⟨(some 9), .mov (.tmp 31), none⟩])
 (.seq (.seq (.ops [⟨(some 32), .mov (.tmp 7), none⟩,
  ⟨(some 33), .mov (.const (.int .i64 0)), none⟩])
 (.block 2 (.loop (.seq (.ops [⟨(some 34), .ar .i64 .lss (.tmp 33) (.tmp 32), none⟩])
 (.seq (.cond (.tmp 34) .skip
 (.exit 2))
 (.seq (.block 3 (.seq (.ops [⟨(some 35), .mov (.tmp 33), none⟩,
  ⟨(some 10), .mov (.tmp 35), none⟩])
 (.seq (.seq (.ops [⟨(some 37), .mov (.tmp 8), none⟩,
  ⟨(some 38), .mov (.tmp 9), none⟩,
  ⟨(some 39), .raw (.lookup 78 (.tmp 37) (.tmp 38) true) 67, none⟩,
  ⟨(some 36), .mov (.tmp 39), none⟩,
  ⟨(some 40), .ext (.tmp 36) 0, none⟩,
  ⟨(some 41), .ext (.tmp 36) 1, none⟩,
  ⟨(some 11), .mov (.tmp 40), none⟩,
  ⟨(some 12), .mov (.tmp 41), none⟩])
 (.seq (.ops [⟨(some 42), .mov (.tmp 12), none⟩,
  ⟨(some 43), .not (.tmp 42), none⟩])
 (.cond (.tmp 43) (.ops [⟨(some 44), .mov (.tmp 8), none⟩,
  ⟨(some 45), .mov (.tmp 9), none⟩,
  ⟨(some 46), .mov (.tmp 10), none⟩,
  ⟨none, .raw (.mapUpdate 78 (.tmp 44) (.tmp 45) (.tmp 46)) 0, none⟩])
 .skip)))
 (.ops [⟨(some 47), .mov (.tmp 9), none⟩,
  ⟨(some 48), .fldA 1 (.tmp 2), none⟩,
  ⟨(some 49), .load1 (.tmp 48), none⟩,
  ⟨(some 50), .ar .i64 .mul (.tmp 47) (.tmp 49), none⟩,
  ⟨(some 51), .fldA 0 (.tmp 2), none⟩,
  ⟨(some 52), .load1 (.tmp 51), none⟩,
  ⟨(some 53), .ar .i64 .rem (.tmp 50) (.tmp 52), none⟩,
  ⟨(some 9), .mov (.tmp 53), none⟩]))))
 (.ops [⟨(some 54), .ar .i64 .add (.tmp 33) (.const (.int .i64 1)), none⟩,
  ⟨(some 33), .mov (.tmp 54), none⟩])))))))
 (.seq (.ops [⟨(some 55), .fldA 0 (.tmp 2), none⟩,
  ⟨(some 56), .load1 (.tmp 55), none⟩,
  ⟨(some 57), .mov (.tmp 9), none⟩,
  ⟨(some 58), .aggr [(.int .i64 0), (.int .i64 0)] [(0, 1, (.tmp 56)), (1, 1, (.tmp 57))], none⟩,
  ⟨(some 59), .call 68 [(.tmp 58)], none⟩,
  ⟨(some 13), .mov (.tmp 59), none⟩])
 (.seq (.ops [⟨(some 14), .mov (.const (.int .i64 0)), none⟩,
  ⟨(some 15), .mov (.const (.bool false)), none⟩])
 (.seq .skip
 (.seq (.seq (.ops [⟨(some 60), .mov (.tmp 7), none⟩,
  ⟨(some 61), .mov (.const (.int .i64 0)), none⟩])
 (.block 4 (.loop (.seq (.ops [⟨(some 62), .ar .i64 .lss (.tmp 61) (.tmp 60), none⟩])
 (.seq (.cond (.tmp 62) .skip
 (.exit 4))
 (.seq (.block 5 (.seq (.ops [⟨(some 63), .mov (.tmp 61), none⟩,
  ⟨(some 16), .mov (.tmp 63), none⟩])
 (.seq (.ops [⟨(some 65), .mov (.tmp 8), none⟩,
  ⟨(some 66), .mov (.tmp 1), none⟩,
  ⟨(some 67), .raw (.lookup 78 (.tmp 65) (.tmp 66) true) 67, none⟩,
  ⟨(some 64), .mov (.tmp 67), none⟩,
  ⟨(some 68), .ext (.tmp 64) 0, none⟩,
  ⟨(some 69), .ext (.tmp 64) 1, none⟩,
  ⟨(some 17), .mov (.tmp 68), none⟩,
  ⟨(some 18), .mov (.tmp 69), none⟩])
 (.seq (.seq (.ops [⟨(some 70), .mov (.tmp 18), none⟩])
 (.cond (.tmp 70) (.seq (.ops [⟨(some 71), .mov (.tmp 16), none⟩,
  ⟨(some 72), .mov (.tmp 7), none⟩,
  ⟨(some 73), .ar .i64 .mul (.tmp 71) (.tmp 72), none⟩,
  ⟨(some 74), .mov (.tmp 17), none⟩,
  ⟨(some 75), .ar .i64 .add (.tmp 73) (.tmp 74), none⟩,
  ⟨(some 14), .mov (.tmp 75), none⟩,
  ⟨(some 15), .mov (.const (.bool true)), none⟩])
 (.exit 4))
 .skip))
 (.ops [⟨(some 76), .mov (.tmp 1), none⟩,
  ⟨(some 77), .mov (.tmp 13), none⟩,
  ⟨(some 78), .ar .i64 .mul (.tmp 76) (.tmp 77), none⟩,
  ⟨(some 79), .fldA 0 (.tmp 2), none⟩,
  ⟨(some 80), .load1 (.tmp 79), none⟩,
  ⟨(some 81), .ar .i64 .rem (.tmp 78) (.tmp 80), none⟩,
  ⟨(some 1), .mov (.tmp 81), none⟩])))))
 (.ops [⟨(some 82), .ar .i64 .add (.tmp 61) (.const (.int .i64 1)), none⟩,
  ⟨(some 61), .mov (.tmp 82), none⟩])))))))
 (.seq (.ops [⟨(some 83), .mov (.tmp 14), none⟩,
  ⟨(some 84), .mov (.tmp 15), none⟩,
  ⟨(some 4), .mov (.tmp 83), none⟩,
  ⟨(some 5), .mov (.tmp 84), none⟩])
 .ret)))))))))))))
theorem enter66 {xs : List Value} {h : Hp} {Q : Value → Hp → Prop} (hl : xs.length ≤ 85) (w : wq E 85 none c66 (frameOf xs) h [] (leaveQ E [.tmp 4, .tmp 5] Q)) : CallP E 66 xs h Q :=
  CallP.enterQ (fn := Try.f66) (fn_get Try.func66) (code := Try.f66.body.get rfl) rfl rfl rfl (by kernel_rfl) rfl (fun _ => rfl) hl w
theorem can66 : callable E 66 = true := callable_get Try.func66 rfl rfl

/-- (tosher/logs.base).power -/
def c67 : C := (.seq (.ops [⟨(some 2), .box 65 (.tmp 0), none⟩,
  ⟨(some 4), .mov (.const (.int .i64 0)), none⟩])
 (.seq (.ops [⟨(some 7), .fldA 0 (.tmp 2), none⟩,
  ⟨(some 8), .load1 (.tmp 7), none⟩,
  ⟨(some 9), .ar .i64 .rem (.const (.int .i64 1)) (.tmp 8), none⟩,
  ⟨(some 10), .fldA 1 (.tmp 2), none⟩,
  ⟨(some 11), .load1 (.tmp 10), none⟩,
  ⟨(some 12), .fldA 0 (.tmp 2), none⟩,
  ⟨(some 13), .load1 (.tmp 12), none⟩,
  ⟨(some 14), .ar .i64 .rem (.tmp 11) (.tmp 13), none⟩,
  ⟨(some 5), .mov (.tmp 9), none⟩,
  ⟨(some 6), .mov (.tmp 14), none⟩])
 (.seq (.block 0 (.loop (.seq (.seq (.ops [⟨(some 15), .mov (.tmp 1), none⟩,
  ⟨(some 16), .ar .i64 .gtr (.tmp 15) (.const (.int .i64 0)), none⟩])
 (.cond (.tmp 16) .skip
 (.exit 0)))
 (.seq (.block 1 (.seq (.seq (.ops [⟨(some 19), .mov (.tmp 1), none⟩,
  ⟨(some 20), .ar .i64 .rem (.tmp 19) (.const (.int .i64 2)), none⟩,
  ⟨(some 21), .ar .i64 .eql (.tmp 20) (.const (.int .i64 1)), none⟩])
 (.cond (.tmp 21) (.ops [⟨(some 22), .mov (.tmp 5), none⟩,
  ⟨(some 23), .mov (.tmp 6), none⟩,
  ⟨(some 24), .ar .i64 .mul (.tmp 22) (.tmp 23), none⟩,
  ⟨(some 25), .fldA 0 (.tmp 2), none⟩,
  ⟨(some 26), .load1 (.tmp 25), none⟩,
  ⟨(some 27), .ar .i64 .rem (.tmp 24) (.tmp 26), none⟩,
  ⟨(some 5), .mov (.tmp 27), none⟩])
 .skip))
 (.ops [⟨(some 28), .mov (.tmp 6), none⟩,
  ⟨(some 29), .mov (.tmp 6), none⟩,
  ⟨(some 30), .ar .i64 .mul (.tmp 28) (.tmp 29), none⟩,
  ⟨(some 31), .fldA 0 (.tmp 2), none⟩,
  ⟨(some 32), .load1 (.tmp 31), none⟩,
  ⟨(some 33), .ar .i64 .rem (.tmp 30) (.tmp 32), none⟩,
  ⟨(some 6), .mov (.tmp 33), none⟩])))
 (.ops [⟨(some 17), .mov (.tmp 1), none⟩,
  ⟨(some 18), .ar .i64 .quo (.tmp 17) (.const (.int .i64 2)), none⟩,
  ⟨(some 1), .mov (.tmp 18), none⟩])))))
 (.seq (.ops [⟨(some 34), .mov (.tmp 5), none⟩,
  ⟨(some 4), .mov (.tmp 34), none⟩])
 .ret))))
theorem enter67 {xs : List Value} {h : Hp} {Q : Value → Hp → Prop} (hl : xs.length ≤ 35) (w : wq E 35 none c67 (frameOf xs) h [] (leaveQ E [.tmp 4] Q)) : CallP E 67 xs h Q :=
  CallP.enterQ (fn := Try.f67) (fn_get Try.func67) (code := Try.f67.body.get rfl) rfl rfl rfl (by kernel_rfl) rfl (fun _ => rfl) hl w
theorem can67 : callable E 67 = true := callable_get Try.func67 rfl rfl

/-- (tosher/logs.base).inverse -/
def c68 : C := (.seq (.ops [⟨(some 1), .box 65 (.tmp 0), none⟩,
  ⟨(some 2), .mov (.const (.int .i64 0)), none⟩])
 (.seq (.draw [⟨(some 3), .loadN 2 (.tmp 1), none⟩,
  ⟨(some 4), .fldA 0 (.tmp 1), none⟩,
  ⟨(some 5), .load1 (.tmp 4), none⟩,
  ⟨(some 6), .call 55 [(.tmp 5)], none⟩,
  ⟨(some 7), .ar .i64 .sub (.tmp 6) (.const (.int .i64 1)), none⟩,
  ⟨(some 8), .call 67 [(.tmp 3), (.tmp 7)], none⟩,
  ⟨(some 2), .mov (.tmp 8), none⟩]
  [⟨false, true, [false, false, false, false, false, false, false], [false, false, false, true, false, false, false]⟩,
  ⟨false, false, [false, false, false, false, false, false, false], [false, false, false, false, false, false, false]⟩,
  ⟨false, false, [false, false, false, false, false, false, false], [false, false, false, false, false, false, false]⟩,
  ⟨true, false, [false, false, false, false, false, false, false], [false, false, false, true, false, false, false]⟩,
  ⟨false, false, [false, false, false, true, false, false, false], [false, false, false, true, false, false, false]⟩,
  ⟨true, false, [false, false, false, true, false, false, false], [false, false, false, true, false, true, false]⟩,
  ⟨false, false, [false, false, false, true, false, true, false], [false, false, false, true, false, true, false]⟩])
 .ret))
theorem enter68 {xs : List Value} {h : Hp} {Q : Value → Hp → Prop} (hl : xs.length ≤ 9) (w : wq E 9 none c68 (frameOf xs) h [] (leaveQ E [.tmp 2] Q)) : CallP E 68 xs h Q :=
  CallP.enterQ (fn := Try.f68) (fn_get Try.func68) (code := Try.f68.body.get rfl) rfl rfl rfl (by kernel_rfl) rfl (fun _ => rfl) hl w
theorem can68 : callable E 68 = true := callable_get Try.func68 rfl rfl

/-- tosher/logs.sign -/
def c73 : C := (.seq (.ops [⟨(some 2), .box 3 (.tmp 0), none⟩,
  ⟨(some 4), .mov (.const (.int .i64 0)), none⟩])
 (.seq (.ops [⟨(some 5), .alloc 3 [(.int .i64 0)], none⟩,
  ⟨none, .store 1 (.tmp 5) (.const (.int .i64 1)), none⟩])
 (.seq (.seq (.ops [⟨(some 7), .mov (.tmp 1), none⟩,
  ⟨(some 8), .call 62 [(.tmp 7)], none⟩])
 (.block 0 (.range (.tmp 8) ⟨[9]⟩ (.ops [⟨(some 6), .alloc 63 [(.int .i64 0), (.int .i64 0)], none⟩,
  ⟨none, .store 2 (.tmp 6) (.tmp 9), none⟩])
 (.block 1 (.seq (.ops [⟨(some 10), .fldA 1 (.tmp 6), none⟩,
  ⟨(some 11), .load1 (.tmp 10), none⟩,
  ⟨(some 12), .mov (.const (.int .i64 0)), none⟩])
 (.block 2 (.loop (.seq (.ops [⟨(some 13), .ar .i64 .lss (.tmp 12) (.tmp 11), none⟩])
 (.seq (.cond (.tmp 13) .skip
 (.exit 2))
 (.seq (.block 3 (.draw [⟨(some 14), .load1 (.tmp 5), none⟩,
  ⟨(some 15), .load1 (.tmp 2), none⟩,
  ⟨(some 16), .fldA 0 (.tmp 6), none⟩,
  ⟨(some 17), .load1 (.tmp 16), none⟩,
  ⟨(some 18), .call 82 [(.tmp 15), (.tmp 17)], none⟩,
  ⟨(some 19), .ar .i64 .mul (.tmp 14) (.tmp 18), none⟩,
  ⟨none, .store 1 (.tmp 5) (.tmp 19), none⟩]
  [⟨false, true, [false, false, false, false, false, false, false], [false, false, false, false, true, false, false]⟩,
  ⟨false, false, [false, false, false, false, false, false, false], [false, false, false, false, false, false, false]⟩,
  ⟨false, false, [false, false, false, false, false, false, false], [false, false, false, false, false, false, false]⟩,
  ⟨false, false, [false, false, false, false, false, false, false], [false, false, false, false, false, false, false]⟩,
  ⟨true, false, [false, false, false, false, false, false, false], [false, false, false, false, true, false, false]⟩,
  ⟨false, false, [false, false, false, false, true, false, false], [false, false, false, false, true, false, false]⟩,
  ⟨true, false, [false, false, false, false, true, false, false], [false, false, false, false, true, false, true]⟩]))
 (.ops [⟨(some 20), .ar .i64 .add (.tmp 12) (.const (.int .i64 1)), none⟩,
  ⟨(some 12), .mov (.tmp 20), none⟩])))))))))))
 (.seq (.ops [⟨(some 21), .load1 (.tmp 5), none⟩,
  ⟨(some 4), .mov (.tmp 21), none⟩])
 .ret))))
theorem enter73 {xs : List Value} {h : Hp} {Q : Value → Hp → Prop} (hl : xs.length ≤ 22) (w : wq E 22 none c73 (frameOf xs) h [] (leaveQ E [.tmp 4] Q)) : CallP E 73 xs h Q :=
  CallP.enterQ (fn := Try.f73) (fn_get Try.func73) (code := Try.f73.body.get rfl) rfl rfl rfl (by kernel_rfl) rfl (fun _ => rfl) hl w
theorem can73 : callable E 73 = true := callable_get Try.func73 rfl rfl

/-- tosher/logs.factors$1 -/
def c79 : C := (.seq (.ops [⟨(some 6), .load1 (.tmp 1), none⟩,
  ⟨(some 3), .mov (.tmp 6), none⟩])
 (.seq (.seq (.ops [⟨(some 4), .mov (.const (.int .i64 2)), none⟩])
 (.block 0 (.loop (.seq (.seq (.ops [⟨(some 7), .mov (.tmp 4), none⟩,
  ⟨(some 8), .mov (.tmp 4), none⟩,
  ⟨(some 9), .ar .i64 .mul (.tmp 7) (.tmp 8), none⟩,
  ⟨(some 10), .mov (.tmp 3), none⟩,
  ⟨(some 11), .ar .i64 .leq (.tmp 9) (.tmp 10), none⟩])
 (.cond (.tmp 11) .skip
 (.exit 0)))
 (.seq (.block 1 (.seq (.ops [⟨(some 5), .mov (.const (.int .i64 0)), none⟩])
 (.seq (.block 2 (.loop (.seq (.seq (.ops [⟨(some 14), .mov (.tmp 3), none⟩,
  ⟨(some 15), .mov (.tmp 4), none⟩,
  ⟨(some 16), .ar .i64 .rem (.tmp 14) (.tmp 15), none⟩,
  ⟨(some 17), .ar .i64 .eql (.tmp 16) (.const (.int .i64 0)), none⟩])
 (.cond (.tmp 17) .skip
 (.exit 2)))
 (.block 3 (.seq (.ops [⟨(some 18), .mov (.tmp 3), none⟩,
  ⟨(some 19), .mov (.tmp 4), none⟩,
  ⟨(some 20), .ar .i64 .quo (.tmp 18) (.tmp 19), none⟩,
  ⟨(some 3), .mov (.tmp 20), none⟩])
 (.ops [⟨(some 21), .mov (.tmp 5), none⟩,
  ⟨(some 22), .ar .i64 .add (.tmp 21) (.const (.int .i64 1)), none⟩,
  ⟨(some 5), .mov (.tmp 22), none⟩]))))))
 (.seq (.ops [⟨(some 23), .mov (.tmp 5), none⟩,
  ⟨(some 24), .ar .i64 .gtr (.tmp 23) (.const (.int .i64 0)), none⟩,
  ⟨(some 25), .mov (.tmp 24), none⟩,
  ⟨(some 26), .mov (.tmp 0), (some (25, true))⟩,
  ⟨(some 27), .mov (.tmp 4), (some (25, true))⟩,
  ⟨(some 28), .mov (.tmp 5), (some (25, true))⟩,
  ⟨(some 29), .aggr [(.int .i64 0), (.int .i64 0)] [(0, 1, (.tmp 27)), (1, 1, (.tmp 28))], (some (25, true))⟩,
  ⟨(some 30), .callv (.tmp 26) [(.tmp 29)], (some (25, true))⟩,
  ⟨(some 31), .not (.tmp 30), (some (25, true))⟩,
  ⟨(some 32), .pick (.tmp 25) (.tmp 31) (.const (.bool false)), none⟩])
 (.cond (.tmp 32) .ret
 .skip)))))
 (.ops [⟨(some 12), .mov (.tmp 4), none⟩,
  ⟨(some 13), .ar .i64 .add (.tmp 12) (.const (.int .i64 1)), none⟩,
  ⟨(some 4), .mov (.tmp 13), none⟩]))))))
 (.seq (.ops [⟨(some 33), .mov (.tmp 3), none⟩,
  ⟨(some 34), .ar .i64 .gtr (.tmp 33) (.const (.int .i64 1)), none⟩])
 (.cond (.tmp 34) (.ops [⟨(some 35), .mov (.tmp 0), none⟩,
  ⟨(some 36), .mov (.tmp 3), none⟩,
  ⟨(some 37), .aggr [(.int .i64 0), (.int .i64 0)] [(0, 1, (.tmp 36)), (1, 1, (.const (.int .i64 1)))], none⟩,
  ⟨(some 38), .callv (.tmp 35) [(.tmp 37)], none⟩])
 .skip))))
theorem enter79 {xs : List Value} {h : Hp} {Q : Value → Hp → Prop} (hl : xs.length ≤ 39) (w : wq E 39 none c79 (frameOf xs) h [] (leaveQ E [] Q)) : CallP E 79 xs h Q :=
  CallP.enterQ (fn := Try.f79) (fn_get Try.func79) (code := Try.f79.body.get rfl) rfl rfl rfl (by kernel_rfl) rfl (fun _ => rfl) hl w
theorem can79 : callable E 79 = true := callable_get Try.func79 rfl rfl

/-- (tosher/logs.base).order$1 -/
def c80 : C := (.block 0 (.loop (.seq (.seq (.draw [⟨(some 5), .load1 (.tmp 1), none⟩,
  ⟨(some 6), .mov (.tmp 0), none⟩,
  ⟨(some 7), .ar .i64 .rem (.tmp 5) (.tmp 6), none⟩,
  ⟨(some 8), .ar .i64 .eql (.tmp 7) (.const (.int .i64 0)), none⟩,
  ⟨(some 9), .mov (.tmp 8), none⟩,
  ⟨(some 10), .load1 (.tmp 2), (some (9, true))⟩,
  ⟨(some 11), .load1 (.tmp 1), (some (9, true))⟩,
  ⟨(some 12), .mov (.tmp 0), (some (9, true))⟩,
  ⟨(some 13), .ar .i64 .quo (.tmp 11) (.tmp 12), (some (9, true))⟩,
  ⟨(some 14), .callv (.tmp 10) [(.tmp 13)], (some (9, true))⟩,
  ⟨(some 15), .fldA 0 (.tmp 3), (some (9, true))⟩,
  ⟨(some 16), .load1 (.tmp 15), (some (9, true))⟩,
  ⟨(some 17), .ar .i64 .rem (.const (.int .i64 1)) (.tmp 16), (some (9, true))⟩,
  ⟨(some 18), .ar .i64 .eql (.tmp 14) (.tmp 17), (some (9, true))⟩,
  ⟨(some 19), .pick (.tmp 9) (.tmp 18) (.const (.bool false)), none⟩]
  [⟨false, false, [false, false, false, false, false, false, false, false, false, false, false, false, false, false, false], [false, false, false, false, false, false, false, false, false, false, false, false, false, false, false]⟩,
  ⟨false, false, [false, false, false, false, false, false, false, false, false, false, false, false, false, false, false], [false, false, false, false, false, false, false, false, false, false, false, false, false, false, false]⟩,
  ⟨false, false, [false, false, false, false, false, false, false, false, false, false, false, false, false, false, false], [false, false, false, false, false, false, false, false, false, false, false, false, false, false, false]⟩,
  ⟨false, false, [false, false, false, false, false, false, false, false, false, false, false, false, false, false, false], [false, false, false, false, false, false, false, false, false, false, false, false, false, false, false]⟩,
  ⟨false, false, [false, false, false, false, false, false, false, false, false, false, false, false, false, false, false], [false, false, false, false, false, false, false, false, false, false, false, false, false, false, false]⟩,
  ⟨false, false, [false, false, false, false, false, false, false, false, false, false, false, false, false, false, false], [false, false, false, false, false, false, false, false, false, false, false, false, false, false, false]⟩,
  ⟨false, false, [false, false, false, false, false, false, false, false, false, false, false, false, false, false, false], [false, false, false, false, false, false, false, false, false, false, false, false, false, false, false]⟩,
  ⟨false, false, [false, false, false, false, false, false, false, false, false, false, false, false, false, false, false], [false, false, false, false, false, false, false, false, false, false, false, false, false, false, false]⟩,
  ⟨false, false, [false, false, false, false, false, false, false, false, false, false, false, false, false, false, false], [false, false, false, false, false, false, false, false, false, false, false, false, false, false, false]⟩,
  ⟨true, false, [false, false, false, false, false, false, false, false, false, false, false, false, false, false, false], [false, false, false, false, false, false, false, false, false, true, false, false, false, false, false]⟩,
  ⟨false, true, [false, false, false, false, false, false, false, false, false, false, false, false, false, false, false], [false, false, false, false, false, false, false, false, false, true, false, false, false, false, false]⟩,
  ⟨false, true, [false, false, false, false, false, false, false, false, false, false, false, false, false, false, false], [false, false, false, false, false, false, false, false, false, true, false, false, false, false, false]⟩,
  ⟨false, true, [false, false, false, false, false, false, false, false, false, false, false, false, false, false, false], [false, false, false, false, false, false, false, false, false, true, false, false, false, false, false]⟩,
  ⟨false, false, [false, false, false, false, false, false, false, false, false, true, false, false, false, false, false], [false, false, false, false, false, false, false, false, false, true, false, false, false, false, false]⟩,
  ⟨false, false, [false, false, false, false, false, false, false, false, false, true, false, false, false, false, false], [false, false, false, false, false, false, false, false, false, true, false, false, false, false, false]⟩])
 (.cond (.tmp 19) .skip
 (.exit 0)))
 (.block 1 (.ops [⟨(some 20), .load1 (.tmp 1), none⟩,
  ⟨(some 21), .mov (.tmp 0), none⟩,
  ⟨(some 22), .ar .i64 .quo (.tmp 20) (.tmp 21), none⟩,
  ⟨none, .store 1 (.tmp 1) (.tmp 22), none⟩])))))
theorem enter80 {xs : List Value} {h : Hp} {Q : Value → Hp → Prop} (hl : xs.length ≤ 23) (w : wq E 23 none c80 (frameOf xs) h [] (leaveQ E [] Q)) : CallP E 80 xs h Q :=
  CallP.enterQ (fn := Try.f80) (fn_get Try.func80) (code := Try.f80.body.get rfl) rfl rfl rfl (by kernel_rfl) rfl (fun _ => rfl) hl w
theorem can80 : callable E 80 = true := callable_get Try.func80 rfl rfl

/-- tosher/logs.legendre -/
def c82 : C := (.seq (.ops [⟨(some 4), .mov (.const (.int .i64 0)), none⟩])
 (.seq (.ops [⟨(some 6), .mov (.tmp 0), none⟩,
  ⟨(some 7), .mov (.tmp 1), none⟩,
  ⟨(some 8), .ar .i64 .rem (.tmp 6) (.tmp 7), none⟩,
  ⟨(some 9), .mov (.tmp 1), none⟩,
  ⟨(some 10), .ar .i64 .add (.tmp 8) (.tmp 9), none⟩,
  ⟨(some 11), .mov (.tmp 1), none⟩,
  ⟨(some 12), .ar .i64 .rem (.tmp 10) (.tmp 11), none⟩,
  ⟨(some 5), .mov (.tmp 12), none⟩])
 (.seq (.seq (.ops [⟨(some 13), .mov (.tmp 1), none⟩,
  ⟨(some 14), .mov (.tmp 5), none⟩,
  ⟨(some 15), .aggr [(.int .i64 0), (.int .i64 0)] [(0, 1, (.tmp 13)), (1, 1, (.tmp 14))], none⟩,
  ⟨(some 16), .mov (.tmp 1), none⟩,
  ⟨(some 17), .ar .i64 .sub (.tmp 16) (.const (.int .i64 1)), none⟩,
  ⟨(some 18), .ar .i64 .quo (.tmp 17) (.const (.int .i64 2)), none⟩,
  ⟨(some 19), .call 67 [(.tmp 15), (.tmp 18)], none⟩])
 (.block 0 (.seq (.ops [⟨(some 21), .ar .i64 .eql (.tmp 19) (.const (.int .i64 0)), none⟩,
  ⟨(some 20), .mov (.tmp 21), none⟩])
 (.cond (.tmp 20) (.seq (.ops [⟨(some 4), .mov (.const (.int .i64 0)), none⟩])
 .ret)
 (.seq (.ops [⟨(some 23), .ar .i64 .eql (.tmp 19) (.const (.int .i64 1)), none⟩,
  ⟨(some 22), .mov (.tmp 23), none⟩])
 (.cond (.tmp 22) (.seq (.ops [⟨(some 4), .mov (.const (.int .i64 1)), none⟩])
 .ret)
 .skip))))))
 (.seq (.ops [⟨(some 4), .mov (.const (.int .i64 (-1))), none⟩])
 .ret))))
theorem enter82 {xs : List Value} {h : Hp} {Q : Value → Hp → Prop} (hl : xs.length ≤ 24) (w : wq E 24 none c82 (frameOf xs) h [] (leaveQ E [.tmp 4] Q)) : CallP E 82 xs h Q :=
  CallP.enterQ (fn := Try.f82) (fn_get Try.func82) (code := Try.f82.body.get rfl) rfl rfl rfl (by kernel_rfl) rfl (fun _ => rfl) hl w
theorem can82 : callable E 82 = true := callable_get Try.func82 rfl rfl
end
end Go.Proofs.Ytlcnmneildefmaa
