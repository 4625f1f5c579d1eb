/- The code of the functions that T27 comes to. -/
import Derived.Test.YtpiplaicnbapbaaTypesC
set_option maxRecDepth 100000
set_option linter.unusedSectionVars false
set_option linter.unusedVariables false
namespace Go.Proofs.Ytpiplaicnbapbaa
open Go.Rx Go.RowKit
noncomputable section
variable [Unknowns]
/-- tosher/tosherlaw06.TallyChecks -/
def c3 : C := (.seq (.ops [⟨(some 2), .box 25 (.tmp 0), none⟩,
  ⟨(some 4), .mov (.const (.bool false)), none⟩])
 (.seq (.ops [⟨(some 41), .loadN 4 (.tmp 2), none⟩,
  ⟨(some 42), .call 17 [(.tmp 41)], none⟩,
  ⟨(some 5), .alloc 26 [(.int .i64 0), (.slice none 0 0), (.slice none 0 0), (.slice none 0 0)], none⟩,
  ⟨none, .store 4 (.tmp 5) (.tmp 42), none⟩])
 (.seq (.ops [⟨(some 43), .loadN 4 (.tmp 5), none⟩,
  ⟨(some 44), .call 18 [(.tmp 43)], none⟩,
  ⟨(some 6), .alloc 25 [(.int .i64 0), (.slice none 0 0), (.slice none 0 0), (.slice none 0 0)], none⟩,
  ⟨none, .store 4 (.tmp 6) (.tmp 44), none⟩])
 (.seq (.ops [⟨(some 45), .mov (.tmp 1), none⟩,
  ⟨(some 46), .call 19 [(.tmp 45), (.const (.int .i64 6))], none⟩,
  ⟨(some 7), .mov (.tmp 46), none⟩])
 (.seq (.ops [⟨(some 8), .mov (.const (.int .i64 0)), none⟩])
 (.seq (.seq (.ops [⟨(some 47), .loadN 4 (.tmp 5), none⟩,
  ⟨(some 48), .call 20 [(.tmp 47)], none⟩,
  ⟨(some 49), .not (.tmp 48), none⟩])
 (.cond (.tmp 49) (.ops [⟨(some 8), .mov (.const (.int .i64 60)), none⟩])
 .skip))
 (.seq (.seq (.ops [⟨(some 50), .loadN 4 (.tmp 6), none⟩,
  ⟨(some 51), .call 21 [(.tmp 50)], none⟩,
  ⟨(some 52), .mov (.tmp 8), none⟩,
  ⟨(some 53), .ar .i64 .neq (.tmp 51) (.tmp 52), none⟩])
 (.cond (.tmp 53) (.seq (.ops [⟨(some 4), .mov (.const (.bool false)), none⟩])
 .ret)
 .skip))
 (.seq (.seq (.ops [⟨(some 54), .mov (.tmp 8), none⟩,
  ⟨(some 55), .ar .i64 .neq (.tmp 54) (.const (.int .i64 0)), none⟩])
 (.cond (.tmp 55) (.seq (.ops [⟨(some 57), .loadN 4 (.tmp 6), none⟩,
  ⟨(some 58), .aggr [(.slice none 0 0), (.int .i64 0), (.int .i64 0)] [], none⟩,
  ⟨(some 59), .call 22 [(.tmp 57), (.tmp 58)], none⟩,
  ⟨(some 56), .mov (.tmp 59), none⟩,
  ⟨(some 60), .ext (.tmp 56) 0, none⟩,
  ⟨(some 61), .ext (.tmp 56) 1, none⟩,
  ⟨(some 62), .ext (.tmp 56) 2, none⟩,
  ⟨(some 9), .mov (.tmp 60), none⟩,
  ⟨(some 10), .mov (.tmp 61), none⟩,
  ⟨(some 11), .mov (.tmp 62), none⟩])
 (.seq (.ops [⟨(some 64), .loadN 4 (.tmp 6), none⟩,
  ⟨(some 65), .call 23 [(.tmp 64), (.const (.slice none 0 0)), (.const (.int .i64 (-1)))], none⟩,
  ⟨(some 63), .mov (.tmp 65), none⟩,
  ⟨(some 66), .ext (.tmp 63) 0, none⟩,
  ⟨(some 67), .ext (.tmp 63) 1, none⟩,
  ⟨(some 12), .mov (.tmp 66), none⟩,
  ⟨(some 13), .mov (.tmp 67), none⟩])
 (.seq (.ops [⟨(some 69), .loadN 4 (.tmp 6), none⟩,
  ⟨(some 70), .call 24 [(.tmp 69)], none⟩,
  ⟨(some 68), .mov (.tmp 70), none⟩,
  ⟨(some 71), .ext (.tmp 68) 0, none⟩,
  ⟨(some 72), .ext (.tmp 68) 1, none⟩,
  ⟨(some 14), .mov (.tmp 71), none⟩,
  ⟨(some 15), .mov (.tmp 72), none⟩])
 (.seq (.ops [⟨(some 74), .loadN 4 (.tmp 6), none⟩,
  ⟨(some 75), .mov (.tmp 7), none⟩,
  ⟨(some 76), .call 25 [(.tmp 74), (.tmp 75)], none⟩,
  ⟨(some 73), .mov (.tmp 76), none⟩,
  ⟨(some 77), .ext (.tmp 73) 0, none⟩,
  ⟨(some 78), .ext (.tmp 73) 1, none⟩,
  ⟨(some 16), .mov (.tmp 77), none⟩,
  ⟨(some 17), .mov (.tmp 78), none⟩])
 (.seq (.ops [⟨(some 79), .mov (.tmp 11), none⟩,
  ⟨(some 80), .mov (.tmp 8), none⟩,
  ⟨(some 81), .ar .i64 .neq (.tmp 79) (.tmp 80), none⟩,
  ⟨(some 82), .mov (.tmp 81), none⟩,
  ⟨(some 83), .mov (.tmp 13), (some (82, false))⟩,
  ⟨(some 84), .mov (.tmp 8), (some (82, false))⟩,
  ⟨(some 85), .ar .i64 .neq (.tmp 83) (.tmp 84), (some (82, false))⟩,
  ⟨(some 86), .pick (.tmp 82) (.const (.bool true)) (.tmp 85), none⟩,
  ⟨(some 87), .mov (.tmp 86), none⟩,
  ⟨(some 88), .mov (.tmp 15), (some (87, false))⟩,
  ⟨(some 89), .mov (.tmp 8), (some (87, false))⟩,
  ⟨(some 90), .ar .i64 .neq (.tmp 88) (.tmp 89), (some (87, false))⟩,
  ⟨(some 91), .pick (.tmp 87) (.const (.bool true)) (.tmp 90), none⟩,
  ⟨(some 92), .mov (.tmp 91), none⟩,
  ⟨(some 93), .mov (.tmp 17), (some (92, false))⟩,
  ⟨(some 94), .mov (.tmp 8), (some (92, false))⟩,
  ⟨(some 95), .ar .i64 .neq (.tmp 93) (.tmp 94), (some (92, false))⟩,
  ⟨(some 96), .pick (.tmp 92) (.const (.bool true)) (.tmp 95), none⟩,
  ⟨(some 97), .mov (.tmp 96), none⟩,
  ⟨(some 98), .mov (.tmp 10), (some (97, false))⟩,
  ⟨(some 99), .pick (.tmp 97) (.const (.bool true)) (.tmp 98), none⟩,
  ⟨(some 100), .mov (.tmp 99), none⟩,
  ⟨(some 101), .mov (.tmp 12), (some (100, false))⟩,
  ⟨(some 102), .pick (.tmp 100) (.const (.bool true)) (.tmp 101), none⟩,
  ⟨(some 103), .mov (.tmp 102), none⟩,
  ⟨(some 104), .mov (.tmp 9), (some (103, false))⟩,
  ⟨(some 105), .lenS (.tmp 104), (some (103, false))⟩,
  ⟨(some 106), .mov (.tmp 14), (some (103, false))⟩,
  ⟨(some 107), .ar .i64 .add (.tmp 105) (.tmp 106), (some (103, false))⟩,
  ⟨(some 108), .mov (.tmp 16), (some (103, false))⟩,
  ⟨(some 109), .lenS (.tmp 108), (some (103, false))⟩,
  ⟨(some 110), .ar .i64 .add (.tmp 107) (.tmp 109), (some (103, false))⟩,
  ⟨(some 111), .ar .i64 .neq (.tmp 110) (.const (.int .i64 0)), (some (103, false))⟩,
  ⟨(some 112), .pick (.tmp 103) (.const (.bool true)) (.tmp 111), none⟩])
 (.cond (.tmp 112) (.seq (.ops [⟨(some 4), .mov (.const (.bool false)), none⟩])
 .ret)
 .skip))))))
 (.seq (.ops [⟨(some 8), .mov (.const (.int .i64 1)), none⟩])
 (.seq (.ops [⟨(some 114), .loadN 4 (.tmp 6), none⟩,
  ⟨(some 115), .mov (.tmp 7), none⟩,
  ⟨(some 116), .call 25 [(.tmp 114), (.tmp 115)], none⟩,
  ⟨(some 113), .mov (.tmp 116), none⟩,
  ⟨(some 117), .ext (.tmp 113) 0, none⟩,
  ⟨(some 118), .ext (.tmp 113) 1, none⟩,
  ⟨(some 18), .mov (.tmp 117), none⟩,
  ⟨(some 19), .mov (.tmp 118), none⟩])
 (.seq (.ops [⟨(some 119), .mov (.tmp 7), none⟩,
  ⟨(some 120), .fldA 2 (.tmp 5), none⟩,
  ⟨(some 121), .load1 (.tmp 120), none⟩,
  ⟨(some 122), .lenS (.tmp 121), none⟩,
  ⟨(some 123), .call 26 [(.tmp 119), (.tmp 122)], none⟩,
  ⟨(some 124), .mov (.tmp 19), none⟩,
  ⟨(some 125), .ar .i64 .eql (.tmp 124) (.const (.int .i64 0)), none⟩,
  ⟨(some 126), .raw (.binOp .neq 4 (.tmp 123) (.tmp 125) 4) 4, none⟩,
  ⟨(some 127), .mov (.tmp 126), none⟩,
  ⟨(some 128), .mov (.tmp 19), (some (127, false))⟩,
  ⟨(some 129), .ar .i64 .neq (.tmp 128) (.const (.int .i64 0)), (some (127, false))⟩,
  ⟨(some 130), .mov (.tmp 129), (some (127, false))⟩,
  ⟨(some 131), .mov (.tmp 19), (some (130, true))⟩,
  ⟨(some 132), .mov (.tmp 8), (some (130, true))⟩,
  ⟨(some 133), .ar .i64 .neq (.tmp 131) (.tmp 132), (some (130, true))⟩,
  ⟨(some 134), .mov (.tmp 133), (some (130, true))⟩,
  ⟨(some 135), .mov (.tmp 18), (some (134, false))⟩,
  ⟨(some 136), .lenS (.tmp 135), (some (134, false))⟩,
  ⟨(some 137), .ar .i64 .neq (.tmp 136) (.const (.int .i64 0)), (some (134, false))⟩,
  ⟨(some 138), .pick (.tmp 134) (.const (.bool true)) (.tmp 137), (some (130, true))⟩,
  ⟨(some 139), .pick (.tmp 130) (.tmp 138) (.const (.bool false)), (some (127, false))⟩,
  ⟨(some 140), .pick (.tmp 127) (.const (.bool true)) (.tmp 139), none⟩])
 (.cond (.tmp 140) (.seq (.ops [⟨(some 4), .mov (.const (.bool false)), none⟩])
 .ret)
 .skip))))))
 (.seq (.seq (.ops [⟨(some 141), .loadN 4 (.tmp 5), none⟩,
  ⟨(some 142), .call 20 [(.tmp 141)], none⟩,
  ⟨(some 143), .mov (.tmp 142), none⟩,
  ⟨(some 144), .mov (.tmp 7), (some (143, true))⟩,
  ⟨(some 145), .fldA 0 (.tmp 5), (some (143, true))⟩,
  ⟨(some 146), .load1 (.tmp 145), (some (143, true))⟩,
  ⟨(some 147), .call 26 [(.tmp 144), (.tmp 146)], (some (143, true))⟩,
  ⟨(some 148), .pick (.tmp 143) (.tmp 147) (.const (.bool false)), none⟩])
 (.cond (.tmp 148) (.seq (.ops [⟨(some 149), .call 27 [], none⟩,
  ⟨(some 4), .mov (.tmp 149), none⟩])
 .ret)
 .skip))
 (.seq (.ops [⟨(some 150), .fldA 0 (.tmp 5), none⟩,
  ⟨(some 151), .load1 (.tmp 150), none⟩,
  ⟨(some 152), .raw (.call ⟨.builtin .min, ⟨[(.tmp 151), (.const (.int .i64 9))]⟩, ⟨[3, 3]⟩⟩) 3, none⟩,
  ⟨(some 153), .raw (.call ⟨.builtin .max, ⟨[(.const (.int .i64 0)), (.tmp 152)]⟩, ⟨[3, 3]⟩⟩) 3, none⟩,
  ⟨(some 154), .make 3 [(.int .i64 0)] 8 (.tmp 153) (.tmp 153), none⟩,
  ⟨(some 20), .mov (.tmp 154), none⟩])
 (.seq (.seq (.ops [⟨(some 155), .mov (.tmp 20), none⟩,
  ⟨(some 156), .lenS (.tmp 155), none⟩,
  ⟨(some 157), .ar .i64 .gtr (.tmp 156) (.const (.int .i64 0)), none⟩])
 (.cond (.tmp 157) (.ops [⟨(some 158), .mov (.tmp 20), none⟩,
  ⟨(some 159), .idxS 1 (.tmp 158) (.const (.int .i64 0)), none⟩,
  ⟨none, .store 1 (.tmp 159) (.const (.int .i64 1)), none⟩])
 .skip))
 (.seq (.ops [⟨(some 161), .loadN 4 (.tmp 6), none⟩,
  ⟨(some 162), .mov (.tmp 7), none⟩,
  ⟨(some 163), .call 28 [(.tmp 161), (.tmp 162), (.const (.slice none 0 0))], none⟩,
  ⟨(some 160), .mov (.tmp 163), none⟩,
  ⟨(some 164), .ext (.tmp 160) 0, none⟩,
  ⟨(some 165), .ext (.tmp 160) 1, none⟩,
  ⟨(some 166), .ext (.tmp 160) 2, none⟩,
  ⟨(some 21), .mov (.tmp 164), none⟩,
  ⟨(some 22), .mov (.tmp 165), none⟩,
  ⟨(some 23), .mov (.tmp 166), none⟩])
 (.seq (.ops [⟨(some 168), .loadN 4 (.tmp 6), none⟩,
  ⟨(some 169), .mov (.tmp 20), none⟩,
  ⟨(some 170), .mov (.tmp 7), none⟩,
  ⟨(some 171), .call 29 [(.tmp 168), (.tmp 169), (.tmp 170)], none⟩,
  ⟨(some 167), .mov (.tmp 171), none⟩,
  ⟨(some 172), .ext (.tmp 167) 0, none⟩,
  ⟨(some 173), .ext (.tmp 167) 1, none⟩,
  ⟨(some 174), .ext (.tmp 167) 2, none⟩,
  ⟨(some 24), .mov (.tmp 172), none⟩,
  ⟨(some 25), .mov (.tmp 173), none⟩,
  ⟨(some 26), .mov (.tmp 174), none⟩])
 (.seq (.ops [⟨(some 176), .loadN 4 (.tmp 6), none⟩,
  ⟨(some 177), .mov (.tmp 7), none⟩,
  ⟨(some 178), .mov (.tmp 20), none⟩,
  ⟨(some 179), .call 29 [(.tmp 176), (.tmp 177), (.tmp 178)], none⟩,
  ⟨(some 175), .mov (.tmp 179), none⟩,
  ⟨(some 180), .ext (.tmp 175) 0, none⟩,
  ⟨(some 181), .ext (.tmp 175) 1, none⟩,
  ⟨(some 182), .ext (.tmp 175) 2, none⟩,
  ⟨(some 27), .mov (.tmp 180), none⟩,
  ⟨(some 28), .mov (.tmp 181), none⟩,
  ⟨(some 29), .mov (.tmp 182), none⟩])
 (.seq (.ops [⟨(some 184), .loadN 4 (.tmp 6), none⟩,
  ⟨(some 185), .mov (.tmp 7), none⟩,
  ⟨(some 186), .call 30 [(.tmp 184), (.tmp 185)], none⟩,
  ⟨(some 183), .mov (.tmp 186), none⟩,
  ⟨(some 187), .ext (.tmp 183) 0, none⟩,
  ⟨(some 188), .ext (.tmp 183) 1, none⟩,
  ⟨(some 30), .mov (.tmp 187), none⟩,
  ⟨(some 31), .mov (.tmp 188), none⟩])
 (.seq (.ops [⟨(some 190), .loadN 4 (.tmp 6), none⟩,
  ⟨(some 191), .mov (.tmp 7), none⟩,
  ⟨(some 192), .call 31 [(.tmp 190), (.tmp 191)], none⟩,
  ⟨(some 189), .mov (.tmp 192), none⟩,
  ⟨(some 193), .ext (.tmp 189) 0, none⟩,
  ⟨(some 194), .ext (.tmp 189) 1, none⟩,
  ⟨(some 195), .ext (.tmp 189) 2, none⟩,
  ⟨(some 32), .mov (.tmp 193), none⟩,
  ⟨(some 33), .mov (.tmp 194), none⟩,
  ⟨(some 34), .mov (.tmp 195), none⟩])
 (.seq (.ops [⟨(some 197), .loadN 4 (.tmp 6), none⟩,
  ⟨(some 198), .mov (.tmp 7), none⟩,
  ⟨(some 199), .call 32 [(.tmp 197), (.tmp 198)], none⟩,
  ⟨(some 196), .mov (.tmp 199), none⟩,
  ⟨(some 200), .ext (.tmp 196) 0, none⟩,
  ⟨(some 201), .ext (.tmp 196) 1, none⟩,
  ⟨(some 202), .ext (.tmp 196) 2, none⟩,
  ⟨(some 35), .mov (.tmp 200), none⟩,
  ⟨(some 36), .mov (.tmp 201), none⟩,
  ⟨(some 37), .mov (.tmp 202), none⟩])
 (.seq (.ops [⟨(some 204), .loadN 4 (.tmp 6), none⟩,
  ⟨(some 205), .mov (.tmp 20), none⟩,
  ⟨(some 206), .mov (.tmp 7), none⟩,
  ⟨(some 207), .call 33 [(.tmp 204), (.tmp 205), (.tmp 206)], none⟩,
  ⟨(some 203), .mov (.tmp 207), none⟩,
  ⟨(some 208), .ext (.tmp 203) 0, none⟩,
  ⟨(some 209), .ext (.tmp 203) 1, none⟩,
  ⟨(some 210), .ext (.tmp 203) 2, none⟩,
  ⟨(some 38), .mov (.tmp 208), none⟩,
  ⟨(some 39), .mov (.tmp 209), none⟩,
  ⟨(some 40), .mov (.tmp 210), none⟩])
 (.seq (.ops [⟨(some 211), .mov (.tmp 23), none⟩,
  ⟨(some 212), .mov (.tmp 8), none⟩,
  ⟨(some 213), .ar .i64 .eql (.tmp 211) (.tmp 212), none⟩,
  ⟨(some 214), .mov (.tmp 213), none⟩,
  ⟨(some 215), .mov (.tmp 26), (some (214, true))⟩,
  ⟨(some 216), .mov (.tmp 8), (some (214, true))⟩,
  ⟨(some 217), .ar .i64 .eql (.tmp 215) (.tmp 216), (some (214, true))⟩,
  ⟨(some 218), .pick (.tmp 214) (.tmp 217) (.const (.bool false)), none⟩,
  ⟨(some 219), .mov (.tmp 218), none⟩,
  ⟨(some 220), .mov (.tmp 29), (some (219, true))⟩,
  ⟨(some 221), .mov (.tmp 8), (some (219, true))⟩,
  ⟨(some 222), .ar .i64 .eql (.tmp 220) (.tmp 221), (some (219, true))⟩,
  ⟨(some 223), .pick (.tmp 219) (.tmp 222) (.const (.bool false)), none⟩,
  ⟨(some 224), .mov (.tmp 223), none⟩,
  ⟨(some 225), .mov (.tmp 31), (some (224, true))⟩,
  ⟨(some 226), .mov (.tmp 8), (some (224, true))⟩,
  ⟨(some 227), .ar .i64 .eql (.tmp 225) (.tmp 226), (some (224, true))⟩,
  ⟨(some 228), .pick (.tmp 224) (.tmp 227) (.const (.bool false)), none⟩,
  ⟨(some 229), .mov (.tmp 228), none⟩,
  ⟨(some 230), .mov (.tmp 34), (some (229, true))⟩,
  ⟨(some 231), .mov (.tmp 8), (some (229, true))⟩,
  ⟨(some 232), .ar .i64 .eql (.tmp 230) (.tmp 231), (some (229, true))⟩,
  ⟨(some 233), .pick (.tmp 229) (.tmp 232) (.const (.bool false)), none⟩,
  ⟨(some 234), .mov (.tmp 233), none⟩,
  ⟨(some 235), .mov (.tmp 37), (some (234, true))⟩,
  ⟨(some 236), .mov (.tmp 8), (some (234, true))⟩,
  ⟨(some 237), .ar .i64 .eql (.tmp 235) (.tmp 236), (some (234, true))⟩,
  ⟨(some 238), .pick (.tmp 234) (.tmp 237) (.const (.bool false)), none⟩,
  ⟨(some 239), .mov (.tmp 238), none⟩,
  ⟨(some 240), .mov (.tmp 40), (some (239, true))⟩,
  ⟨(some 241), .mov (.tmp 8), (some (239, true))⟩,
  ⟨(some 242), .ar .i64 .eql (.tmp 240) (.tmp 241), (some (239, true))⟩,
  ⟨(some 243), .pick (.tmp 239) (.tmp 242) (.const (.bool false)), none⟩,
  ⟨(some 244), .mov (.tmp 243), none⟩,
  ⟨(some 245), .mov (.tmp 25), (some (244, true))⟩,
  ⟨(some 246), .not (.tmp 245), (some (244, true))⟩,
  ⟨(some 247), .pick (.tmp 244) (.tmp 246) (.const (.bool false)), none⟩,
  ⟨(some 248), .mov (.tmp 247), none⟩,
  ⟨(some 249), .mov (.tmp 28), (some (248, true))⟩,
  ⟨(some 250), .not (.tmp 249), (some (248, true))⟩,
  ⟨(some 251), .pick (.tmp 248) (.tmp 250) (.const (.bool false)), none⟩,
  ⟨(some 252), .mov (.tmp 251), none⟩,
  ⟨(some 253), .mov (.tmp 33), (some (252, true))⟩,
  ⟨(some 254), .not (.tmp 253), (some (252, true))⟩,
  ⟨(some 255), .pick (.tmp 252) (.tmp 254) (.const (.bool false)), none⟩,
  ⟨(some 256), .mov (.tmp 255), none⟩,
  ⟨(some 257), .mov (.tmp 36), (some (256, true))⟩,
  ⟨(some 258), .not (.tmp 257), (some (256, true))⟩,
  ⟨(some 259), .pick (.tmp 256) (.tmp 258) (.const (.bool false)), none⟩,
  ⟨(some 260), .mov (.tmp 259), none⟩,
  ⟨(some 261), .mov (.tmp 39), (some (260, true))⟩,
  ⟨(some 262), .not (.tmp 261), (some (260, true))⟩,
  ⟨(some 263), .pick (.tmp 260) (.tmp 262) (.const (.bool false)), none⟩,
  ⟨(some 264), .mov (.tmp 263), none⟩,
  ⟨(some 265), .mov (.tmp 21), (some (264, true))⟩,
  ⟨(some 266), .lenS (.tmp 265), (some (264, true))⟩,
  ⟨(some 267), .mov (.tmp 22), (some (264, true))⟩,
  ⟨(some 268), .ar .i64 .add (.tmp 266) (.tmp 267), (some (264, true))⟩,
  ⟨(some 269), .mov (.tmp 24), (some (264, true))⟩,
  ⟨(some 270), .lenS (.tmp 269), (some (264, true))⟩,
  ⟨(some 271), .ar .i64 .add (.tmp 268) (.tmp 270), (some (264, true))⟩,
  ⟨(some 272), .mov (.tmp 27), (some (264, true))⟩,
  ⟨(some 273), .lenS (.tmp 272), (some (264, true))⟩,
  ⟨(some 274), .ar .i64 .add (.tmp 271) (.tmp 273), (some (264, true))⟩,
  ⟨(some 275), .mov (.tmp 30), (some (264, true))⟩,
  ⟨(some 276), .ar .i64 .add (.tmp 274) (.tmp 275), (some (264, true))⟩,
  ⟨(some 277), .mov (.tmp 32), (some (264, true))⟩,
  ⟨(some 278), .ar .i64 .add (.tmp 276) (.tmp 277), (some (264, true))⟩,
  ⟨(some 279), .mov (.tmp 35), (some (264, true))⟩,
  ⟨(some 280), .ar .i64 .add (.tmp 278) (.tmp 279), (some (264, true))⟩,
  ⟨(some 281), .mov (.tmp 38), (some (264, true))⟩,
  ⟨(some 282), .lenS (.tmp 281), (some (264, true))⟩,
  ⟨(some 283), .ar .i64 .add (.tmp 280) (.tmp 282), (some (264, true))⟩,
  ⟨(some 284), .ar .i64 .eql (.tmp 283) (.const (.int .i64 0)), (some (264, true))⟩,
  ⟨(some 285), .pick (.tmp 264) (.tmp 284) (.const (.bool false)), none⟩,
  ⟨(some 286), .mov (.tmp 285), none⟩,
  ⟨(some 287), .call 27 [], (some (286, true))⟩,
  ⟨(some 288), .pick (.tmp 286) (.tmp 287) (.const (.bool false)), none⟩,
  ⟨(some 4), .mov (.tmp 288), none⟩])
 .ret)))))))))))))))))))
theorem enter3 {xs : List Value} {h : Hp} {Q : Value → Hp → Prop} (hl : xs.length ≤ 289) (w : wq E 289 none c3 (frameOf xs) h [] (leaveQ E [.tmp 4] Q)) : CallP E 3 xs h Q :=
  CallP.enterQ (fn := Try.f3) (fn_get Try.func3) (code := Try.f3.body.get rfl) rfl rfl rfl (by kernel_rfl) rfl (fun _ => rfl) hl w
theorem can3 : callable E 3 = true := callable_get Try.func3 rfl rfl

/-- tosher/tosherlaw06.TallyMeets -/
def c4 : C := (.seq (.ops [⟨(some 3), .box 25 (.tmp 0), none⟩,
  ⟨(some 6), .mov (.const (.bool false)), none⟩])
 (.seq (.ops [⟨(some 23), .loadN 4 (.tmp 3), none⟩,
  ⟨(some 24), .call 34 [(.tmp 23), (.const (.int .i64 5))], none⟩,
  ⟨(some 7), .alloc 26 [(.int .i64 0), (.slice none 0 0), (.slice none 0 0), (.slice none 0 0)], none⟩,
  ⟨none, .store 4 (.tmp 7) (.tmp 24), none⟩])
 (.seq (.ops [⟨(some 25), .mov (.tmp 1), none⟩,
  ⟨(some 26), .fldA 0 (.tmp 7), none⟩,
  ⟨(some 27), .load1 (.tmp 26), none⟩,
  ⟨(some 28), .call 35 [(.tmp 25), (.tmp 27), (.const (.int .i64 9))], none⟩,
  ⟨(some 8), .mov (.tmp 28), none⟩])
 (.seq (.ops [⟨(some 29), .mov (.tmp 2), none⟩,
  ⟨(some 30), .call 19 [(.tmp 29), (.const (.int .i64 60))], none⟩,
  ⟨(some 9), .mov (.tmp 30), none⟩])
 (.seq (.seq (.ops [⟨(some 10), .mov (.const (.int .i64 0)), none⟩])
 (.block 0 (.loop (.seq (.seq (.ops [⟨(some 31), .mov (.tmp 10), none⟩,
  ⟨(some 32), .ar .i64 .lss (.tmp 31) (.const (.int .i64 2)), none⟩])
 (.cond (.tmp 32) .skip
 (.exit 0)))
 (.seq (.block 1 (.seq (.ops [⟨(some 36), .loadN 4 (.tmp 7), none⟩,
  ⟨(some 37), .call 18 [(.tmp 36)], none⟩,
  ⟨(some 38), .mov (.tmp 8), none⟩,
  ⟨(some 39), .mov (.tmp 9), none⟩,
  ⟨(some 40), .call 28 [(.tmp 37), (.tmp 38), (.tmp 39)], none⟩,
  ⟨(some 35), .mov (.tmp 40), none⟩,
  ⟨(some 41), .ext (.tmp 35) 0, none⟩,
  ⟨(some 42), .ext (.tmp 35) 1, none⟩,
  ⟨(some 43), .ext (.tmp 35) 2, none⟩,
  ⟨(some 11), .mov (.tmp 41), none⟩,
  ⟨(some 12), .mov (.tmp 42), none⟩,
  ⟨(some 13), .mov (.tmp 43), none⟩])
 (.seq (.ops [⟨(some 45), .loadN 4 (.tmp 7), none⟩,
  ⟨(some 46), .mov (.tmp 8), none⟩,
  ⟨(some 47), .mov (.tmp 9), none⟩,
  ⟨(some 48), .call 36 [(.tmp 45), (.tmp 46), (.tmp 47)], none⟩,
  ⟨(some 44), .mov (.tmp 48), none⟩,
  ⟨(some 49), .ext (.tmp 44) 0, none⟩,
  ⟨(some 50), .ext (.tmp 44) 1, none⟩,
  ⟨(some 14), .mov (.tmp 49), none⟩,
  ⟨(some 15), .mov (.tmp 50), none⟩])
 (.seq (.seq (.ops [⟨(some 51), .mov (.tmp 13), none⟩,
  ⟨(some 52), .ar .i64 .neq (.tmp 51) (.const (.int .i64 0)), none⟩,
  ⟨(some 53), .mov (.tmp 52), none⟩,
  ⟨(some 54), .mov (.tmp 11), (some (53, false))⟩,
  ⟨(some 55), .mov (.tmp 14), (some (53, false))⟩,
  ⟨(some 56), .call 37 [(.tmp 54), (.tmp 55)], (some (53, false))⟩,
  ⟨(some 57), .not (.tmp 56), (some (53, false))⟩,
  ⟨(some 58), .pick (.tmp 53) (.const (.bool true)) (.tmp 57), none⟩,
  ⟨(some 59), .mov (.tmp 58), none⟩,
  ⟨(some 60), .mov (.tmp 12), (some (59, false))⟩,
  ⟨(some 61), .mov (.tmp 15), (some (59, false))⟩,
  ⟨(some 62), .ar .i64 .neq (.tmp 60) (.tmp 61), (some (59, false))⟩,
  ⟨(some 63), .pick (.tmp 59) (.const (.bool true)) (.tmp 62), none⟩])
 (.cond (.tmp 63) (.seq (.ops [⟨(some 6), .mov (.const (.bool false)), none⟩])
 .ret)
 .skip))
 (.seq (.ops [⟨(some 64), .mov (.tmp 8), none⟩,
  ⟨(some 16), .mov (.tmp 64), none⟩])
 (.seq (.ops [⟨(some 17), .mov (.const (.slice none 0 0)), none⟩])
 (.seq (.seq (.ops [⟨(some 18), .mov (.const (.int .i64 0)), none⟩])
 (.block 2 (.loop (.seq (.seq (.ops [⟨(some 65), .mov (.tmp 18), none⟩,
  ⟨(some 66), .mov (.tmp 9), none⟩,
  ⟨(some 67), .lenS (.tmp 66), none⟩,
  ⟨(some 68), .ar .i64 .lss (.tmp 65) (.tmp 67), none⟩])
 (.cond (.tmp 68) .skip
 (.exit 2)))
 (.seq (.block 3 (.seq (.ops [⟨(some 19), .mov (.const (.int .i64 0)), none⟩])
 (.block 4 (.loop (.seq (.seq (.ops [⟨(some 71), .mov (.tmp 19), none⟩,
  ⟨(some 72), .fldA 3 (.tmp 7), none⟩,
  ⟨(some 73), .load1 (.tmp 72), none⟩,
  ⟨(some 74), .lenS (.tmp 73), none⟩,
  ⟨(some 75), .ar .i64 .lss (.tmp 71) (.tmp 74), none⟩])
 (.cond (.tmp 75) .skip
 (.exit 4)))
 (.seq (.block 5 (.seq (.ops [⟨(some 78), .mov (.tmp 9), none⟩,
  ⟨(some 79), .mov (.tmp 18), none⟩,
  ⟨(some 80), .idxS 1 (.tmp 78) (.tmp 79), none⟩,
  ⟨(some 81), .load1 (.tmp 80), none⟩,
  ⟨(some 82), .cint .u64 (.tmp 81), none⟩,
  ⟨(some 83), .fldA 3 (.tmp 7), none⟩,
  ⟨(some 84), .load1 (.tmp 83), none⟩,
  ⟨(some 85), .lenS (.tmp 84), none⟩,
  ⟨(some 86), .cint .u64 (.tmp 85), none⟩,
  ⟨(some 87), .ar .u64 .rem (.tmp 82) (.tmp 86), none⟩,
  ⟨(some 88), .cint .i64 (.tmp 87), none⟩,
  ⟨(some 89), .mov (.tmp 19), none⟩,
  ⟨(some 90), .ar .i64 .add (.tmp 88) (.tmp 89), none⟩,
  ⟨(some 91), .fldA 3 (.tmp 7), none⟩,
  ⟨(some 92), .load1 (.tmp 91), none⟩,
  ⟨(some 93), .lenS (.tmp 92), none⟩,
  ⟨(some 94), .ar .i64 .rem (.tmp 90) (.tmp 93), none⟩,
  ⟨(some 20), .mov (.tmp 94), none⟩])
 (.seq (.ops [⟨(some 96), .loadN 4 (.tmp 7), none⟩,
  ⟨(some 97), .mov (.tmp 16), none⟩,
  ⟨(some 98), .mov (.tmp 20), none⟩,
  ⟨(some 99), .call 38 [(.tmp 96), (.tmp 97), (.tmp 98)], none⟩,
  ⟨(some 95), .mov (.tmp 99), none⟩,
  ⟨(some 100), .ext (.tmp 95) 0, none⟩,
  ⟨(some 101), .ext (.tmp 95) 1, none⟩,
  ⟨(some 21), .mov (.tmp 100), none⟩,
  ⟨(some 22), .mov (.tmp 101), none⟩])
 (.seq (.ops [⟨(some 102), .mov (.tmp 22), none⟩])
 (.cond (.tmp 102) (.seq (.ops [⟨(some 103), .mov (.tmp 21), none⟩,
  ⟨(some 16), .mov (.tmp 103), none⟩])
 (.seq (.ops [⟨(some 104), .mov (.tmp 17), none⟩,
  ⟨(some 105), .mov (.tmp 20), none⟩,
  ⟨(some 106), .slit 3 1 [(.int .i64 0)] [(0, 1, (.tmp 105))], none⟩,
  ⟨(some 107), .append 3 1 8 (.tmp 104) (.tmp 106), none⟩,
  ⟨(some 17), .mov (.tmp 107), none⟩])
 (.exit 4)))
 .skip)))))
 (.ops [⟨(some 76), .mov (.tmp 19), none⟩,
  ⟨(some 77), .ar .i64 .add (.tmp 76) (.const (.int .i64 1)), none⟩,
  ⟨(some 19), .mov (.tmp 77), none⟩])))))))
 (.ops [⟨(some 69), .mov (.tmp 18), none⟩,
  ⟨(some 70), .ar .i64 .add (.tmp 69) (.const (.int .i64 1)), none⟩,
  ⟨(some 18), .mov (.tmp 70), none⟩]))))))
 (.ops [⟨(some 108), .mov (.tmp 17), none⟩,
  ⟨(some 9), .mov (.tmp 108), none⟩]))))))))
 (.ops [⟨(some 33), .mov (.tmp 10), none⟩,
  ⟨(some 34), .ar .i64 .add (.tmp 33) (.const (.int .i64 1)), none⟩,
  ⟨(some 10), .mov (.tmp 34), none⟩]))))))
 (.seq (.ops [⟨(some 109), .call 27 [], none⟩,
  ⟨(some 6), .mov (.tmp 109), none⟩])
 .ret))))))
theorem enter4 {xs : List Value} {h : Hp} {Q : Value → Hp → Prop} (hl : xs.length ≤ 110) (w : wq E 110 none c4 (frameOf xs) h [] (leaveQ E [.tmp 6] Q)) : CallP E 4 xs h Q :=
  CallP.enterQ (fn := Try.f4) (fn_get Try.func4) (code := Try.f4.body.get rfl) rfl rfl rfl (by kernel_rfl) rfl (fun _ => rfl) hl w
theorem can4 : callable E 4 = true := callable_get Try.func4 rfl rfl

/-- tosher/tosherlaw06.TallyWays -/
def c5 : C := (.seq (.ops [⟨(some 2), .box 25 (.tmp 0), none⟩,
  ⟨(some 3), .box 61 (.tmp 1), none⟩,
  ⟨(some 4), .mov (.const (.bool false)), none⟩])
 (.seq (.ops [⟨(some 19), .loadN 4 (.tmp 2), none⟩,
  ⟨(some 20), .call 34 [(.tmp 19), (.const (.int .i64 5))], none⟩,
  ⟨(some 5), .alloc 26 [(.int .i64 0), (.slice none 0 0), (.slice none 0 0), (.slice none 0 0)], none⟩,
  ⟨none, .store 4 (.tmp 5) (.tmp 20), none⟩])
 (.seq (.ops [⟨(some 21), .loadN 4 (.tmp 5), none⟩,
  ⟨(some 22), .call 18 [(.tmp 21)], none⟩,
  ⟨(some 6), .alloc 25 [(.int .i64 0), (.slice none 0 0), (.slice none 0 0), (.slice none 0 0)], none⟩,
  ⟨none, .store 4 (.tmp 6) (.tmp 22), none⟩])
 (.seq (.draw [⟨(some 23), .idxA 2 1 (.tmp 3) (.const (.int .i64 0)), none⟩,
  ⟨(some 24), .load1 (.tmp 23), none⟩,
  ⟨(some 25), .fldA 0 (.tmp 5), none⟩,
  ⟨(some 26), .load1 (.tmp 25), none⟩,
  ⟨(some 27), .call 35 [(.tmp 24), (.tmp 26), (.const (.int .i64 9))], none⟩,
  ⟨(some 28), .idxA 2 1 (.tmp 3) (.const (.int .i64 1)), none⟩,
  ⟨(some 29), .load1 (.tmp 28), none⟩,
  ⟨(some 30), .fldA 0 (.tmp 5), none⟩,
  ⟨(some 31), .load1 (.tmp 30), none⟩,
  ⟨(some 32), .call 35 [(.tmp 29), (.tmp 31), (.const (.int .i64 9))], none⟩,
  ⟨(some 7), .mov (.tmp 27), none⟩,
  ⟨(some 8), .mov (.tmp 32), none⟩]
  [⟨false, false, [false, false, false, false, false, false, false, false, false, false, false, false], [false, false, false, false, false, false, false, false, false, false, false, false]⟩,
  ⟨false, false, [false, false, false, false, false, false, false, false, false, false, false, false], [false, false, false, false, false, false, false, false, false, false, false, false]⟩,
  ⟨false, false, [false, false, false, false, false, false, false, false, false, false, false, false], [false, false, false, false, false, false, false, false, false, false, false, false]⟩,
  ⟨false, false, [false, false, false, false, false, false, false, false, false, false, false, false], [false, false, false, false, false, false, false, false, false, false, false, false]⟩,
  ⟨true, false, [false, false, false, false, false, false, false, false, false, false, false, false], [false, false, false, false, true, false, false, false, false, false, false, false]⟩,
  ⟨false, true, [false, false, false, false, false, false, false, false, false, false, false, false], [false, false, false, false, true, false, false, false, false, false, false, false]⟩,
  ⟨false, true, [false, false, false, false, false, false, false, false, false, false, false, false], [false, false, false, false, true, false, false, false, false, false, false, false]⟩,
  ⟨false, true, [false, false, false, false, false, false, false, false, false, false, false, false], [false, false, false, false, true, false, false, false, false, false, false, false]⟩,
  ⟨false, true, [false, false, false, false, false, false, false, false, false, false, false, false], [false, false, false, false, true, false, false, false, false, false, false, false]⟩,
  ⟨true, false, [false, false, false, false, true, false, false, false, false, false, false, false], [false, false, false, false, true, false, false, false, false, true, false, false]⟩,
  ⟨false, false, [false, false, false, false, true, false, false, false, false, true, false, false], [false, false, false, false, true, false, false, false, false, true, false, false]⟩,
  ⟨false, false, [false, false, false, false, true, false, false, false, false, true, false, false], [false, false, false, false, true, false, false, false, false, true, false, false]⟩])
 (.seq (.ops [⟨(some 33), .loadN 4 (.tmp 5), none⟩,
  ⟨(some 34), .mov (.tmp 7), none⟩,
  ⟨(some 35), .call 39 [(.tmp 33), (.tmp 34)], none⟩,
  ⟨(some 9), .alloc 64 [(.slice none 0 0), (.slice none 0 0), (.slice none 0 0)], none⟩,
  ⟨none, .store 3 (.tmp 9) (.tmp 35), none⟩])
 (.seq (.ops [⟨(some 37), .loadN 4 (.tmp 6), none⟩,
  ⟨(some 38), .mov (.tmp 7), none⟩,
  ⟨(some 39), .call 30 [(.tmp 37), (.tmp 38)], none⟩,
  ⟨(some 36), .mov (.tmp 39), none⟩,
  ⟨(some 40), .ext (.tmp 36) 0, none⟩,
  ⟨(some 41), .ext (.tmp 36) 1, none⟩,
  ⟨(some 10), .mov (.tmp 40), none⟩,
  ⟨(some 11), .mov (.tmp 41), none⟩])
 (.seq (.seq (.ops [⟨(some 42), .mov (.tmp 11), none⟩,
  ⟨(some 43), .ar .i64 .neq (.tmp 42) (.const (.int .i64 0)), none⟩,
  ⟨(some 44), .mov (.tmp 43), none⟩,
  ⟨(some 45), .mov (.tmp 10), (some (44, false))⟩,
  ⟨(some 46), .fldA 0 (.tmp 9), (some (44, false))⟩,
  ⟨(some 47), .load1 (.tmp 46), (some (44, false))⟩,
  ⟨(some 48), .lenS (.tmp 47), (some (44, false))⟩,
  ⟨(some 49), .ar .i64 .neq (.tmp 45) (.tmp 48), (some (44, false))⟩,
  ⟨(some 50), .pick (.tmp 44) (.const (.bool true)) (.tmp 49), none⟩])
 (.cond (.tmp 50) (.seq (.ops [⟨(some 4), .mov (.const (.bool false)), none⟩])
 .ret)
 .skip))
 (.seq (.seq (.ops [⟨(some 12), .mov (.const (.int .i64 0)), none⟩])
 (.block 0 (.loop (.seq (.seq (.ops [⟨(some 51), .mov (.tmp 12), none⟩,
  ⟨(some 52), .ar .i64 .lss (.tmp 51) (.const (.int .i64 2)), none⟩])
 (.cond (.tmp 52) .skip
 (.exit 0)))
 (.seq (.block 1 (.seq (.ops [⟨(some 56), .loadN 4 (.tmp 6), none⟩,
  ⟨(some 57), .mov (.tmp 7), none⟩,
  ⟨(some 58), .mov (.tmp 8), none⟩,
  ⟨(some 59), .call 29 [(.tmp 56), (.tmp 57), (.tmp 58)], none⟩,
  ⟨(some 55), .mov (.tmp 59), none⟩,
  ⟨(some 60), .ext (.tmp 55) 0, none⟩,
  ⟨(some 61), .ext (.tmp 55) 1, none⟩,
  ⟨(some 62), .ext (.tmp 55) 2, none⟩,
  ⟨(some 13), .mov (.tmp 60), none⟩,
  ⟨(some 14), .mov (.tmp 61), none⟩,
  ⟨(some 15), .mov (.tmp 62), none⟩])
 (.seq (.ops [⟨(some 63), .loadN 4 (.tmp 5), none⟩,
  ⟨(some 64), .mov (.tmp 7), none⟩,
  ⟨(some 65), .mov (.tmp 8), none⟩,
  ⟨(some 66), .call 40 [(.tmp 63), (.tmp 64), (.tmp 65)], none⟩,
  ⟨(some 16), .mov (.tmp 66), none⟩])
 (.seq (.seq (.ops [⟨(some 67), .mov (.tmp 15), none⟩,
  ⟨(some 68), .ar .i64 .neq (.tmp 67) (.const (.int .i64 0)), none⟩,
  ⟨(some 69), .mov (.tmp 68), none⟩,
  ⟨(some 70), .mov (.tmp 14), (some (69, false))⟩,
  ⟨(some 71), .mov (.tmp 16), (some (69, false))⟩,
  ⟨(some 72), .ar .i64 .geq (.tmp 71) (.const (.int .i64 0)), (some (69, false))⟩,
  ⟨(some 73), .raw (.binOp .neq 4 (.tmp 70) (.tmp 72) 4) 4, (some (69, false))⟩,
  ⟨(some 74), .pick (.tmp 69) (.const (.bool true)) (.tmp 73), none⟩,
  ⟨(some 75), .mov (.tmp 74), none⟩,
  ⟨(some 76), .mov (.tmp 14), (some (75, false))⟩,
  ⟨(some 77), .not (.tmp 76), (some (75, false))⟩,
  ⟨(some 78), .mov (.tmp 77), (some (75, false))⟩,
  ⟨(some 79), .mov (.tmp 13), (some (78, true))⟩,
  ⟨(some 80), .lenS (.tmp 79), (some (78, true))⟩,
  ⟨(some 81), .ar .i64 .neq (.tmp 80) (.const (.int .i64 0)), (some (78, true))⟩,
  ⟨(some 82), .pick (.tmp 78) (.tmp 81) (.const (.bool false)), (some (75, false))⟩,
  ⟨(some 83), .pick (.tmp 75) (.const (.bool true)) (.tmp 82), none⟩])
 (.cond (.tmp 83) (.seq (.ops [⟨(some 4), .mov (.const (.bool false)), none⟩])
 .ret)
 .skip))
 (.seq (.seq (.ops [⟨(some 85), .loadN 4 (.tmp 5), none⟩,
  ⟨(some 86), .mov (.tmp 7), none⟩,
  ⟨(some 87), .mov (.tmp 13), none⟩,
  ⟨(some 88), .call 36 [(.tmp 85), (.tmp 86), (.tmp 87)], none⟩,
  ⟨(some 84), .mov (.tmp 88), none⟩,
  ⟨(some 89), .ext (.tmp 84) 0, none⟩,
  ⟨(some 90), .ext (.tmp 84) 1, none⟩,
  ⟨(some 17), .mov (.tmp 89), none⟩,
  ⟨(some 18), .mov (.tmp 90), none⟩])
 (.seq (.ops [⟨(some 91), .mov (.tmp 14), none⟩,
  ⟨(some 92), .mov (.tmp 91), none⟩,
  ⟨(some 93), .mov (.tmp 13), (some (92, true))⟩,
  ⟨(some 94), .lenS (.tmp 93), (some (92, true))⟩,
  ⟨(some 95), .mov (.tmp 16), (some (92, true))⟩,
  ⟨(some 96), .ar .i64 .neq (.tmp 94) (.tmp 95), (some (92, true))⟩,
  ⟨(some 97), .mov (.tmp 96), (some (92, true))⟩,
  ⟨(some 98), .mov (.tmp 18), (some (97, false))⟩,
  ⟨(some 99), .mov (.tmp 16), (some (97, false))⟩,
  ⟨(some 100), .ar .i64 .neq (.tmp 98) (.tmp 99), (some (97, false))⟩,
  ⟨(some 101), .pick (.tmp 97) (.const (.bool true)) (.tmp 100), (some (92, true))⟩,
  ⟨(some 102), .mov (.tmp 101), (some (92, true))⟩,
  ⟨(some 103), .mov (.tmp 17), (some (102, false))⟩,
  ⟨(some 104), .mov (.tmp 8), (some (102, false))⟩,
  ⟨(some 105), .call 37 [(.tmp 103), (.tmp 104)], (some (102, false))⟩,
  ⟨(some 106), .not (.tmp 105), (some (102, false))⟩,
  ⟨(some 107), .pick (.tmp 102) (.const (.bool true)) (.tmp 106), (some (92, true))⟩,
  ⟨(some 108), .pick (.tmp 92) (.tmp 107) (.const (.bool false)), none⟩])
 (.cond (.tmp 108) (.seq (.ops [⟨(some 4), .mov (.const (.bool false)), none⟩])
 .ret)
 .skip)))
 (.ops [⟨(some 109), .fldA 0 (.tmp 9), none⟩,
  ⟨(some 110), .load1 (.tmp 109), none⟩,
  ⟨(some 111), .fldA 0 (.tmp 9), none⟩,
  ⟨(some 112), .load1 (.tmp 111), none⟩,
  ⟨(some 113), .lenS (.tmp 112), none⟩,
  ⟨(some 114), .ar .i64 .sub (.tmp 113) (.const (.int .i64 1)), none⟩,
  ⟨(some 115), .idxS 1 (.tmp 110) (.tmp 114), none⟩,
  ⟨(some 116), .load1 (.tmp 115), none⟩,
  ⟨(some 8), .mov (.tmp 116), none⟩]))))))
 (.ops [⟨(some 53), .mov (.tmp 12), none⟩,
  ⟨(some 54), .ar .i64 .add (.tmp 53) (.const (.int .i64 1)), none⟩,
  ⟨(some 12), .mov (.tmp 54), none⟩]))))))
 (.seq (.ops [⟨(some 117), .call 27 [], none⟩,
  ⟨(some 4), .mov (.tmp 117), none⟩])
 .ret)))))))))
theorem enter5 {xs : List Value} {h : Hp} {Q : Value → Hp → Prop} (hl : xs.length ≤ 118) (w : wq E 118 none c5 (frameOf xs) h [] (leaveQ E [.tmp 4] Q)) : CallP E 5 xs h Q :=
  CallP.enterQ (fn := Try.f5) (fn_get Try.func5) (code := Try.f5.body.get rfl) rfl rfl rfl (by kernel_rfl) rfl (fun _ => rfl) hl w
theorem can5 : callable E 5 = true := callable_get Try.func5 rfl rfl

/-- tosher/tosherlaw06.TallyDecides -/
def c6 : C := (.seq (.ops [⟨(some 2), .box 25 (.tmp 0), none⟩,
  ⟨(some 4), .mov (.const (.bool false)), none⟩])
 (.seq (.ops [⟨(some 16), .loadN 4 (.tmp 2), none⟩,
  ⟨(some 17), .call 34 [(.tmp 16), (.const (.int .i64 5))], none⟩,
  ⟨(some 5), .alloc 26 [(.int .i64 0), (.slice none 0 0), (.slice none 0 0), (.slice none 0 0)], none⟩,
  ⟨none, .store 4 (.tmp 5) (.tmp 17), none⟩])
 (.seq (.ops [⟨(some 18), .loadN 4 (.tmp 5), none⟩,
  ⟨(some 19), .call 18 [(.tmp 18)], none⟩,
  ⟨(some 6), .alloc 25 [(.int .i64 0), (.slice none 0 0), (.slice none 0 0), (.slice none 0 0)], none⟩,
  ⟨none, .store 4 (.tmp 6) (.tmp 19), none⟩])
 (.seq (.ops [⟨(some 20), .mov (.tmp 1), none⟩,
  ⟨(some 21), .fldA 0 (.tmp 5), none⟩,
  ⟨(some 22), .load1 (.tmp 21), none⟩,
  ⟨(some 23), .call 35 [(.tmp 20), (.tmp 22), (.const (.int .i64 7))], none⟩,
  ⟨(some 7), .mov (.tmp 23), none⟩])
 (.seq (.ops [⟨(some 25), .loadN 4 (.tmp 6), none⟩,
  ⟨(some 26), .mov (.tmp 7), none⟩,
  ⟨(some 27), .call 31 [(.tmp 25), (.tmp 26)], none⟩,
  ⟨(some 24), .mov (.tmp 27), none⟩,
  ⟨(some 28), .ext (.tmp 24) 0, none⟩,
  ⟨(some 29), .ext (.tmp 24) 1, none⟩,
  ⟨(some 30), .ext (.tmp 24) 2, none⟩,
  ⟨(some 8), .mov (.tmp 28), none⟩,
  ⟨(some 9), .mov (.tmp 29), none⟩,
  ⟨(some 10), .mov (.tmp 30), none⟩])
 (.seq (.ops [⟨(some 32), .loadN 4 (.tmp 6), none⟩,
  ⟨(some 33), .mov (.tmp 7), none⟩,
  ⟨(some 34), .call 32 [(.tmp 32), (.tmp 33)], none⟩,
  ⟨(some 31), .mov (.tmp 34), none⟩,
  ⟨(some 35), .ext (.tmp 31) 0, none⟩,
  ⟨(some 36), .ext (.tmp 31) 1, none⟩,
  ⟨(some 37), .ext (.tmp 31) 2, none⟩,
  ⟨(some 11), .mov (.tmp 35), none⟩,
  ⟨(some 12), .mov (.tmp 36), none⟩,
  ⟨(some 13), .mov (.tmp 37), none⟩])
 (.seq (.draw [⟨(some 38), .loadN 4 (.tmp 5), none⟩,
  ⟨(some 39), .mov (.tmp 7), none⟩,
  ⟨(some 40), .call 41 [(.tmp 38), (.tmp 39)], none⟩,
  ⟨(some 41), .loadN 4 (.tmp 5), none⟩,
  ⟨(some 42), .mov (.tmp 7), none⟩,
  ⟨(some 43), .call 42 [(.tmp 41), (.tmp 42)], none⟩,
  ⟨(some 14), .mov (.tmp 40), none⟩,
  ⟨(some 15), .mov (.tmp 43), none⟩]
  [⟨false, false, [false, false, false, false, false, false, false, false], [false, false, false, false, false, false, false, false]⟩,
  ⟨false, false, [false, false, false, false, false, false, false, false], [false, false, false, false, false, false, false, false]⟩,
  ⟨true, false, [false, false, false, false, false, false, false, false], [false, false, true, false, false, false, false, false]⟩,
  ⟨false, true, [false, false, false, false, false, false, false, false], [false, false, true, false, false, false, false, false]⟩,
  ⟨false, true, [false, false, false, false, false, false, false, false], [false, false, true, false, false, false, false, false]⟩,
  ⟨true, false, [false, false, true, false, false, false, false, false], [false, false, true, false, false, true, false, false]⟩,
  ⟨false, false, [false, false, true, false, false, true, false, false], [false, false, true, false, false, true, false, false]⟩,
  ⟨false, false, [false, false, true, false, false, true, false, false], [false, false, true, false, false, true, false, false]⟩])
 (.seq (.ops [⟨(some 44), .mov (.tmp 10), none⟩,
  ⟨(some 45), .ar .i64 .eql (.tmp 44) (.const (.int .i64 0)), none⟩,
  ⟨(some 46), .mov (.tmp 45), none⟩,
  ⟨(some 47), .mov (.tmp 9), (some (46, true))⟩,
  ⟨(some 48), .mov (.tmp 14), (some (46, true))⟩,
  ⟨(some 49), .ar .i64 .geq (.tmp 48) (.const (.int .i64 0)), (some (46, true))⟩,
  ⟨(some 50), .raw (.binOp .eql 4 (.tmp 47) (.tmp 49) 4) 4, (some (46, true))⟩,
  ⟨(some 51), .pick (.tmp 46) (.tmp 50) (.const (.bool false)), none⟩,
  ⟨(some 52), .mov (.tmp 51), none⟩,
  ⟨(some 53), .mov (.tmp 8), (some (52, true))⟩,
  ⟨(some 54), .mov (.tmp 14), (some (52, true))⟩,
  ⟨(some 55), .raw (.call ⟨.builtin .max, ⟨[(.tmp 54), (.const (.int .i64 0))]⟩, ⟨[3, 3]⟩⟩) 3, (some (52, true))⟩,
  ⟨(some 56), .ar .i64 .eql (.tmp 53) (.tmp 55), (some (52, true))⟩,
  ⟨(some 57), .pick (.tmp 52) (.tmp 56) (.const (.bool false)), none⟩,
  ⟨(some 58), .mov (.tmp 57), none⟩,
  ⟨(some 59), .mov (.tmp 13), (some (58, true))⟩,
  ⟨(some 60), .ar .i64 .eql (.tmp 59) (.const (.int .i64 0)), (some (58, true))⟩,
  ⟨(some 61), .pick (.tmp 58) (.tmp 60) (.const (.bool false)), none⟩,
  ⟨(some 62), .mov (.tmp 61), none⟩,
  ⟨(some 63), .mov (.tmp 12), (some (62, true))⟩,
  ⟨(some 64), .mov (.tmp 15), (some (62, true))⟩,
  ⟨(some 65), .ar .i64 .geq (.tmp 64) (.const (.int .i64 0)), (some (62, true))⟩,
  ⟨(some 66), .raw (.binOp .eql 4 (.tmp 63) (.tmp 65) 4) 4, (some (62, true))⟩,
  ⟨(some 67), .pick (.tmp 62) (.tmp 66) (.const (.bool false)), none⟩,
  ⟨(some 68), .mov (.tmp 67), none⟩,
  ⟨(some 69), .mov (.tmp 11), (some (68, true))⟩,
  ⟨(some 70), .mov (.tmp 15), (some (68, true))⟩,
  ⟨(some 71), .raw (.call ⟨.builtin .max, ⟨[(.tmp 70), (.const (.int .i64 0))]⟩, ⟨[3, 3]⟩⟩) 3, (some (68, true))⟩,
  ⟨(some 72), .ar .i64 .eql (.tmp 69) (.tmp 71), (some (68, true))⟩,
  ⟨(some 73), .pick (.tmp 68) (.tmp 72) (.const (.bool false)), none⟩,
  ⟨(some 74), .mov (.tmp 73), none⟩,
  ⟨(some 75), .call 27 [], (some (74, true))⟩,
  ⟨(some 76), .pick (.tmp 74) (.tmp 75) (.const (.bool false)), none⟩,
  ⟨(some 4), .mov (.tmp 76), none⟩])
 .ret))))))))
theorem enter6 {xs : List Value} {h : Hp} {Q : Value → Hp → Prop} (hl : xs.length ≤ 77) (w : wq E 77 none c6 (frameOf xs) h [] (leaveQ E [.tmp 4] Q)) : CallP E 6 xs h Q :=
  CallP.enterQ (fn := Try.f6) (fn_get Try.func6) (code := Try.f6.body.get rfl) rfl rfl rfl (by kernel_rfl) rfl (fun _ => rfl) hl w
theorem can6 : callable E 6 = true := callable_get Try.func6 rfl rfl

/-- tosher/tosherlaw06.TallyTrue -/
def c7 : C := (.seq (.ops [⟨(some 3), .box 25 (.tmp 0), none⟩,
  ⟨(some 4), .box 36 (.tmp 1), none⟩,
  ⟨(some 6), .mov (.const (.bool false)), none⟩])
 (.seq (.ahead [⟨(some 15), .mov (.tmp 2), none⟩,
  ⟨(some 16), .call 19 [(.tmp 15), (.const (.int .i64 3))], none⟩,
  ⟨(some 17), .fldA 0 (.tmp 4), none⟩,
  ⟨(some 18), .load1 (.tmp 17), none⟩,
  ⟨(some 19), .call 19 [(.tmp 18), (.const (.int .i64 3))], none⟩,
  ⟨(some 20), .fldA 1 (.tmp 4), none⟩,
  ⟨(some 21), .load1 (.tmp 20), none⟩,
  ⟨(some 22), .fldA 2 (.tmp 4), none⟩,
  ⟨(some 23), .load1 (.tmp 22), none⟩,
  ⟨(some 24), .aggr [(.slice none 0 0), (.int .i64 0), (.int .i64 0)] [(0, 1, (.tmp 19)), (1, 1, (.tmp 21)), (2, 1, (.tmp 23))], none⟩,
  ⟨(some 8), .alloc 69 [(.slice none 0 0), (.int .i64 0), (.int .i64 0)], none⟩,
  ⟨(some 7), .mov (.tmp 16), none⟩,
  ⟨none, .store 3 (.tmp 8) (.tmp 24), none⟩]
  [⟨false, false, [false, false, false, false, false, false, false, false, false, false, false, false, false], [false, false, false, false, false, false, false, false, false, false, false, false, false]⟩,
  ⟨true, false, [false, false, false, false, false, false, false, false, false, false, false, false, false], [false, true, false, false, false, false, false, false, false, false, false, false, false]⟩,
  ⟨false, true, [false, false, false, false, false, false, false, false, false, false, false, false, false], [false, true, false, false, false, false, false, false, false, false, false, false, false]⟩,
  ⟨false, true, [false, false, false, false, false, false, false, false, false, false, false, false, false], [false, true, false, false, false, false, false, false, false, false, false, false, false]⟩,
  ⟨true, false, [false, true, false, false, false, false, false, false, false, false, false, false, false], [false, true, false, false, true, false, false, false, false, false, false, false, false]⟩,
  ⟨false, true, [false, false, false, false, false, false, false, false, false, false, false, false, false], [false, true, false, false, true, false, false, false, false, false, false, false, false]⟩,
  ⟨false, true, [false, false, false, false, false, false, false, false, false, false, false, false, false], [false, true, false, false, true, false, false, false, false, false, false, false, false]⟩,
  ⟨false, true, [false, false, false, false, false, false, false, false, false, false, false, false, false], [false, true, false, false, true, false, false, false, false, false, false, false, false]⟩,
  ⟨false, true, [false, false, false, false, false, false, false, false, false, false, false, false, false], [false, true, false, false, true, false, false, false, false, false, false, false, false]⟩,
  ⟨false, false, [false, true, false, false, true, false, false, false, false, false, false, false, false], [false, true, false, false, true, false, false, false, false, false, false, false, false]⟩,
  ⟨false, true, [false, false, false, false, false, false, false, false, false, false, false, false, false], [false, true, false, false, true, false, false, false, false, false, false, false, false]⟩,
  ⟨false, false, [false, true, false, false, true, false, false, false, false, false, false, false, false], [false, true, false, false, true, false, false, false, false, false, false, false, false]⟩,
  ⟨true, false, [false, true, false, false, true, false, false, false, false, false, false, false, false], [false, true, false, false, true, false, false, false, false, false, false, false, true]⟩]
  [false, false, false, false, false, false, false, false, false, false, true, false, false])
 (.seq (.ops [⟨(some 25), .loadN 4 (.tmp 3), none⟩,
  ⟨(some 26), .call 34 [(.tmp 25), (.const (.int .i64 5))], none⟩,
  ⟨(some 9), .alloc 26 [(.int .i64 0), (.slice none 0 0), (.slice none 0 0), (.slice none 0 0)], none⟩,
  ⟨none, .store 4 (.tmp 9) (.tmp 26), none⟩])
 (.seq (.seq (.ops [⟨(some 10), .mov (.const (.int .i64 0)), none⟩])
 (.block 0 (.loop (.seq (.seq (.ops [⟨(some 27), .mov (.tmp 10), none⟩,
  ⟨(some 28), .ar .i64 .lss (.tmp 27) (.const (.int .i64 2)), none⟩])
 (.cond (.tmp 28) .skip
 (.exit 0)))
 (.seq (.block 1 (.seq (.draw [⟨(some 32), .fldA 0 (.tmp 8), none⟩,
  ⟨(some 33), .load1 (.tmp 32), none⟩,
  ⟨(some 34), .call 19 [(.tmp 33), (.const (.int .i64 3))], none⟩,
  ⟨(some 35), .fldA 1 (.tmp 8), none⟩,
  ⟨(some 36), .load1 (.tmp 35), none⟩,
  ⟨(some 37), .fldA 2 (.tmp 8), none⟩,
  ⟨(some 38), .load1 (.tmp 37), none⟩,
  ⟨(some 39), .aggr [(.slice none 0 0), (.int .i64 0), (.int .i64 0)] [(0, 1, (.tmp 34)), (1, 1, (.tmp 36)), (2, 1, (.tmp 38))], none⟩,
  ⟨(some 40), .mov (.tmp 7), none⟩,
  ⟨(some 41), .call 43 [(.tmp 39), (.tmp 40)], none⟩,
  ⟨(some 31), .mov (.tmp 41), none⟩,
  ⟨(some 42), .ext (.tmp 31) 0, none⟩,
  ⟨(some 43), .ext (.tmp 31) 1, none⟩,
  ⟨(some 11), .mov (.tmp 42), none⟩,
  ⟨(some 12), .mov (.tmp 43), none⟩]
  [⟨false, false, [false, false, false, false, false, false, false, false, false, false, false, false, false, false, false], [false, false, false, false, false, false, false, false, false, false, false, false, false, false, false]⟩,
  ⟨false, false, [false, false, false, false, false, false, false, false, false, false, false, false, false, false, false], [false, false, false, false, false, false, false, false, false, false, false, false, false, false, false]⟩,
  ⟨true, false, [false, false, false, false, false, false, false, false, false, false, false, false, false, false, false], [false, false, true, false, false, false, false, false, false, false, false, false, false, false, false]⟩,
  ⟨false, true, [false, false, false, false, false, false, false, false, false, false, false, false, false, false, false], [false, false, true, false, false, false, false, false, false, false, false, false, false, false, false]⟩,
  ⟨false, true, [false, false, false, false, false, false, false, false, false, false, false, false, false, false, false], [false, false, true, false, false, false, false, false, false, false, false, false, false, false, false]⟩,
  ⟨false, true, [false, false, false, false, false, false, false, false, false, false, false, false, false, false, false], [false, false, true, false, false, false, false, false, false, false, false, false, false, false, false]⟩,
  ⟨false, true, [false, false, false, false, false, false, false, false, false, false, false, false, false, false, false], [false, false, true, false, false, false, false, false, false, false, false, false, false, false, false]⟩,
  ⟨false, false, [false, false, true, false, false, false, false, false, false, false, false, false, false, false, false], [false, false, true, false, false, false, false, false, false, false, false, false, false, false, false]⟩,
  ⟨false, true, [false, false, false, false, false, false, false, false, false, false, false, false, false, false, false], [false, false, true, false, false, false, false, false, false, false, false, false, false, false, false]⟩,
  ⟨true, false, [false, false, true, false, false, false, false, false, false, false, false, false, false, false, false], [false, false, true, false, false, false, false, false, false, true, false, false, false, false, false]⟩,
  ⟨false, false, [false, false, true, false, false, false, false, false, false, true, false, false, false, false, false], [false, false, true, false, false, false, false, false, false, true, false, false, false, false, false]⟩,
  ⟨false, false, [false, false, true, false, false, false, false, false, false, true, false, false, false, false, false], [false, false, true, false, false, false, false, false, false, true, false, false, false, false, false]⟩,
  ⟨false, false, [false, false, true, false, false, false, false, false, false, true, false, false, false, false, false], [false, false, true, false, false, false, false, false, false, true, false, false, false, false, false]⟩,
  ⟨false, false, [false, false, true, false, false, false, false, false, false, true, false, false, false, false, false], [false, false, true, false, false, false, false, false, false, true, false, false, false, false, false]⟩,
  ⟨false, false, [false, false, true, false, false, false, false, false, false, true, false, false, false, false, false], [false, false, true, false, false, false, false, false, false, true, false, false, false, false, false]⟩])
 (.seq (.seq (.ops [⟨(some 44), .loadN 3 (.tmp 8), none⟩,
  ⟨(some 45), .fldA 0 (.tmp 8), none⟩,
  ⟨(some 46), .load1 (.tmp 45), none⟩,
  ⟨(some 47), .lenS (.tmp 46), none⟩,
  ⟨(some 48), .call 44 [(.tmp 44), (.tmp 47)], none⟩,
  ⟨(some 49), .not (.tmp 48), none⟩,
  ⟨(some 50), .mov (.tmp 49), none⟩,
  ⟨(some 51), .fldA 0 (.tmp 8), (some (50, false))⟩,
  ⟨(some 52), .load1 (.tmp 51), (some (50, false))⟩,
  ⟨(some 53), .lenS (.tmp 52), (some (50, false))⟩,
  ⟨(some 54), .ar .i64 .lss (.tmp 53) (.const (.int .i64 1)), (some (50, false))⟩,
  ⟨(some 55), .pick (.tmp 50) (.const (.bool true)) (.tmp 54), none⟩,
  ⟨(some 56), .mov (.tmp 55), none⟩,
  ⟨(some 57), .fldA 0 (.tmp 8), (some (56, false))⟩,
  ⟨(some 58), .load1 (.tmp 57), (some (56, false))⟩,
  ⟨(some 59), .lenS (.tmp 58), (some (56, false))⟩,
  ⟨(some 60), .ar .i64 .gtr (.tmp 59) (.const (.int .i64 2)), (some (56, false))⟩,
  ⟨(some 61), .pick (.tmp 56) (.const (.bool true)) (.tmp 60), none⟩,
  ⟨(some 62), .mov (.tmp 61), none⟩,
  ⟨(some 63), .mov (.tmp 7), (some (62, false))⟩,
  ⟨(some 64), .fldA 0 (.tmp 8), (some (62, false))⟩,
  ⟨(some 65), .load1 (.tmp 64), (some (62, false))⟩,
  ⟨(some 66), .lenS (.tmp 65), (some (62, false))⟩,
  ⟨(some 67), .call 26 [(.tmp 63), (.tmp 66)], (some (62, false))⟩,
  ⟨(some 68), .not (.tmp 67), (some (62, false))⟩,
  ⟨(some 69), .pick (.tmp 62) (.const (.bool true)) (.tmp 68), none⟩])
 (.cond (.tmp 69) (.seq (.ops [⟨(some 70), .mov (.tmp 12), none⟩,
  ⟨(some 71), .ar .i64 .neq (.tmp 70) (.const (.int .i64 1)), none⟩,
  ⟨(some 72), .mov (.tmp 71), none⟩,
  ⟨(some 73), .mov (.tmp 11), (some (72, false))⟩,
  ⟨(some 74), .pick (.tmp 72) (.const (.bool true)) (.tmp 73), none⟩])
 (.cond (.tmp 74) (.seq (.ops [⟨(some 6), .mov (.const (.bool false)), none⟩])
 .ret)
 .skip))
 (.seq (.ops [⟨(some 75), .mov (.tmp 12), none⟩,
  ⟨(some 76), .ar .i64 .neq (.tmp 75) (.const (.int .i64 0)), none⟩,
  ⟨(some 77), .mov (.tmp 76), none⟩,
  ⟨(some 78), .mov (.tmp 11), (some (77, false))⟩,
  ⟨(some 79), .loadN 3 (.tmp 8), (some (77, false))⟩,
  ⟨(some 80), .mov (.tmp 7), (some (77, false))⟩,
  ⟨(some 81), .call 45 [(.tmp 79), (.tmp 80)], (some (77, false))⟩,
  ⟨(some 82), .raw (.binOp .neq 4 (.tmp 78) (.tmp 81) 4) 4, (some (77, false))⟩,
  ⟨(some 83), .pick (.tmp 77) (.const (.bool true)) (.tmp 82), none⟩])
 (.cond (.tmp 83) (.seq (.ops [⟨(some 6), .mov (.const (.bool false)), none⟩])
 .ret)
 .skip))))
 (.seq (.ops [⟨(some 84), .loadN 3 (.tmp 4), none⟩,
  ⟨(some 85), .mov (.tmp 2), none⟩,
  ⟨(some 86), .lenS (.tmp 85), none⟩,
  ⟨(some 87), .ar .i64 .rem (.tmp 86) (.const (.int .i64 2)), none⟩,
  ⟨(some 88), .ar .i64 .add (.const (.int .i64 1)) (.tmp 87), none⟩,
  ⟨(some 89), .call 46 [(.tmp 84), (.tmp 88)], none⟩,
  ⟨none, .store 3 (.tmp 8) (.tmp 89), none⟩])
 (.ops [⟨(some 90), .mov (.tmp 2), none⟩,
  ⟨(some 91), .mov (.tmp 2), none⟩,
  ⟨(some 92), .lenS (.tmp 91), none⟩,
  ⟨(some 93), .ar .i64 .rem (.tmp 92) (.const (.int .i64 2)), none⟩,
  ⟨(some 94), .ar .i64 .add (.const (.int .i64 1)) (.tmp 93), none⟩,
  ⟨(some 95), .call 35 [(.tmp 90), (.tmp 94), (.const (.int .i64 9))], none⟩,
  ⟨(some 7), .mov (.tmp 95), none⟩])))))
 (.ops [⟨(some 29), .mov (.tmp 10), none⟩,
  ⟨(some 30), .ar .i64 .add (.tmp 29) (.const (.int .i64 1)), none⟩,
  ⟨(some 10), .mov (.tmp 30), none⟩]))))))
 (.seq (.ops [⟨(some 96), .mov (.tmp 2), none⟩,
  ⟨(some 97), .fldA 2 (.tmp 9), none⟩,
  ⟨(some 98), .load1 (.tmp 97), none⟩,
  ⟨(some 99), .lenS (.tmp 98), none⟩,
  ⟨(some 100), .call 35 [(.tmp 96), (.tmp 99), (.const (.int .i64 9))], none⟩,
  ⟨(some 7), .mov (.tmp 100), none⟩])
 (.seq (.ops [⟨(some 102), .loadN 4 (.tmp 9), none⟩,
  ⟨(some 103), .call 18 [(.tmp 102)], none⟩,
  ⟨(some 104), .mov (.tmp 7), none⟩,
  ⟨(some 105), .call 25 [(.tmp 103), (.tmp 104)], none⟩,
  ⟨(some 101), .mov (.tmp 105), none⟩,
  ⟨(some 106), .ext (.tmp 101) 0, none⟩,
  ⟨(some 107), .ext (.tmp 101) 1, none⟩,
  ⟨(some 13), .mov (.tmp 106), none⟩,
  ⟨(some 14), .mov (.tmp 107), none⟩])
 (.seq (.ops [⟨(some 108), .mov (.tmp 14), none⟩,
  ⟨(some 109), .ar .i64 .eql (.tmp 108) (.const (.int .i64 0)), none⟩,
  ⟨(some 110), .mov (.tmp 109), none⟩,
  ⟨(some 111), .mov (.tmp 13), (some (110, true))⟩,
  ⟨(some 112), .loadN 4 (.tmp 9), (some (110, true))⟩,
  ⟨(some 113), .mov (.tmp 7), (some (110, true))⟩,
  ⟨(some 114), .call 47 [(.tmp 112), (.tmp 113)], (some (110, true))⟩,
  ⟨(some 115), .call 37 [(.tmp 111), (.tmp 114)], (some (110, true))⟩,
  ⟨(some 116), .pick (.tmp 110) (.tmp 115) (.const (.bool false)), none⟩,
  ⟨(some 117), .mov (.tmp 116), none⟩,
  ⟨(some 118), .call 27 [], (some (117, true))⟩,
  ⟨(some 119), .pick (.tmp 117) (.tmp 118) (.const (.bool false)), none⟩,
  ⟨(some 6), .mov (.tmp 119), none⟩])
 .ret)))))))
theorem enter7 {xs : List Value} {h : Hp} {Q : Value → Hp → Prop} (hl : xs.length ≤ 120) (w : wq E 120 none c7 (frameOf xs) h [] (leaveQ E [.tmp 6] Q)) : CallP E 7 xs h Q :=
  CallP.enterQ (fn := Try.f7) (fn_get Try.func7) (code := Try.f7.body.get rfl) rfl rfl rfl (by kernel_rfl) rfl (fun _ => rfl) hl w
theorem can7 : callable E 7 = true := callable_get Try.func7 rfl rfl

/-- tosher/tosherlaw06.own -/
def c17 : C := (.seq (.ops [⟨(some 1), .box 25 (.tmp 0), none⟩,
  ⟨(some 2), .alloc 26 [(.int .i64 0), (.slice none 0 0), (.slice none 0 0), (.slice none 0 0)], none⟩])
 (.seq (.ops [⟨(some 3), .mov (.const (.slice none 0 0)), none⟩])
 (.seq (.draw [⟨(some 4), .fldA 0 (.tmp 1), none⟩,
  ⟨(some 5), .load1 (.tmp 4), none⟩,
  ⟨(some 6), .fldA 1 (.tmp 1), none⟩,
  ⟨(some 7), .load1 (.tmp 6), none⟩,
  ⟨(some 8), .call 19 [(.tmp 7), (.const (.int .i64 6))], none⟩,
  ⟨(some 9), .fldA 2 (.tmp 1), none⟩,
  ⟨(some 10), .load1 (.tmp 9), none⟩,
  ⟨(some 11), .call 19 [(.tmp 10), (.const (.int .i64 3))], none⟩,
  ⟨(some 12), .mov (.tmp 3), none⟩,
  ⟨(some 13), .fldA 3 (.tmp 1), none⟩,
  ⟨(some 14), .load1 (.tmp 13), none⟩,
  ⟨(some 15), .fldA 3 (.tmp 1), none⟩,
  ⟨(some 16), .load1 (.tmp 15), none⟩,
  ⟨(some 17), .lenS (.tmp 16), none⟩,
  ⟨(some 18), .raw (.call ⟨.builtin .min, ⟨[(.tmp 17), (.const (.int .i64 16))]⟩, ⟨[3, 3]⟩⟩) 3, none⟩,
  ⟨(some 19), .cutS 4 (.tmp 14) none (some (.tmp 18)) none, none⟩,
  ⟨(some 20), .append 96 4 32 (.tmp 12) (.tmp 19), none⟩,
  ⟨(some 21), .aggr [(.int .i64 0), (.slice none 0 0), (.slice none 0 0), (.slice none 0 0)] [(0, 1, (.tmp 5)), (1, 1, (.tmp 8)), (2, 1, (.tmp 11)), (3, 1, (.tmp 20))], none⟩,
  ⟨none, .store 4 (.tmp 2) (.tmp 21), none⟩]
  [⟨false, true, [false, false, false, false, false, false, false, false, false, false, false, false, false, false, false, false, false, false, false], [false, false, false, false, true, false, false, true, false, false, false, false, false, false, false, false, true, false, false]⟩,
  ⟨false, true, [false, false, false, false, false, false, false, false, false, false, false, false, false, false, false, false, false, false, false], [false, false, false, false, true, false, false, true, false, false, false, false, false, false, false, false, true, false, false]⟩,
  ⟨false, false, [false, false, false, false, false, false, false, false, false, false, false, false, false, false, false, false, false, false, false], [false, false, false, false, false, false, false, false, false, false, false, false, false, false, false, false, false, false, false]⟩,
  ⟨false, false, [false, false, false, false, false, false, false, false, false, false, false, false, false, false, false, false, false, false, false], [false, false, false, false, false, false, false, false, false, false, false, false, false, false, false, false, false, false, false]⟩,
  ⟨true, false, [false, false, false, false, false, false, false, false, false, false, false, false, false, false, false, false, false, false, false], [false, false, false, false, true, false, false, false, false, false, false, false, false, false, false, false, false, false, false]⟩,
  ⟨false, true, [false, false, false, false, false, false, false, false, false, false, false, false, false, false, false, false, false, false, false], [false, false, false, false, true, false, false, false, false, false, false, false, false, false, false, false, false, false, false]⟩,
  ⟨false, true, [false, false, false, false, false, false, false, false, false, false, false, false, false, false, false, false, false, false, false], [false, false, false, false, true, false, false, false, false, false, false, false, false, false, false, false, false, false, false]⟩,
  ⟨true, false, [false, false, false, false, true, false, false, false, false, false, false, false, false, false, false, false, false, false, false], [false, false, false, false, true, false, false, true, false, false, false, false, false, false, false, false, false, false, false]⟩,
  ⟨false, true, [false, false, false, false, false, false, false, false, false, false, false, false, false, false, false, false, false, false, false], [false, false, false, false, true, false, false, true, false, false, false, false, false, false, false, false, false, false, false]⟩,
  ⟨false, true, [false, false, false, false, false, false, false, false, false, false, false, false, false, false, false, false, false, false, false], [false, false, false, false, true, false, false, true, false, false, false, false, false, false, false, false, false, false, false]⟩,
  ⟨false, true, [false, false, false, false, false, false, false, false, false, false, false, false, false, false, false, false, false, false, false], [false, false, false, false, true, false, false, true, false, false, false, false, false, false, false, false, false, false, false]⟩,
  ⟨false, true, [false, false, false, false, false, false, false, false, false, false, false, false, false, false, false, false, false, false, false], [false, false, false, false, true, false, false, true, false, false, false, false, false, false, false, false, false, false, false]⟩,
  ⟨false, true, [false, false, false, false, false, false, false, false, false, false, false, false, false, false, false, false, false, false, false], [false, false, false, false, true, false, false, true, false, false, false, false, false, false, false, false, false, false, false]⟩,
  ⟨false, true, [false, false, false, false, false, false, false, false, false, false, false, false, false, false, false, false, false, false, false], [false, false, false, false, true, false, false, true, false, false, false, false, false, false, false, false, false, false, false]⟩,
  ⟨false, true, [false, false, false, false, false, false, false, false, false, false, false, false, false, false, false, false, false, false, false], [false, false, false, false, true, false, false, true, false, false, false, false, false, false, false, false, false, false, false]⟩,
  ⟨false, true, [false, false, false, false, false, false, false, false, false, false, false, false, false, false, false, false, false, false, false], [false, false, false, false, true, false, false, true, false, false, false, false, false, false, false, false, false, false, false]⟩,
  ⟨true, false, [false, false, false, false, true, false, false, true, false, false, false, false, false, false, false, false, false, false, false], [false, false, false, false, true, false, false, true, false, false, false, false, false, false, false, false, true, false, false]⟩,
  ⟨false, false, [false, false, false, false, true, false, false, true, false, false, false, false, false, false, false, false, true, false, false], [false, false, false, false, true, false, false, true, false, false, false, false, false, false, false, false, true, false, false]⟩,
  ⟨true, false, [false, false, false, false, true, false, false, true, false, false, false, false, false, false, false, false, true, false, false], [false, false, false, false, true, false, false, true, false, false, false, false, false, false, false, false, true, false, true]⟩])
 .ret)))
theorem enter17 {xs : List Value} {h : Hp} {Q : Value → Hp → Prop} (hl : xs.length ≤ 22) (w : wq E 22 none c17 (frameOf xs) h [] (leaveQ E [.cell 2 26] Q)) : CallP E 17 xs h Q :=
  CallP.enterQ (fn := Try.f17) (fn_get Try.func17) (code := Try.f17.body.get rfl) rfl rfl rfl (by kernel_rfl) rfl (fun _ => rfl) hl w
theorem can17 : callable E 17 = true := callable_get Try.func17 rfl rfl

/-- tosher/tosherlaw06.given -/
def c18 : C := (.seq (.ops [⟨(some 1), .box 26 (.tmp 0), none⟩,
  ⟨(some 2), .alloc 25 [(.int .i64 0), (.slice none 0 0), (.slice none 0 0), (.slice none 0 0)], none⟩])
 (.seq (.ops [⟨(some 3), .mov (.const (.slice none 0 0)), none⟩])
 (.seq (.draw [⟨(some 4), .fldA 0 (.tmp 1), none⟩,
  ⟨(some 5), .load1 (.tmp 4), none⟩,
  ⟨(some 6), .fldA 1 (.tmp 1), none⟩,
  ⟨(some 7), .load1 (.tmp 6), none⟩,
  ⟨(some 8), .call 19 [(.tmp 7), (.const (.int .i64 6))], none⟩,
  ⟨(some 9), .fldA 2 (.tmp 1), none⟩,
  ⟨(some 10), .load1 (.tmp 9), none⟩,
  ⟨(some 11), .call 19 [(.tmp 10), (.const (.int .i64 3))], none⟩,
  ⟨(some 12), .mov (.tmp 3), none⟩,
  ⟨(some 13), .fldA 3 (.tmp 1), none⟩,
  ⟨(some 14), .load1 (.tmp 13), none⟩,
  ⟨(some 15), .append 96 4 32 (.tmp 12) (.tmp 14), none⟩,
  ⟨(some 16), .aggr [(.int .i64 0), (.slice none 0 0), (.slice none 0 0), (.slice none 0 0)] [(0, 1, (.tmp 5)), (1, 1, (.tmp 8)), (2, 1, (.tmp 11)), (3, 1, (.tmp 15))], none⟩,
  ⟨none, .store 4 (.tmp 2) (.tmp 16), none⟩]
  [⟨false, true, [false, false, false, false, false, false, false, false, false, false, false, false, false, false], [false, false, false, false, true, false, false, true, false, false, false, true, false, false]⟩,
  ⟨false, true, [false, false, false, false, false, false, false, false, false, false, false, false, false, false], [false, false, false, false, true, false, false, true, false, false, false, true, false, false]⟩,
  ⟨false, false, [false, false, false, false, false, false, false, false, false, false, false, false, false, false], [false, false, false, false, false, false, false, false, false, false, false, false, false, false]⟩,
  ⟨false, false, [false, false, false, false, false, false, false, false, false, false, false, false, false, false], [false, false, false, false, false, false, false, false, false, false, false, false, false, false]⟩,
  ⟨true, false, [false, false, false, false, false, false, false, false, false, false, false, false, false, false], [false, false, false, false, true, false, false, false, false, false, false, false, false, false]⟩,
  ⟨false, true, [false, false, false, false, false, false, false, false, false, false, false, false, false, false], [false, false, false, false, true, false, false, false, false, false, false, false, false, false]⟩,
  ⟨false, true, [false, false, false, false, false, false, false, false, false, false, false, false, false, false], [false, false, false, false, true, false, false, false, false, false, false, false, false, false]⟩,
  ⟨true, false, [false, false, false, false, true, false, false, false, false, false, false, false, false, false], [false, false, false, false, true, false, false, true, false, false, false, false, false, false]⟩,
  ⟨false, true, [false, false, false, false, false, false, false, false, false, false, false, false, false, false], [false, false, false, false, true, false, false, true, false, false, false, false, false, false]⟩,
  ⟨false, true, [false, false, false, false, false, false, false, false, false, false, false, false, false, false], [false, false, false, false, true, false, false, true, false, false, false, false, false, false]⟩,
  ⟨false, true, [false, false, false, false, false, false, false, false, false, false, false, false, false, false], [false, false, false, false, true, false, false, true, false, false, false, false, false, false]⟩,
  ⟨true, false, [false, false, false, false, true, false, false, true, false, false, false, false, false, false], [false, false, false, false, true, false, false, true, false, false, false, true, false, false]⟩,
  ⟨false, false, [false, false, false, false, true, false, false, true, false, false, false, true, false, false], [false, false, false, false, true, false, false, true, false, false, false, true, false, false]⟩,
  ⟨true, false, [false, false, false, false, true, false, false, true, false, false, false, true, false, false], [false, false, false, false, true, false, false, true, false, false, false, true, false, true]⟩])
 .ret)))
theorem enter18 {xs : List Value} {h : Hp} {Q : Value → Hp → Prop} (hl : xs.length ≤ 17) (w : wq E 17 none c18 (frameOf xs) h [] (leaveQ E [.cell 2 25] Q)) : CallP E 18 xs h Q :=
  CallP.enterQ (fn := Try.f18) (fn_get Try.func18) (code := Try.f18.body.get rfl) rfl rfl rfl (by kernel_rfl) rfl (fun _ => rfl) hl w
theorem can18 : callable E 18 = true := callable_get Try.func18 rfl rfl

/-- tosher/tosherlaw06.few -/
def c19 : C := (.seq (.ops [⟨(some 4), .mov (.const (.slice none 0 0)), none⟩])
 (.seq (.ops [⟨(some 5), .mov (.const (.slice none 0 0)), none⟩])
 (.seq (.ops [⟨(some 6), .mov (.tmp 5), none⟩,
  ⟨(some 7), .mov (.tmp 0), none⟩,
  ⟨(some 8), .mov (.tmp 0), none⟩,
  ⟨(some 9), .lenS (.tmp 8), none⟩,
  ⟨(some 10), .mov (.tmp 1), none⟩,
  ⟨(some 11), .raw (.call ⟨.builtin .min, ⟨[(.tmp 9), (.tmp 10)]⟩, ⟨[3, 3]⟩⟩) 3, none⟩,
  ⟨(some 12), .cutS 1 (.tmp 7) none (some (.tmp 11)) none, none⟩,
  ⟨(some 13), .append 3 1 8 (.tmp 6) (.tmp 12), none⟩,
  ⟨(some 4), .mov (.tmp 13), none⟩])
 .ret)))
theorem enter19 {xs : List Value} {h : Hp} {Q : Value → Hp → Prop} (hl : xs.length ≤ 14) (w : wq E 14 none c19 (frameOf xs) h [] (leaveQ E [.tmp 4] Q)) : CallP E 19 xs h Q :=
  CallP.enterQ (fn := Try.f19) (fn_get Try.func19) (code := Try.f19.body.get rfl) rfl rfl rfl (by kernel_rfl) rfl (fun _ => rfl) hl w
theorem can19 : callable E 19 = true := callable_get Try.func19 rfl rfl

/-- tosher/tosherref06.Check -/
def c20 : C := (.seq (.ops [⟨(some 1), .box 26 (.tmp 0), none⟩,
  ⟨(some 2), .mov (.const (.bool false)), none⟩])
 (.seq (.ops [⟨(some 10), .fldA 0 (.tmp 1), none⟩,
  ⟨(some 11), .load1 (.tmp 10), none⟩,
  ⟨(some 3), .mov (.tmp 11), none⟩])
 (.seq (.seq (.ops [⟨(some 12), .mov (.tmp 3), none⟩,
  ⟨(some 13), .ar .i64 .lss (.tmp 12) (.const (.int .i64 1)), none⟩,
  ⟨(some 14), .mov (.tmp 13), none⟩,
  ⟨(some 15), .mov (.tmp 3), (some (14, false))⟩,
  ⟨(some 16), .ar .i64 .gtr (.tmp 15) (.const (.int .i64 5)), (some (14, false))⟩,
  ⟨(some 17), .pick (.tmp 14) (.const (.bool true)) (.tmp 16), none⟩,
  ⟨(some 18), .mov (.tmp 17), none⟩,
  ⟨(some 19), .fldA 1 (.tmp 1), (some (18, false))⟩,
  ⟨(some 20), .load1 (.tmp 19), (some (18, false))⟩,
  ⟨(some 21), .lenS (.tmp 20), (some (18, false))⟩,
  ⟨(some 22), .mov (.tmp 3), (some (18, false))⟩,
  ⟨(some 23), .ar .i64 .neq (.tmp 21) (.tmp 22), (some (18, false))⟩,
  ⟨(some 24), .pick (.tmp 18) (.const (.bool true)) (.tmp 23), none⟩,
  ⟨(some 25), .mov (.tmp 24), none⟩,
  ⟨(some 26), .fldA 2 (.tmp 1), (some (25, false))⟩,
  ⟨(some 27), .load1 (.tmp 26), (some (25, false))⟩,
  ⟨(some 28), .lenS (.tmp 27), (some (25, false))⟩,
  ⟨(some 29), .ar .i64 .lss (.tmp 28) (.const (.int .i64 1)), (some (25, false))⟩,
  ⟨(some 30), .pick (.tmp 25) (.const (.bool true)) (.tmp 29), none⟩,
  ⟨(some 31), .mov (.tmp 30), none⟩,
  ⟨(some 32), .fldA 2 (.tmp 1), (some (31, false))⟩,
  ⟨(some 33), .load1 (.tmp 32), (some (31, false))⟩,
  ⟨(some 34), .lenS (.tmp 33), (some (31, false))⟩,
  ⟨(some 35), .ar .i64 .gtr (.tmp 34) (.const (.int .i64 2)), (some (31, false))⟩,
  ⟨(some 36), .pick (.tmp 31) (.const (.bool true)) (.tmp 35), none⟩,
  ⟨(some 37), .mov (.tmp 36), none⟩,
  ⟨(some 38), .fldA 3 (.tmp 1), (some (37, false))⟩,
  ⟨(some 39), .load1 (.tmp 38), (some (37, false))⟩,
  ⟨(some 40), .lenS (.tmp 39), (some (37, false))⟩,
  ⟨(some 41), .ar .i64 .gtr (.tmp 40) (.const (.int .i64 15)), (some (37, false))⟩,
  ⟨(some 42), .pick (.tmp 37) (.const (.bool true)) (.tmp 41), none⟩])
 (.cond (.tmp 42) (.seq (.ops [⟨(some 2), .mov (.const (.bool false)), none⟩])
 .ret)
 .skip))
 (.seq (.seq (.ops [⟨(some 4), .mov (.const (.int .i64 0)), none⟩])
 (.block 0 (.loop (.seq (.seq (.ops [⟨(some 43), .mov (.tmp 4), none⟩,
  ⟨(some 44), .mov (.tmp 3), none⟩,
  ⟨(some 45), .ar .i64 .lss (.tmp 43) (.tmp 44), none⟩])
 (.cond (.tmp 45) .skip
 (.exit 0)))
 (.seq (.block 1 (.seq (.ops [⟨(some 48), .fldA 1 (.tmp 1), none⟩,
  ⟨(some 49), .load1 (.tmp 48), none⟩,
  ⟨(some 50), .mov (.tmp 4), none⟩,
  ⟨(some 51), .idxS 1 (.tmp 49) (.tmp 50), none⟩,
  ⟨(some 52), .load1 (.tmp 51), none⟩,
  ⟨(some 53), .ar .i64 .neq (.tmp 52) (.const (.int .i64 0)), none⟩,
  ⟨(some 54), .mov (.tmp 53), none⟩,
  ⟨(some 55), .fldA 1 (.tmp 1), (some (54, true))⟩,
  ⟨(some 56), .load1 (.tmp 55), (some (54, true))⟩,
  ⟨(some 57), .mov (.tmp 4), (some (54, true))⟩,
  ⟨(some 58), .idxS 1 (.tmp 56) (.tmp 57), (some (54, true))⟩,
  ⟨(some 59), .load1 (.tmp 58), (some (54, true))⟩,
  ⟨(some 60), .ar .i64 .neq (.tmp 59) (.const (.int .i64 1)), (some (54, true))⟩,
  ⟨(some 61), .pick (.tmp 54) (.tmp 60) (.const (.bool false)), none⟩])
 (.cond (.tmp 61) (.seq (.ops [⟨(some 2), .mov (.const (.bool false)), none⟩])
 .ret)
 .skip)))
 (.ops [⟨(some 46), .mov (.tmp 4), none⟩,
  ⟨(some 47), .ar .i64 .add (.tmp 46) (.const (.int .i64 1)), none⟩,
  ⟨(some 4), .mov (.tmp 47), none⟩]))))))
 (.seq (.seq (.ops [⟨(some 5), .mov (.const (.int .i64 0)), none⟩])
 (.block 2 (.loop (.seq (.seq (.ops [⟨(some 62), .mov (.tmp 5), none⟩,
  ⟨(some 63), .fldA 2 (.tmp 1), none⟩,
  ⟨(some 64), .load1 (.tmp 63), none⟩,
  ⟨(some 65), .lenS (.tmp 64), none⟩,
  ⟨(some 66), .ar .i64 .lss (.tmp 62) (.tmp 65), none⟩])
 (.cond (.tmp 66) .skip
 (.exit 2)))
 (.seq (.block 3 (.seq (.ops [⟨(some 69), .fldA 2 (.tmp 1), none⟩,
  ⟨(some 70), .load1 (.tmp 69), none⟩,
  ⟨(some 71), .mov (.tmp 5), none⟩,
  ⟨(some 72), .idxS 1 (.tmp 70) (.tmp 71), none⟩,
  ⟨(some 73), .load1 (.tmp 72), none⟩,
  ⟨(some 74), .ar .i64 .lss (.tmp 73) (.const (.int .i64 0)), none⟩,
  ⟨(some 75), .mov (.tmp 74), none⟩,
  ⟨(some 76), .fldA 2 (.tmp 1), (some (75, false))⟩,
  ⟨(some 77), .load1 (.tmp 76), (some (75, false))⟩,
  ⟨(some 78), .mov (.tmp 5), (some (75, false))⟩,
  ⟨(some 79), .idxS 1 (.tmp 77) (.tmp 78), (some (75, false))⟩,
  ⟨(some 80), .load1 (.tmp 79), (some (75, false))⟩,
  ⟨(some 81), .mov (.tmp 3), (some (75, false))⟩,
  ⟨(some 82), .ar .i64 .geq (.tmp 80) (.tmp 81), (some (75, false))⟩,
  ⟨(some 83), .pick (.tmp 75) (.const (.bool true)) (.tmp 82), none⟩])
 (.cond (.tmp 83) (.seq (.ops [⟨(some 2), .mov (.const (.bool false)), none⟩])
 .ret)
 .skip)))
 (.ops [⟨(some 67), .mov (.tmp 5), none⟩,
  ⟨(some 68), .ar .i64 .add (.tmp 67) (.const (.int .i64 1)), none⟩,
  ⟨(some 5), .mov (.tmp 68), none⟩]))))))
 (.seq (.seq (.ops [⟨(some 6), .mov (.const (.int .i64 0)), none⟩])
 (.block 4 (.loop (.seq (.seq (.ops [⟨(some 84), .mov (.tmp 6), none⟩,
  ⟨(some 85), .fldA 3 (.tmp 1), none⟩,
  ⟨(some 86), .load1 (.tmp 85), none⟩,
  ⟨(some 87), .lenS (.tmp 86), none⟩,
  ⟨(some 88), .ar .i64 .lss (.tmp 84) (.tmp 87), none⟩])
 (.cond (.tmp 88) .skip
 (.exit 4)))
 (.seq (.block 5 (.seq (.ops [⟨(some 91), .fldA 3 (.tmp 1), none⟩,
  ⟨(some 92), .load1 (.tmp 91), none⟩,
  ⟨(some 93), .mov (.tmp 6), none⟩,
  ⟨(some 94), .idxS 4 (.tmp 92) (.tmp 93), none⟩,
  ⟨(some 95), .loadN 4 (.tmp 94), none⟩,
  ⟨(some 7), .alloc 96 [(.int .i64 0), (.int .i64 0), (.int .i64 0), (.int .i64 0)], none⟩,
  ⟨none, .store 4 (.tmp 7) (.tmp 95), none⟩])
 (.seq (.seq (.ops [⟨(some 8), .mov (.const (.int .i64 0)), none⟩])
 (.block 6 (.loop (.seq (.seq (.ops [⟨(some 96), .mov (.tmp 8), none⟩,
  ⟨(some 97), .ar .i64 .lss (.tmp 96) (.const (.int .i64 4)), none⟩])
 (.cond (.tmp 97) .skip
 (.exit 6)))
 (.seq (.block 7 (.seq (.ops [⟨(some 100), .mov (.tmp 8), none⟩,
  ⟨(some 101), .idxA 4 1 (.tmp 7) (.tmp 100), none⟩,
  ⟨(some 102), .load1 (.tmp 101), none⟩,
  ⟨(some 103), .ar .i64 .lss (.tmp 102) (.const (.int .i64 0)), none⟩,
  ⟨(some 104), .mov (.tmp 103), none⟩,
  ⟨(some 105), .mov (.tmp 8), (some (104, false))⟩,
  ⟨(some 106), .idxA 4 1 (.tmp 7) (.tmp 105), (some (104, false))⟩,
  ⟨(some 107), .load1 (.tmp 106), (some (104, false))⟩,
  ⟨(some 108), .mov (.tmp 3), (some (104, false))⟩,
  ⟨(some 109), .ar .i64 .geq (.tmp 107) (.tmp 108), (some (104, false))⟩,
  ⟨(some 110), .pick (.tmp 104) (.const (.bool true)) (.tmp 109), none⟩])
 (.cond (.tmp 110) (.seq (.ops [⟨(some 2), .mov (.const (.bool false)), none⟩])
 .ret)
 .skip)))
 (.ops [⟨(some 98), .mov (.tmp 8), none⟩,
  ⟨(some 99), .ar .i64 .add (.tmp 98) (.const (.int .i64 1)), none⟩,
  ⟨(some 8), .mov (.tmp 99), none⟩]))))))
 (.seq (.seq (.ops [⟨(some 111), .idxA 4 1 (.tmp 7) (.const (.int .i64 0)), none⟩,
  ⟨(some 112), .load1 (.tmp 111), none⟩,
  ⟨(some 113), .idxA 4 1 (.tmp 7) (.const (.int .i64 1)), none⟩,
  ⟨(some 114), .load1 (.tmp 113), none⟩,
  ⟨(some 115), .ar .i64 .gtr (.tmp 112) (.tmp 114), none⟩])
 (.cond (.tmp 115) (.seq (.ops [⟨(some 2), .mov (.const (.bool false)), none⟩])
 .ret)
 .skip))
 (.seq (.ops [⟨(some 116), .mov (.tmp 6), none⟩,
  ⟨(some 117), .ar .i64 .gtr (.tmp 116) (.const (.int .i64 0)), none⟩])
 (.cond (.tmp 117) (.seq (.ops [⟨(some 118), .fldA 3 (.tmp 1), none⟩,
  ⟨(some 119), .load1 (.tmp 118), none⟩,
  ⟨(some 120), .mov (.tmp 6), none⟩,
  ⟨(some 121), .ar .i64 .sub (.tmp 120) (.const (.int .i64 1)), none⟩,
  ⟨(some 122), .idxS 4 (.tmp 119) (.tmp 121), none⟩,
  ⟨(some 123), .loadN 4 (.tmp 122), none⟩,
  ⟨(some 9), .alloc 96 [(.int .i64 0), (.int .i64 0), (.int .i64 0), (.int .i64 0)], none⟩,
  ⟨none, .store 4 (.tmp 9) (.tmp 123), none⟩])
 (.seq (.ops [⟨(some 124), .idxA 4 1 (.tmp 9) (.const (.int .i64 0)), none⟩,
  ⟨(some 125), .load1 (.tmp 124), none⟩,
  ⟨(some 126), .idxA 4 1 (.tmp 7) (.const (.int .i64 0)), none⟩,
  ⟨(some 127), .load1 (.tmp 126), none⟩,
  ⟨(some 128), .ar .i64 .gtr (.tmp 125) (.tmp 127), none⟩,
  ⟨(some 129), .mov (.tmp 128), none⟩,
  ⟨(some 130), .idxA 4 1 (.tmp 9) (.const (.int .i64 0)), (some (129, false))⟩,
  ⟨(some 131), .load1 (.tmp 130), (some (129, false))⟩,
  ⟨(some 132), .idxA 4 1 (.tmp 7) (.const (.int .i64 0)), (some (129, false))⟩,
  ⟨(some 133), .load1 (.tmp 132), (some (129, false))⟩,
  ⟨(some 134), .ar .i64 .eql (.tmp 131) (.tmp 133), (some (129, false))⟩,
  ⟨(some 135), .mov (.tmp 134), (some (129, false))⟩,
  ⟨(some 136), .idxA 4 1 (.tmp 9) (.const (.int .i64 1)), (some (135, true))⟩,
  ⟨(some 137), .load1 (.tmp 136), (some (135, true))⟩,
  ⟨(some 138), .idxA 4 1 (.tmp 7) (.const (.int .i64 1)), (some (135, true))⟩,
  ⟨(some 139), .load1 (.tmp 138), (some (135, true))⟩,
  ⟨(some 140), .ar .i64 .geq (.tmp 137) (.tmp 139), (some (135, true))⟩,
  ⟨(some 141), .pick (.tmp 135) (.tmp 140) (.const (.bool false)), (some (129, false))⟩,
  ⟨(some 142), .pick (.tmp 129) (.const (.bool true)) (.tmp 141), none⟩])
 (.cond (.tmp 142) (.seq (.ops [⟨(some 2), .mov (.const (.bool false)), none⟩])
 .ret)
 .skip)))
 .skip))))))
 (.ops [⟨(some 89), .mov (.tmp 6), none⟩,
  ⟨(some 90), .ar .i64 .add (.tmp 89) (.const (.int .i64 1)), none⟩,
  ⟨(some 6), .mov (.tmp 90), none⟩]))))))
 (.seq (.ops [⟨(some 2), .mov (.const (.bool true)), none⟩])
 .ret)))))))
theorem enter20 {xs : List Value} {h : Hp} {Q : Value → Hp → Prop} (hl : xs.length ≤ 143) (w : wq E 143 none c20 (frameOf xs) h [] (leaveQ E [.tmp 2] Q)) : CallP E 20 xs h Q :=
  CallP.enterQ (fn := Try.f20) (fn_get Try.func20) (code := Try.f20.body.get rfl) rfl rfl rfl (by kernel_rfl) rfl (fun _ => rfl) hl w
theorem can20 : callable E 20 = true := callable_get Try.func20 rfl rfl

/-- tosher/tally.Check -/
def c21 : C := (.seq (.ops [⟨(some 1), .box 25 (.tmp 0), none⟩,
  ⟨(some 2), .mov (.const (.int .i64 0)), none⟩])
 (.seq (.seq (.ops [⟨(some 5), .fldA 0 (.tmp 1), none⟩,
  ⟨(some 6), .load1 (.tmp 5), none⟩,
  ⟨(some 7), .ar .i64 .lss (.tmp 6) (.const (.int .i64 1)), none⟩,
  ⟨(some 8), .mov (.tmp 7), none⟩,
  ⟨(some 9), .fldA 0 (.tmp 1), (some (8, false))⟩,
  ⟨(some 10), .load1 (.tmp 9), (some (8, false))⟩,
  ⟨(some 11), .ar .i64 .gtr (.tmp 10) (.const (.int .i64 5)), (some (8, false))⟩,
  ⟨(some 12), .pick (.tmp 8) (.const (.bool true)) (.tmp 11), none⟩,
  ⟨(some 13), .mov (.tmp 12), none⟩,
  ⟨(some 14), .fldA 1 (.tmp 1), (some (13, false))⟩,
  ⟨(some 15), .load1 (.tmp 14), (some (13, false))⟩,
  ⟨(some 16), .lenS (.tmp 15), (some (13, false))⟩,
  ⟨(some 17), .fldA 0 (.tmp 1), (some (13, false))⟩,
  ⟨(some 18), .load1 (.tmp 17), (some (13, false))⟩,
  ⟨(some 19), .ar .i64 .neq (.tmp 16) (.tmp 18), (some (13, false))⟩,
  ⟨(some 20), .pick (.tmp 13) (.const (.bool true)) (.tmp 19), none⟩,
  ⟨(some 21), .mov (.tmp 20), none⟩,
  ⟨(some 22), .fldA 1 (.tmp 1), (some (21, false))⟩,
  ⟨(some 23), .load1 (.tmp 22), (some (21, false))⟩,
  ⟨(some 24), .call 60 [(.const (.int .i64 0)), (.const (.int .i64 1)), (.tmp 23)], (some (21, false))⟩,
  ⟨(some 25), .not (.tmp 24), (some (21, false))⟩,
  ⟨(some 26), .pick (.tmp 21) (.const (.bool true)) (.tmp 25), none⟩])
 (.cond (.tmp 26) (.seq (.ops [⟨(some 2), .mov (.const (.int .i64 60)), none⟩])
 .ret)
 .skip))
 (.seq (.seq (.ops [⟨(some 27), .fldA 2 (.tmp 1), none⟩,
  ⟨(some 28), .load1 (.tmp 27), none⟩,
  ⟨(some 29), .lenS (.tmp 28), none⟩,
  ⟨(some 30), .ar .i64 .lss (.tmp 29) (.const (.int .i64 1)), none⟩,
  ⟨(some 31), .mov (.tmp 30), none⟩,
  ⟨(some 32), .fldA 2 (.tmp 1), (some (31, false))⟩,
  ⟨(some 33), .load1 (.tmp 32), (some (31, false))⟩,
  ⟨(some 34), .lenS (.tmp 33), (some (31, false))⟩,
  ⟨(some 35), .ar .i64 .gtr (.tmp 34) (.const (.int .i64 2)), (some (31, false))⟩,
  ⟨(some 36), .pick (.tmp 31) (.const (.bool true)) (.tmp 35), none⟩,
  ⟨(some 37), .mov (.tmp 36), none⟩,
  ⟨(some 38), .fldA 0 (.tmp 1), (some (37, false))⟩,
  ⟨(some 39), .load1 (.tmp 38), (some (37, false))⟩,
  ⟨(some 40), .ar .i64 .sub (.tmp 39) (.const (.int .i64 1)), (some (37, false))⟩,
  ⟨(some 41), .fldA 2 (.tmp 1), (some (37, false))⟩,
  ⟨(some 42), .load1 (.tmp 41), (some (37, false))⟩,
  ⟨(some 43), .call 60 [(.const (.int .i64 0)), (.tmp 40), (.tmp 42)], (some (37, false))⟩,
  ⟨(some 44), .not (.tmp 43), (some (37, false))⟩,
  ⟨(some 45), .pick (.tmp 37) (.const (.bool true)) (.tmp 44), none⟩,
  ⟨(some 46), .mov (.tmp 45), none⟩,
  ⟨(some 47), .fldA 3 (.tmp 1), (some (46, false))⟩,
  ⟨(some 48), .load1 (.tmp 47), (some (46, false))⟩,
  ⟨(some 49), .lenS (.tmp 48), (some (46, false))⟩,
  ⟨(some 50), .ar .i64 .gtr (.tmp 49) (.const (.int .i64 15)), (some (46, false))⟩,
  ⟨(some 51), .pick (.tmp 46) (.const (.bool true)) (.tmp 50), none⟩])
 (.cond (.tmp 51) (.seq (.ops [⟨(some 2), .mov (.const (.int .i64 60)), none⟩])
 .ret)
 .skip))
 (.seq (.seq (.ops [⟨(some 52), .fldA 3 (.tmp 1), none⟩,
  ⟨(some 53), .load1 (.tmp 52), none⟩,
  ⟨(some 54), .lenS (.tmp 53), none⟩,
  ⟨(some 55), .mov (.const (.int .i64 0)), none⟩])
 (.block 0 (.loop (.seq (.ops [⟨(some 56), .ar .i64 .lss (.tmp 55) (.tmp 54), none⟩])
 (.seq (.cond (.tmp 56) .skip
 (.exit 0))
 (.seq (.block 1 (.seq (.ops [⟨(some 57), .mov (.tmp 55), none⟩,
  ⟨(some 58), .idxS 4 (.tmp 53) (.tmp 55), none⟩,
  ⟨(some 59), .loadN 4 (.tmp 58), none⟩,
  ⟨(some 4), .alloc 96 [(.int .i64 0), (.int .i64 0), (.int .i64 0), (.int .i64 0)], none⟩,
  ⟨(some 3), .mov (.tmp 57), none⟩,
  ⟨none, .store 4 (.tmp 4) (.tmp 59), none⟩])
 (.seq (.seq (.ops [⟨(some 60), .fldA 0 (.tmp 1), none⟩,
  ⟨(some 61), .load1 (.tmp 60), none⟩,
  ⟨(some 62), .ar .i64 .sub (.tmp 61) (.const (.int .i64 1)), none⟩,
  ⟨(some 63), .cutA 4 1 (.tmp 4) none none none, none⟩,
  ⟨(some 64), .call 60 [(.const (.int .i64 0)), (.tmp 62), (.tmp 63)], none⟩,
  ⟨(some 65), .not (.tmp 64), none⟩,
  ⟨(some 66), .mov (.tmp 65), none⟩,
  ⟨(some 67), .idxA 4 1 (.tmp 4) (.const (.int .i64 0)), (some (66, false))⟩,
  ⟨(some 68), .load1 (.tmp 67), (some (66, false))⟩,
  ⟨(some 69), .idxA 4 1 (.tmp 4) (.const (.int .i64 1)), (some (66, false))⟩,
  ⟨(some 70), .load1 (.tmp 69), (some (66, false))⟩,
  ⟨(some 71), .ar .i64 .gtr (.tmp 68) (.tmp 70), (some (66, false))⟩,
  ⟨(some 72), .pick (.tmp 66) (.const (.bool true)) (.tmp 71), none⟩])
 (.cond (.tmp 72) (.seq (.ops [⟨(some 2), .mov (.const (.int .i64 60)), none⟩])
 .ret)
 .skip))
 (.seq (.ops [⟨(some 73), .mov (.tmp 3), none⟩,
  ⟨(some 74), .ar .i64 .gtr (.tmp 73) (.const (.int .i64 0)), none⟩,
  ⟨(some 75), .mov (.tmp 74), none⟩,
  ⟨(some 76), .fldA 3 (.tmp 1), (some (75, true))⟩,
  ⟨(some 77), .load1 (.tmp 76), (some (75, true))⟩,
  ⟨(some 78), .mov (.tmp 3), (some (75, true))⟩,
  ⟨(some 79), .ar .i64 .sub (.tmp 78) (.const (.int .i64 1)), (some (75, true))⟩,
  ⟨(some 80), .idxS 4 (.tmp 77) (.tmp 79), (some (75, true))⟩,
  ⟨(some 81), .cutA 4 1 (.tmp 80) none (some (.const (.int .i64 2))) none, (some (75, true))⟩,
  ⟨(some 82), .cutA 4 1 (.tmp 4) none (some (.const (.int .i64 2))) none, (some (75, true))⟩,
  ⟨(some 83), .call 61 [(.tmp 81), (.tmp 82)], (some (75, true))⟩,
  ⟨(some 84), .ar .i64 .geq (.tmp 83) (.const (.int .i64 0)), (some (75, true))⟩,
  ⟨(some 85), .pick (.tmp 75) (.tmp 84) (.const (.bool false)), none⟩])
 (.cond (.tmp 85) (.seq (.ops [⟨(some 2), .mov (.const (.int .i64 60)), none⟩])
 .ret)
 .skip)))))
 (.ops [⟨(some 86), .ar .i64 .add (.tmp 55) (.const (.int .i64 1)), none⟩,
  ⟨(some 55), .mov (.tmp 86), none⟩])))))))
 (.seq (.ops [⟨(some 2), .mov (.const (.int .i64 0)), none⟩])
 .ret)))))
theorem enter21 {xs : List Value} {h : Hp} {Q : Value → Hp → Prop} (hl : xs.length ≤ 87) (w : wq E 87 none c21 (frameOf xs) h [] (leaveQ E [.tmp 2] Q)) : CallP E 21 xs h Q :=
  CallP.enterQ (fn := Try.f21) (fn_get Try.func21) (code := Try.f21.body.get rfl) rfl rfl rfl (by kernel_rfl) rfl (fun _ => rfl) hl w
theorem can21 : callable E 21 = true := callable_get Try.func21 rfl rfl

/-- tosher/tally.Answers -/
def c22 : C := (.seq (.ops [⟨(some 2), .box 25 (.tmp 0), none⟩,
  ⟨(some 3), .box 36 (.tmp 1), none⟩,
  ⟨(some 4), .mov (.const (.slice none 0 0)), none⟩,
  ⟨(some 5), .mov (.const (.bool false)), none⟩,
  ⟨(some 6), .mov (.const (.int .i64 0)), none⟩])
 (.seq (.seq (.ops [⟨(some 11), .loadN 4 (.tmp 2), none⟩,
  ⟨(some 12), .call 21 [(.tmp 11)], none⟩,
  ⟨(some 7), .mov (.tmp 12), none⟩])
 (.seq (.ops [⟨(some 13), .mov (.tmp 7), none⟩,
  ⟨(some 14), .ar .i64 .neq (.tmp 13) (.const (.int .i64 0)), none⟩])
 (.cond (.tmp 14) (.seq (.ops [⟨(some 15), .mov (.tmp 7), none⟩,
  ⟨(some 4), .mov (.const (.slice none 0 0)), none⟩,
  ⟨(some 5), .mov (.const (.bool false)), none⟩,
  ⟨(some 6), .mov (.tmp 15), none⟩])
 .ret)
 .skip)))
 (.seq (.seq (.ops [⟨(some 16), .loadN 3 (.tmp 3), none⟩,
  ⟨(some 17), .call 62 [(.tmp 16)], none⟩,
  ⟨(some 18), .not (.tmp 17), none⟩,
  ⟨(some 19), .mov (.tmp 18), none⟩,
  ⟨(some 20), .fldA 0 (.tmp 3), (some (19, false))⟩,
  ⟨(some 21), .load1 (.tmp 20), (some (19, false))⟩,
  ⟨(some 22), .lenS (.tmp 21), (some (19, false))⟩,
  ⟨(some 23), .fldA 2 (.tmp 2), (some (19, false))⟩,
  ⟨(some 24), .load1 (.tmp 23), (some (19, false))⟩,
  ⟨(some 25), .lenS (.tmp 24), (some (19, false))⟩,
  ⟨(some 26), .ar .i64 .neq (.tmp 22) (.tmp 25), (some (19, false))⟩,
  ⟨(some 27), .pick (.tmp 19) (.const (.bool true)) (.tmp 26), none⟩])
 (.cond (.tmp 27) (.seq (.ops [⟨(some 4), .mov (.const (.slice none 0 0)), none⟩,
  ⟨(some 5), .mov (.const (.bool false)), none⟩,
  ⟨(some 6), .mov (.const (.int .i64 1)), none⟩])
 .ret)
 .skip))
 (.seq (.seq (.ops [⟨(some 28), .fldA 2 (.tmp 2), none⟩,
  ⟨(some 29), .load1 (.tmp 28), none⟩,
  ⟨(some 30), .lenS (.tmp 29), none⟩,
  ⟨(some 31), .call 63 [(.tmp 30)], none⟩,
  ⟨(some 32), .lenS (.tmp 31), none⟩,
  ⟨(some 33), .mov (.const (.int .i64 0)), none⟩])
 (.block 0 (.loop (.seq (.ops [⟨(some 34), .ar .i64 .lss (.tmp 33) (.tmp 32), none⟩])
 (.seq (.cond (.tmp 34) .skip
 (.exit 0))
 (.seq (.block 1 (.seq (.ops [⟨(some 35), .idxS 1 (.tmp 31) (.tmp 33), none⟩,
  ⟨(some 36), .load1 (.tmp 35), none⟩,
  ⟨(some 9), .mov (.tmp 36), none⟩])
 (.seq (.ops [⟨(some 10), .mov (.const (.int .i64 0)), none⟩])
 (.seq (.seq (.ops [⟨(some 37), .loadN 3 (.tmp 3), none⟩,
  ⟨(some 38), .mov (.tmp 9), none⟩,
  ⟨(some 39), .call 64 [(.tmp 37), (.tmp 38)], none⟩])
 (.cond (.tmp 39) (.ops [⟨(some 10), .mov (.const (.int .i64 1)), none⟩])
 .skip))
 (.seq (.draw [⟨(some 40), .loadN 4 (.tmp 2), none⟩,
  ⟨(some 41), .loadN 4 (.tmp 2), none⟩,
  ⟨(some 42), .loadN 4 (.tmp 2), none⟩,
  ⟨(some 43), .mov (.tmp 9), none⟩,
  ⟨(some 44), .call 67 [(.tmp 42), (.tmp 43)], none⟩,
  ⟨(some 45), .call 66 [(.tmp 41), (.tmp 44)], none⟩,
  ⟨(some 46), .mov (.tmp 10), none⟩,
  ⟨(some 47), .call 65 [(.tmp 40), (.tmp 45), (.tmp 46)], none⟩,
  ⟨(some 48), .not (.tmp 47), none⟩]
  [⟨false, true, [false, false, false, false, false, false, false, false, false], [false, false, false, false, true, true, false, false, false]⟩,
  ⟨false, true, [false, false, false, false, false, false, false, false, false], [false, false, false, false, true, false, false, false, false]⟩,
  ⟨false, false, [false, false, false, false, false, false, false, false, false], [false, false, false, false, false, false, false, false, false]⟩,
  ⟨false, false, [false, false, false, false, false, false, false, false, false], [false, false, false, false, false, false, false, false, false]⟩,
  ⟨true, false, [false, false, false, false, false, false, false, false, false], [false, false, false, false, true, false, false, false, false]⟩,
  ⟨true, false, [false, false, false, false, true, false, false, false, false], [false, false, false, false, true, true, false, false, false]⟩,
  ⟨false, true, [false, false, false, false, false, false, false, false, false], [false, false, false, false, true, true, false, false, false]⟩,
  ⟨true, false, [false, false, false, false, true, true, false, false, false], [false, false, false, false, true, true, false, true, false]⟩,
  ⟨false, false, [false, false, false, false, true, true, false, true, false], [false, false, false, false, true, true, false, true, false]⟩])
 (.cond (.tmp 48) (.seq (.ops [⟨(some 49), .mov (.tmp 9), none⟩,
  ⟨(some 4), .mov (.tmp 49), none⟩,
  ⟨(some 5), .mov (.const (.bool false)), none⟩,
  ⟨(some 6), .mov (.const (.int .i64 0)), none⟩])
 .ret)
 .skip))))))
 (.ops [⟨(some 50), .ar .i64 .add (.tmp 33) (.const (.int .i64 1)), none⟩,
  ⟨(some 33), .mov (.tmp 50), none⟩])))))))
 (.seq (.ops [⟨(some 4), .mov (.const (.slice none 0 0)), none⟩,
  ⟨(some 5), .mov (.const (.bool true)), none⟩,
  ⟨(some 6), .mov (.const (.int .i64 0)), none⟩])
 .ret)))))
theorem enter22 {xs : List Value} {h : Hp} {Q : Value → Hp → Prop} (hl : xs.length ≤ 51) (w : wq E 51 none c22 (frameOf xs) h [] (leaveQ E [.tmp 4, .tmp 5, .tmp 6] Q)) : CallP E 22 xs h Q :=
  CallP.enterQ (fn := Try.f22) (fn_get Try.func22) (code := Try.f22.body.get rfl) rfl rfl rfl (by kernel_rfl) rfl (fun _ => rfl) hl w
theorem can22 : callable E 22 = true := callable_get Try.func22 rfl rfl

/-- tosher/tally.Kept -/
def c23 : C := (.seq (.ops [⟨(some 3), .box 25 (.tmp 0), none⟩,
  ⟨(some 6), .mov (.const (.bool false)), none⟩,
  ⟨(some 7), .mov (.const (.int .i64 0)), none⟩])
 (.seq (.seq (.ops [⟨(some 9), .loadN 4 (.tmp 3), none⟩,
  ⟨(some 10), .call 21 [(.tmp 9)], none⟩,
  ⟨(some 8), .mov (.tmp 10), none⟩])
 (.seq (.ops [⟨(some 11), .mov (.tmp 8), none⟩,
  ⟨(some 12), .ar .i64 .neq (.tmp 11) (.const (.int .i64 0)), none⟩])
 (.cond (.tmp 12) (.seq (.ops [⟨(some 13), .mov (.tmp 8), none⟩,
  ⟨(some 6), .mov (.const (.bool false)), none⟩,
  ⟨(some 7), .mov (.tmp 13), none⟩])
 .ret)
 .skip)))
 (.seq (.seq (.ops [⟨(some 14), .mov (.tmp 1), none⟩,
  ⟨(some 15), .lenS (.tmp 14), none⟩,
  ⟨(some 16), .fldA 0 (.tmp 3), none⟩,
  ⟨(some 17), .load1 (.tmp 16), none⟩,
  ⟨(some 18), .ar .i64 .neq (.tmp 15) (.tmp 17), none⟩,
  ⟨(some 19), .mov (.tmp 18), none⟩,
  ⟨(some 20), .mov (.tmp 1), (some (19, false))⟩,
  ⟨(some 21), .call 60 [(.const (.int .i64 (-1000))), (.const (.int .i64 1000)), (.tmp 20)], (some (19, false))⟩,
  ⟨(some 22), .not (.tmp 21), (some (19, false))⟩,
  ⟨(some 23), .pick (.tmp 19) (.const (.bool true)) (.tmp 22), none⟩,
  ⟨(some 24), .mov (.tmp 23), none⟩,
  ⟨(some 25), .mov (.tmp 2), (some (24, false))⟩,
  ⟨(some 26), .slit 3 1 [(.int .i64 0)] [(0, 1, (.tmp 25))], (some (24, false))⟩,
  ⟨(some 27), .call 60 [(.const (.int .i64 0)), (.const (.int .i64 1000)), (.tmp 26)], (some (24, false))⟩,
  ⟨(some 28), .not (.tmp 27), (some (24, false))⟩,
  ⟨(some 29), .pick (.tmp 24) (.const (.bool true)) (.tmp 28), none⟩])
 (.cond (.tmp 29) (.seq (.ops [⟨(some 6), .mov (.const (.bool false)), none⟩,
  ⟨(some 7), .mov (.const (.int .i64 1)), none⟩])
 .ret)
 .skip))
 (.seq (.ops [⟨(some 30), .loadN 4 (.tmp 3), none⟩,
  ⟨(some 31), .mov (.tmp 1), none⟩,
  ⟨(some 32), .mov (.tmp 2), none⟩,
  ⟨(some 33), .call 68 [(.tmp 30), (.tmp 31), (.tmp 32)], none⟩,
  ⟨(some 6), .mov (.tmp 33), none⟩,
  ⟨(some 7), .mov (.const (.int .i64 0)), none⟩])
 .ret))))
theorem enter23 {xs : List Value} {h : Hp} {Q : Value → Hp → Prop} (hl : xs.length ≤ 34) (w : wq E 34 none c23 (frameOf xs) h [] (leaveQ E [.tmp 6, .tmp 7] Q)) : CallP E 23 xs h Q :=
  CallP.enterQ (fn := Try.f23) (fn_get Try.func23) (code := Try.f23.body.get rfl) rfl rfl rfl (by kernel_rfl) rfl (fun _ => rfl) hl w
theorem can23 : callable E 23 = true := callable_get Try.func23 rfl rfl

/-- tosher/tally.Weighs -/
def c24 : C := (.seq (.ops [⟨(some 1), .box 25 (.tmp 0), none⟩,
  ⟨(some 2), .mov (.const (.int .i64 0)), none⟩,
  ⟨(some 3), .mov (.const (.int .i64 0)), none⟩])
 (.seq (.seq (.ops [⟨(some 5), .loadN 4 (.tmp 1), none⟩,
  ⟨(some 6), .call 21 [(.tmp 5)], none⟩,
  ⟨(some 4), .mov (.tmp 6), none⟩])
 (.seq (.ops [⟨(some 7), .mov (.tmp 4), none⟩,
  ⟨(some 8), .ar .i64 .neq (.tmp 7) (.const (.int .i64 0)), none⟩])
 (.cond (.tmp 8) (.seq (.ops [⟨(some 9), .mov (.tmp 4), none⟩,
  ⟨(some 2), .mov (.const (.int .i64 0)), none⟩,
  ⟨(some 3), .mov (.tmp 9), none⟩])
 .ret)
 .skip)))
 (.seq (.ops [⟨(some 10), .loadN 4 (.tmp 1), none⟩,
  ⟨(some 11), .call 69 [(.tmp 10)], none⟩,
  ⟨(some 12), .lenS (.tmp 11), none⟩,
  ⟨(some 2), .mov (.tmp 12), none⟩,
  ⟨(some 3), .mov (.const (.int .i64 0)), none⟩])
 .ret)))
theorem enter24 {xs : List Value} {h : Hp} {Q : Value → Hp → Prop} (hl : xs.length ≤ 13) (w : wq E 13 none c24 (frameOf xs) h [] (leaveQ E [.tmp 2, .tmp 3] Q)) : CallP E 24 xs h Q :=
  CallP.enterQ (fn := Try.f24) (fn_get Try.func24) (code := Try.f24.body.get rfl) rfl rfl rfl (by kernel_rfl) rfl (fun _ => rfl) hl w
theorem can24 : callable E 24 = true := callable_get Try.func24 rfl rfl

/-- tosher/tally.Crowd -/
def c25 : C := (.seq (.ops [⟨(some 2), .box 25 (.tmp 0), none⟩,
  ⟨(some 4), .mov (.const (.slice none 0 0)), none⟩,
  ⟨(some 5), .mov (.const (.int .i64 0)), none⟩])
 (.seq (.seq (.ops [⟨(some 8), .loadN 4 (.tmp 2), none⟩,
  ⟨(some 9), .call 21 [(.tmp 8)], none⟩,
  ⟨(some 6), .mov (.tmp 9), none⟩])
 (.seq (.ops [⟨(some 10), .mov (.tmp 6), none⟩,
  ⟨(some 11), .ar .i64 .neq (.tmp 10) (.const (.int .i64 0)), none⟩])
 (.cond (.tmp 11) (.seq (.ops [⟨(some 12), .mov (.tmp 6), none⟩,
  ⟨(some 4), .mov (.const (.slice none 0 0)), none⟩,
  ⟨(some 5), .mov (.tmp 12), none⟩])
 .ret)
 .skip)))
 (.seq (.seq (.ops [⟨(some 13), .mov (.tmp 1), none⟩,
  ⟨(some 14), .fldA 2 (.tmp 2), none⟩,
  ⟨(some 15), .load1 (.tmp 14), none⟩,
  ⟨(some 16), .lenS (.tmp 15), none⟩,
  ⟨(some 17), .call 70 [(.tmp 13), (.tmp 16)], none⟩,
  ⟨(some 18), .not (.tmp 17), none⟩])
 (.cond (.tmp 18) (.seq (.ops [⟨(some 4), .mov (.const (.slice none 0 0)), none⟩,
  ⟨(some 5), .mov (.const (.int .i64 1)), none⟩])
 .ret)
 .skip))
 (.seq (.ops [⟨(some 19), .loadN 4 (.tmp 2), none⟩,
  ⟨(some 20), .mov (.tmp 1), none⟩,
  ⟨(some 21), .call 67 [(.tmp 19), (.tmp 20)], none⟩,
  ⟨(some 7), .alloc 107 [(.int .i64 0), (.int .i64 0), (.int .i64 0), (.int .i64 0), (.int .i64 0)], none⟩,
  ⟨none, .store 5 (.tmp 7) (.tmp 21), none⟩])
 (.seq (.ops [⟨(some 22), .fldA 0 (.tmp 2), none⟩,
  ⟨(some 23), .load1 (.tmp 22), none⟩,
  ⟨(some 24), .cutA 5 1 (.tmp 7) none (some (.tmp 23)) none, none⟩,
  ⟨(some 25), .call 71 [(.tmp 24)], none⟩,
  ⟨(some 4), .mov (.tmp 25), none⟩,
  ⟨(some 5), .mov (.const (.int .i64 0)), none⟩])
 .ret)))))
theorem enter25 {xs : List Value} {h : Hp} {Q : Value → Hp → Prop} (hl : xs.length ≤ 26) (w : wq E 26 none c25 (frameOf xs) h [] (leaveQ E [.tmp 4, .tmp 5] Q)) : CallP E 25 xs h Q :=
  CallP.enterQ (fn := Try.f25) (fn_get Try.func25) (code := Try.f25.body.get rfl) rfl rfl rfl (by kernel_rfl) rfl (fun _ => rfl) hl w
theorem can25 : callable E 25 = true := callable_get Try.func25 rfl rfl

/-- tosher/tosherref06.Crowded -/
def c26 : C := (.seq (.ops [⟨(some 4), .mov (.const (.bool false)), none⟩])
 (.seq (.seq (.ops [⟨(some 5), .mov (.const (.int .i64 0)), none⟩])
 (.block 0 (.loop (.seq (.seq (.ops [⟨(some 6), .mov (.tmp 5), none⟩,
  ⟨(some 7), .mov (.tmp 0), none⟩,
  ⟨(some 8), .lenS (.tmp 7), none⟩,
  ⟨(some 9), .ar .i64 .lss (.tmp 6) (.tmp 8), none⟩])
 (.cond (.tmp 9) .skip
 (.exit 0)))
 (.seq (.block 1 (.seq (.ops [⟨(some 12), .mov (.tmp 0), none⟩,
  ⟨(some 13), .mov (.tmp 5), none⟩,
  ⟨(some 14), .idxS 1 (.tmp 12) (.tmp 13), none⟩,
  ⟨(some 15), .load1 (.tmp 14), none⟩,
  ⟨(some 16), .ar .i64 .lss (.tmp 15) (.const (.int .i64 0)), none⟩,
  ⟨(some 17), .mov (.tmp 16), none⟩,
  ⟨(some 18), .mov (.tmp 0), (some (17, false))⟩,
  ⟨(some 19), .mov (.tmp 5), (some (17, false))⟩,
  ⟨(some 20), .idxS 1 (.tmp 18) (.tmp 19), (some (17, false))⟩,
  ⟨(some 21), .load1 (.tmp 20), (some (17, false))⟩,
  ⟨(some 22), .ar .i64 .gtr (.tmp 21) (.const (.int .i64 9)), (some (17, false))⟩,
  ⟨(some 23), .pick (.tmp 17) (.const (.bool true)) (.tmp 22), none⟩])
 (.cond (.tmp 23) (.seq (.ops [⟨(some 4), .mov (.const (.bool false)), none⟩])
 .ret)
 .skip)))
 (.ops [⟨(some 10), .mov (.tmp 5), none⟩,
  ⟨(some 11), .ar .i64 .add (.tmp 10) (.const (.int .i64 1)), none⟩,
  ⟨(some 5), .mov (.tmp 11), none⟩]))))))
 (.seq (.ops [⟨(some 24), .mov (.tmp 0), none⟩,
  ⟨(some 25), .lenS (.tmp 24), none⟩,
  ⟨(some 26), .mov (.tmp 1), none⟩,
  ⟨(some 27), .ar .i64 .eql (.tmp 25) (.tmp 26), none⟩,
  ⟨(some 28), .mov (.tmp 27), none⟩,
  ⟨(some 29), .mov (.tmp 0), (some (28, true))⟩,
  ⟨(some 30), .call 59 [(.tmp 29)], (some (28, true))⟩,
  ⟨(some 31), .ar .i64 .geq (.tmp 30) (.const (.int .i64 1)), (some (28, true))⟩,
  ⟨(some 32), .pick (.tmp 28) (.tmp 31) (.const (.bool false)), none⟩,
  ⟨(some 33), .mov (.tmp 32), none⟩,
  ⟨(some 34), .mov (.tmp 0), (some (33, true))⟩,
  ⟨(some 35), .call 59 [(.tmp 34)], (some (33, true))⟩,
  ⟨(some 36), .ar .i64 .leq (.tmp 35) (.const (.int .i64 9)), (some (33, true))⟩,
  ⟨(some 37), .pick (.tmp 33) (.tmp 36) (.const (.bool false)), none⟩,
  ⟨(some 4), .mov (.tmp 37), none⟩])
 .ret)))
theorem enter26 {xs : List Value} {h : Hp} {Q : Value → Hp → Prop} (hl : xs.length ≤ 38) (w : wq E 38 none c26 (frameOf xs) h [] (leaveQ E [.tmp 4] Q)) : CallP E 26 xs h Q :=
  CallP.enterQ (fn := Try.f26) (fn_get Try.func26) (code := Try.f26.body.get rfl) rfl rfl rfl (by kernel_rfl) rfl (fun _ => rfl) hl w
theorem can26 : callable E 26 = true := callable_get Try.func26 rfl rfl

theorem memo27 {h : Hp} {Q : Value → Hp → Prop} (q : Q (.bool true) h) : CallP E 27 [] h Q := CallP.memo rfl q

/-- tosher/tally.Meet -/
def c28 : C := (.seq (.ops [⟨(some 3), .box 25 (.tmp 0), none⟩,
  ⟨(some 6), .mov (.const (.slice none 0 0)), none⟩,
  ⟨(some 7), .mov (.const (.int .i64 0)), none⟩,
  ⟨(some 8), .mov (.const (.int .i64 0)), none⟩])
 (.seq (.ops [⟨(some 15), .loadN 4 (.tmp 3), none⟩,
  ⟨(some 16), .mov (.tmp 1), none⟩,
  ⟨(some 17), .call 73 [(.tmp 15), (.tmp 16)], none⟩,
  ⟨(some 14), .mov (.tmp 17), none⟩,
  ⟨(some 18), .ext (.tmp 14) 0, none⟩,
  ⟨(some 19), .ext (.tmp 14) 1, none⟩,
  ⟨(some 9), .alloc 107 [(.int .i64 0), (.int .i64 0), (.int .i64 0), (.int .i64 0), (.int .i64 0)], none⟩,
  ⟨none, .store 5 (.tmp 9) (.tmp 18), none⟩,
  ⟨(some 10), .mov (.tmp 19), none⟩])
 (.seq (.seq (.ops [⟨(some 20), .mov (.tmp 10), none⟩,
  ⟨(some 21), .ar .i64 .neq (.tmp 20) (.const (.int .i64 0)), none⟩])
 (.cond (.tmp 21) (.seq (.ops [⟨(some 22), .mov (.tmp 10), none⟩,
  ⟨(some 6), .mov (.const (.slice none 0 0)), none⟩,
  ⟨(some 7), .mov (.const (.int .i64 0)), none⟩,
  ⟨(some 8), .mov (.tmp 22), none⟩])
 .ret)
 .skip))
 (.seq (.ops [⟨(some 11), .mov (.const (.int .i64 0)), none⟩])
 (.seq (.seq (.ops [⟨(some 23), .mov (.tmp 2), none⟩,
  ⟨(some 24), .lenS (.tmp 23), none⟩,
  ⟨(some 25), .mov (.const (.int .i64 0)), none⟩])
 (.block 0 (.loop (.seq (.ops [⟨(some 26), .ar .i64 .lss (.tmp 25) (.tmp 24), none⟩])
 (.seq (.cond (.tmp 26) .skip
 (.exit 0))
 (.seq (.block 1 (.seq (.ops [⟨(some 27), .idxS 1 (.tmp 23) (.tmp 25), none⟩,
  ⟨(some 28), .load1 (.tmp 27), none⟩,
  ⟨(some 13), .mov (.tmp 28), none⟩])
 (.seq (.seq (.ops [⟨(some 29), .mov (.tmp 13), none⟩,
  ⟨(some 30), .ar .i64 .lss (.tmp 29) (.const (.int .i64 0)), none⟩,
  ⟨(some 31), .mov (.tmp 30), none⟩,
  ⟨(some 32), .mov (.tmp 13), (some (31, false))⟩,
  ⟨(some 33), .fldA 3 (.tmp 3), (some (31, false))⟩,
  ⟨(some 34), .load1 (.tmp 33), (some (31, false))⟩,
  ⟨(some 35), .lenS (.tmp 34), (some (31, false))⟩,
  ⟨(some 36), .ar .i64 .geq (.tmp 32) (.tmp 35), (some (31, false))⟩,
  ⟨(some 37), .pick (.tmp 31) (.const (.bool true)) (.tmp 36), none⟩,
  ⟨(some 38), .mov (.tmp 37), none⟩,
  ⟨(some 39), .loadN 5 (.tmp 9), (some (38, false))⟩,
  ⟨(some 40), .fldA 3 (.tmp 3), (some (38, false))⟩,
  ⟨(some 41), .load1 (.tmp 40), (some (38, false))⟩,
  ⟨(some 42), .mov (.tmp 13), (some (38, false))⟩,
  ⟨(some 43), .idxS 4 (.tmp 41) (.tmp 42), (some (38, false))⟩,
  ⟨(some 44), .loadN 4 (.tmp 43), (some (38, false))⟩,
  ⟨(some 45), .call 74 [(.tmp 39), (.tmp 44)], (some (38, false))⟩,
  ⟨(some 46), .not (.tmp 45), (some (38, false))⟩,
  ⟨(some 47), .pick (.tmp 38) (.const (.bool true)) (.tmp 46), none⟩])
 (.cond (.tmp 47) (.exit 0)
 .skip))
 (.seq (.ops [⟨(some 48), .loadN 5 (.tmp 9), none⟩,
  ⟨(some 49), .fldA 3 (.tmp 3), none⟩,
  ⟨(some 50), .load1 (.tmp 49), none⟩,
  ⟨(some 51), .mov (.tmp 13), none⟩,
  ⟨(some 52), .idxS 4 (.tmp 50) (.tmp 51), none⟩,
  ⟨(some 53), .loadN 4 (.tmp 52), none⟩,
  ⟨(some 54), .call 75 [(.tmp 48), (.tmp 53)], none⟩,
  ⟨none, .store 5 (.tmp 9) (.tmp 54), none⟩])
 (.ops [⟨(some 55), .mov (.tmp 11), none⟩,
  ⟨(some 56), .ar .i64 .add (.tmp 55) (.const (.int .i64 1)), none⟩,
  ⟨(some 11), .mov (.tmp 56), none⟩])))))
 (.ops [⟨(some 57), .ar .i64 .add (.tmp 25) (.const (.int .i64 1)), none⟩,
  ⟨(some 25), .mov (.tmp 57), none⟩])))))))
 (.seq (.ops [⟨(some 58), .fldA 0 (.tmp 3), none⟩,
  ⟨(some 59), .load1 (.tmp 58), none⟩,
  ⟨(some 60), .cutA 5 1 (.tmp 9) none (some (.tmp 59)) none, none⟩,
  ⟨(some 61), .call 71 [(.tmp 60)], none⟩,
  ⟨(some 62), .mov (.tmp 11), none⟩,
  ⟨(some 6), .mov (.tmp 61), none⟩,
  ⟨(some 7), .mov (.tmp 62), none⟩,
  ⟨(some 8), .mov (.const (.int .i64 0)), none⟩])
 .ret))))))
theorem enter28 {xs : List Value} {h : Hp} {Q : Value → Hp → Prop} (hl : xs.length ≤ 63) (w : wq E 63 none c28 (frameOf xs) h [] (leaveQ E [.tmp 6, .tmp 7, .tmp 8] Q)) : CallP E 28 xs h Q :=
  CallP.enterQ (fn := Try.f28) (fn_get Try.func28) (code := Try.f28.body.get rfl) rfl rfl rfl (by kernel_rfl) rfl (fun _ => rfl) hl w
theorem can28 : callable E 28 = true := callable_get Try.func28 rfl rfl

/-- tosher/tally.Way -/
def c29 : C := (.seq (.ops [⟨(some 3), .box 25 (.tmp 0), none⟩,
  ⟨(some 6), .mov (.const (.slice none 0 0)), none⟩,
  ⟨(some 7), .mov (.const (.bool false)), none⟩,
  ⟨(some 8), .mov (.const (.int .i64 0)), none⟩])
 (.seq (.ops [⟨(some 15), .loadN 4 (.tmp 3), none⟩,
  ⟨(some 16), .mov (.tmp 1), none⟩,
  ⟨(some 17), .mov (.tmp 2), none⟩,
  ⟨(some 18), .call 76 [(.tmp 15), (.tmp 16), (.tmp 17)], none⟩,
  ⟨(some 14), .mov (.tmp 18), none⟩,
  ⟨(some 19), .ext (.tmp 14) 0, none⟩,
  ⟨(some 20), .ext (.tmp 14) 1, none⟩,
  ⟨(some 21), .ext (.tmp 14) 2, none⟩,
  ⟨(some 9), .alloc 107 [(.int .i64 0), (.int .i64 0), (.int .i64 0), (.int .i64 0), (.int .i64 0)], none⟩,
  ⟨(some 10), .alloc 107 [(.int .i64 0), (.int .i64 0), (.int .i64 0), (.int .i64 0), (.int .i64 0)], none⟩,
  ⟨none, .store 5 (.tmp 9) (.tmp 19), none⟩,
  ⟨none, .store 5 (.tmp 10) (.tmp 20), none⟩,
  ⟨(some 11), .mov (.tmp 21), none⟩])
 (.seq (.seq (.ops [⟨(some 22), .mov (.tmp 11), none⟩,
  ⟨(some 23), .ar .i64 .neq (.tmp 22) (.const (.int .i64 0)), none⟩])
 (.cond (.tmp 23) (.seq (.ops [⟨(some 24), .mov (.tmp 11), none⟩,
  ⟨(some 6), .mov (.const (.slice none 0 0)), none⟩,
  ⟨(some 7), .mov (.const (.bool false)), none⟩,
  ⟨(some 8), .mov (.tmp 24), none⟩])
 .ret)
 .skip))
 (.seq (.ops [⟨(some 26), .loadN 4 (.tmp 3), none⟩,
  ⟨(some 27), .loadN 5 (.tmp 9), none⟩,
  ⟨(some 28), .loadN 5 (.tmp 10), none⟩,
  ⟨(some 29), .call 77 [(.tmp 26), (.tmp 27), (.tmp 28)], none⟩,
  ⟨(some 25), .mov (.tmp 29), none⟩,
  ⟨(some 30), .ext (.tmp 25) 0, none⟩,
  ⟨(some 31), .ext (.tmp 25) 1, none⟩,
  ⟨(some 12), .mov (.tmp 30), none⟩,
  ⟨(some 13), .mov (.tmp 31), none⟩])
 (.seq (.ops [⟨(some 32), .mov (.tmp 12), none⟩,
  ⟨(some 33), .mov (.tmp 13), none⟩,
  ⟨(some 6), .mov (.tmp 32), none⟩,
  ⟨(some 7), .mov (.tmp 33), none⟩,
  ⟨(some 8), .mov (.const (.int .i64 0)), none⟩])
 .ret)))))
theorem enter29 {xs : List Value} {h : Hp} {Q : Value → Hp → Prop} (hl : xs.length ≤ 34) (w : wq E 34 none c29 (frameOf xs) h [] (leaveQ E [.tmp 6, .tmp 7, .tmp 8] Q)) : CallP E 29 xs h Q :=
  CallP.enterQ (fn := Try.f29) (fn_get Try.func29) (code := Try.f29.body.get rfl) rfl rfl rfl (by kernel_rfl) rfl (fun _ => rfl) hl w
theorem can29 : callable E 29 = true := callable_get Try.func29 rfl rfl

/-- tosher/tally.Reached -/
def c30 : C := (.seq (.ops [⟨(some 2), .box 25 (.tmp 0), none⟩,
  ⟨(some 4), .mov (.const (.int .i64 0)), none⟩,
  ⟨(some 5), .mov (.const (.int .i64 0)), none⟩])
 (.seq (.ops [⟨(some 9), .loadN 4 (.tmp 2), none⟩,
  ⟨(some 10), .mov (.tmp 1), none⟩,
  ⟨(some 11), .call 73 [(.tmp 9), (.tmp 10)], none⟩,
  ⟨(some 8), .mov (.tmp 11), none⟩,
  ⟨(some 12), .ext (.tmp 8) 0, none⟩,
  ⟨(some 13), .ext (.tmp 8) 1, none⟩,
  ⟨(some 6), .alloc 107 [(.int .i64 0), (.int .i64 0), (.int .i64 0), (.int .i64 0), (.int .i64 0)], none⟩,
  ⟨none, .store 5 (.tmp 6) (.tmp 12), none⟩,
  ⟨(some 7), .mov (.tmp 13), none⟩])
 (.seq (.seq (.ops [⟨(some 14), .mov (.tmp 7), none⟩,
  ⟨(some 15), .ar .i64 .neq (.tmp 14) (.const (.int .i64 0)), none⟩])
 (.cond (.tmp 15) (.seq (.ops [⟨(some 16), .mov (.tmp 7), none⟩,
  ⟨(some 4), .mov (.const (.int .i64 0)), none⟩,
  ⟨(some 5), .mov (.tmp 16), none⟩])
 .ret)
 .skip))
 (.seq (.ops [⟨(some 17), .loadN 4 (.tmp 2), none⟩,
  ⟨(some 18), .loadN 5 (.tmp 6), none⟩,
  ⟨(some 19), .call 66 [(.tmp 17), (.tmp 18)], none⟩,
  ⟨(some 20), .fld1 0 (.tmp 19), none⟩,
  ⟨(some 21), .lenS (.tmp 20), none⟩,
  ⟨(some 4), .mov (.tmp 21), none⟩,
  ⟨(some 5), .mov (.const (.int .i64 0)), none⟩])
 .ret))))
theorem enter30 {xs : List Value} {h : Hp} {Q : Value → Hp → Prop} (hl : xs.length ≤ 22) (w : wq E 22 none c30 (frameOf xs) h [] (leaveQ E [.tmp 4, .tmp 5] Q)) : CallP E 30 xs h Q :=
  CallP.enterQ (fn := Try.f30) (fn_get Try.func30) (code := Try.f30.body.get rfl) rfl rfl rfl (by kernel_rfl) rfl (fun _ => rfl) hl w
theorem can30 : callable E 30 = true := callable_get Try.func30 rfl rfl

/-- tosher/tally.Settled -/
def c31 : C := (.seq (.ops [⟨(some 2), .box 25 (.tmp 0), none⟩,
  ⟨(some 4), .mov (.const (.int .i64 0)), none⟩,
  ⟨(some 5), .mov (.const (.bool false)), none⟩,
  ⟨(some 6), .mov (.const (.int .i64 0)), none⟩])
 (.seq (.ops [⟨(some 12), .loadN 4 (.tmp 2), none⟩,
  ⟨(some 13), .mov (.tmp 1), none⟩,
  ⟨(some 14), .call 73 [(.tmp 12), (.tmp 13)], none⟩,
  ⟨(some 11), .mov (.tmp 14), none⟩,
  ⟨(some 15), .ext (.tmp 11) 0, none⟩,
  ⟨(some 16), .ext (.tmp 11) 1, none⟩,
  ⟨(some 7), .alloc 107 [(.int .i64 0), (.int .i64 0), (.int .i64 0), (.int .i64 0), (.int .i64 0)], none⟩,
  ⟨none, .store 5 (.tmp 7) (.tmp 15), none⟩,
  ⟨(some 8), .mov (.tmp 16), none⟩])
 (.seq (.seq (.ops [⟨(some 17), .mov (.tmp 8), none⟩,
  ⟨(some 18), .ar .i64 .neq (.tmp 17) (.const (.int .i64 0)), none⟩])
 (.cond (.tmp 18) (.seq (.ops [⟨(some 19), .mov (.tmp 8), none⟩,
  ⟨(some 4), .mov (.const (.int .i64 0)), none⟩,
  ⟨(some 5), .mov (.const (.bool false)), none⟩,
  ⟨(some 6), .mov (.tmp 19), none⟩])
 .ret)
 .skip))
 (.seq (.draw [⟨(some 21), .loadN 4 (.tmp 2), none⟩,
  ⟨(some 22), .func (.func 79) [(.tmp 21)] [], none⟩,
  ⟨(some 23), .loadN 4 (.tmp 2), none⟩,
  ⟨(some 24), .loadN 5 (.tmp 7), none⟩,
  ⟨(some 25), .call 66 [(.tmp 23), (.tmp 24)], none⟩,
  ⟨(some 26), .call 78 [(.tmp 22), (.tmp 25)], none⟩,
  ⟨(some 20), .mov (.tmp 26), none⟩,
  ⟨(some 27), .ext (.tmp 20) 0, none⟩,
  ⟨(some 28), .ext (.tmp 20) 1, none⟩,
  ⟨(some 9), .mov (.tmp 27), none⟩,
  ⟨(some 10), .mov (.tmp 28), none⟩]
  [⟨false, true, [false, false, false, false, false, false, false, false, false, false, false], [false, false, false, false, true, false, false, false, false, false, false]⟩,
  ⟨false, true, [false, false, false, false, false, false, false, false, false, false, false], [false, false, false, false, true, false, false, false, false, false, false]⟩,
  ⟨false, false, [false, false, false, false, false, false, false, false, false, false, false], [false, false, false, false, false, false, false, false, false, false, false]⟩,
  ⟨false, false, [false, false, false, false, false, false, false, false, false, false, false], [false, false, false, false, false, false, false, false, false, false, false]⟩,
  ⟨true, false, [false, false, false, false, false, false, false, false, false, false, false], [false, false, false, false, true, false, false, false, false, false, false]⟩,
  ⟨true, false, [false, false, false, false, true, false, false, false, false, false, false], [false, false, false, false, true, true, false, false, false, false, false]⟩,
  ⟨false, false, [false, false, false, false, true, true, false, false, false, false, false], [false, false, false, false, true, true, false, false, false, false, false]⟩,
  ⟨false, false, [false, false, false, false, true, true, false, false, false, false, false], [false, false, false, false, true, true, false, false, false, false, false]⟩,
  ⟨false, false, [false, false, false, false, true, true, false, false, false, false, false], [false, false, false, false, true, true, false, false, false, false, false]⟩,
  ⟨false, false, [false, false, false, false, true, true, false, false, false, false, false], [false, false, false, false, true, true, false, false, false, false, false]⟩,
  ⟨false, false, [false, false, false, false, true, true, false, false, false, false, false], [false, false, false, false, true, true, false, false, false, false, false]⟩])
 (.seq (.ops [⟨(some 29), .mov (.tmp 9), none⟩,
  ⟨(some 30), .mov (.tmp 10), none⟩,
  ⟨(some 4), .mov (.tmp 29), none⟩,
  ⟨(some 5), .mov (.tmp 30), none⟩,
  ⟨(some 6), .mov (.const (.int .i64 0)), none⟩])
 .ret)))))
theorem enter31 {xs : List Value} {h : Hp} {Q : Value → Hp → Prop} (hl : xs.length ≤ 31) (w : wq E 31 none c31 (frameOf xs) h [] (leaveQ E [.tmp 4, .tmp 5, .tmp 6] Q)) : CallP E 31 xs h Q :=
  CallP.enterQ (fn := Try.f31) (fn_get Try.func31) (code := Try.f31.body.get rfl) rfl rfl rfl (by kernel_rfl) rfl (fun _ => rfl) hl w
theorem can31 : callable E 31 = true := callable_get Try.func31 rfl rfl

/-- tosher/tally.Decides -/
def c32 : C := (.seq (.ops [⟨(some 2), .box 25 (.tmp 0), none⟩,
  ⟨(some 4), .mov (.const (.int .i64 0)), none⟩,
  ⟨(some 5), .mov (.const (.bool false)), none⟩,
  ⟨(some 6), .mov (.const (.int .i64 0)), none⟩])
 (.seq (.ops [⟨(some 12), .loadN 4 (.tmp 2), none⟩,
  ⟨(some 13), .mov (.tmp 1), none⟩,
  ⟨(some 14), .call 73 [(.tmp 12), (.tmp 13)], none⟩,
  ⟨(some 11), .mov (.tmp 14), none⟩,
  ⟨(some 15), .ext (.tmp 11) 0, none⟩,
  ⟨(some 16), .ext (.tmp 11) 1, none⟩,
  ⟨(some 7), .alloc 107 [(.int .i64 0), (.int .i64 0), (.int .i64 0), (.int .i64 0), (.int .i64 0)], none⟩,
  ⟨none, .store 5 (.tmp 7) (.tmp 15), none⟩,
  ⟨(some 8), .mov (.tmp 16), none⟩])
 (.seq (.seq (.ops [⟨(some 17), .mov (.tmp 8), none⟩,
  ⟨(some 18), .ar .i64 .neq (.tmp 17) (.const (.int .i64 0)), none⟩])
 (.cond (.tmp 18) (.seq (.ops [⟨(some 19), .mov (.tmp 8), none⟩,
  ⟨(some 4), .mov (.const (.int .i64 0)), none⟩,
  ⟨(some 5), .mov (.const (.bool false)), none⟩,
  ⟨(some 6), .mov (.tmp 19), none⟩])
 .ret)
 .skip))
 (.seq (.draw [⟨(some 21), .loadN 4 (.tmp 2), none⟩,
  ⟨(some 22), .func (.func 65) [(.tmp 21)] [], none⟩,
  ⟨(some 23), .loadN 4 (.tmp 2), none⟩,
  ⟨(some 24), .loadN 5 (.tmp 7), none⟩,
  ⟨(some 25), .call 66 [(.tmp 23), (.tmp 24)], none⟩,
  ⟨(some 26), .call 78 [(.tmp 22), (.tmp 25)], none⟩,
  ⟨(some 20), .mov (.tmp 26), none⟩,
  ⟨(some 27), .ext (.tmp 20) 0, none⟩,
  ⟨(some 28), .ext (.tmp 20) 1, none⟩,
  ⟨(some 9), .mov (.tmp 27), none⟩,
  ⟨(some 10), .mov (.tmp 28), none⟩]
  [⟨false, true, [false, false, false, false, false, false, false, false, false, false, false], [false, false, false, false, true, false, false, false, false, false, false]⟩,
  ⟨false, true, [false, false, false, false, false, false, false, false, false, false, false], [false, false, false, false, true, false, false, false, false, false, false]⟩,
  ⟨false, false, [false, false, false, false, false, false, false, false, false, false, false], [false, false, false, false, false, false, false, false, false, false, false]⟩,
  ⟨false, false, [false, false, false, false, false, false, false, false, false, false, false], [false, false, false, false, false, false, false, false, false, false, false]⟩,
  ⟨true, false, [false, false, false, false, false, false, false, false, false, false, false], [false, false, false, false, true, false, false, false, false, false, false]⟩,
  ⟨true, false, [false, false, false, false, true, false, false, false, false, false, false], [false, false, false, false, true, true, false, false, false, false, false]⟩,
  ⟨false, false, [false, false, false, false, true, true, false, false, false, false, false], [false, false, false, false, true, true, false, false, false, false, false]⟩,
  ⟨false, false, [false, false, false, false, true, true, false, false, false, false, false], [false, false, false, false, true, true, false, false, false, false, false]⟩,
  ⟨false, false, [false, false, false, false, true, true, false, false, false, false, false], [false, false, false, false, true, true, false, false, false, false, false]⟩,
  ⟨false, false, [false, false, false, false, true, true, false, false, false, false, false], [false, false, false, false, true, true, false, false, false, false, false]⟩,
  ⟨false, false, [false, false, false, false, true, true, false, false, false, false, false], [false, false, false, false, true, true, false, false, false, false, false]⟩])
 (.seq (.ops [⟨(some 29), .mov (.tmp 9), none⟩,
  ⟨(some 30), .mov (.tmp 10), none⟩,
  ⟨(some 4), .mov (.tmp 29), none⟩,
  ⟨(some 5), .mov (.tmp 30), none⟩,
  ⟨(some 6), .mov (.const (.int .i64 0)), none⟩])
 .ret)))))
theorem enter32 {xs : List Value} {h : Hp} {Q : Value → Hp → Prop} (hl : xs.length ≤ 31) (w : wq E 31 none c32 (frameOf xs) h [] (leaveQ E [.tmp 4, .tmp 5, .tmp 6] Q)) : CallP E 32 xs h Q :=
  CallP.enterQ (fn := Try.f32) (fn_get Try.func32) (code := Try.f32.body.get rfl) rfl rfl rfl (by kernel_rfl) rfl (fun _ => rfl) hl w
theorem can32 : callable E 32 = true := callable_get Try.func32 rfl rfl

/-- tosher/tally.Forbids -/
def c33 : C := (.seq (.ops [⟨(some 3), .box 25 (.tmp 0), none⟩,
  ⟨(some 6), .mov (.const (.slice none 0 0)), none⟩,
  ⟨(some 7), .mov (.const (.bool false)), none⟩,
  ⟨(some 8), .mov (.const (.int .i64 0)), none⟩])
 (.seq (.ops [⟨(some 15), .loadN 4 (.tmp 3), none⟩,
  ⟨(some 16), .mov (.tmp 1), none⟩,
  ⟨(some 17), .mov (.tmp 2), none⟩,
  ⟨(some 18), .call 76 [(.tmp 15), (.tmp 16), (.tmp 17)], none⟩,
  ⟨(some 14), .mov (.tmp 18), none⟩,
  ⟨(some 19), .ext (.tmp 14) 0, none⟩,
  ⟨(some 20), .ext (.tmp 14) 1, none⟩,
  ⟨(some 21), .ext (.tmp 14) 2, none⟩,
  ⟨(some 9), .alloc 107 [(.int .i64 0), (.int .i64 0), (.int .i64 0), (.int .i64 0), (.int .i64 0)], none⟩,
  ⟨(some 10), .alloc 107 [(.int .i64 0), (.int .i64 0), (.int .i64 0), (.int .i64 0), (.int .i64 0)], none⟩,
  ⟨none, .store 5 (.tmp 9) (.tmp 19), none⟩,
  ⟨none, .store 5 (.tmp 10) (.tmp 20), none⟩,
  ⟨(some 11), .mov (.tmp 21), none⟩])
 (.seq (.seq (.ops [⟨(some 22), .mov (.tmp 11), none⟩,
  ⟨(some 23), .ar .i64 .neq (.tmp 22) (.const (.int .i64 0)), none⟩])
 (.cond (.tmp 23) (.seq (.ops [⟨(some 24), .mov (.tmp 11), none⟩,
  ⟨(some 6), .mov (.const (.slice none 0 0)), none⟩,
  ⟨(some 7), .mov (.const (.bool false)), none⟩,
  ⟨(some 8), .mov (.tmp 24), none⟩])
 .ret)
 .skip))
 (.seq (.seq (.ops [⟨(some 25), .loadN 4 (.tmp 3), none⟩,
  ⟨(some 26), .call 69 [(.tmp 25)], none⟩,
  ⟨(some 27), .lenS (.tmp 26), none⟩,
  ⟨(some 28), .mov (.const (.int .i64 0)), none⟩])
 (.block 0 (.loop (.seq (.ops [⟨(some 29), .ar .i64 .lss (.tmp 28) (.tmp 27), none⟩])
 (.seq (.cond (.tmp 29) .skip
 (.exit 0))
 (.seq (.block 1 (.seq (.ops [⟨(some 30), .idxS 5 (.tmp 26) (.tmp 28), none⟩,
  ⟨(some 31), .loadN 5 (.tmp 30), none⟩,
  ⟨(some 13), .alloc 107 [(.int .i64 0), (.int .i64 0), (.int .i64 0), (.int .i64 0), (.int .i64 0)], none⟩,
  ⟨none, .store 5 (.tmp 13) (.tmp 31), none⟩])
 (.seq (.draw [⟨(some 32), .loadN 5 (.tmp 9), none⟩,
  ⟨(some 33), .loadN 5 (.tmp 13), none⟩,
  ⟨(some 34), .call 80 [(.tmp 32), (.tmp 33)], none⟩,
  ⟨(some 35), .loadN 5 (.tmp 10), none⟩,
  ⟨(some 36), .loadN 5 (.tmp 13), none⟩,
  ⟨(some 37), .call 80 [(.tmp 35), (.tmp 36)], none⟩,
  ⟨(some 38), .ar .i64 .neq (.tmp 34) (.tmp 37), none⟩]
  [⟨false, false, [false, false, false, false, false, false, false], [false, false, false, false, false, false, false]⟩,
  ⟨false, false, [false, false, false, false, false, false, false], [false, false, false, false, false, false, false]⟩,
  ⟨true, false, [false, false, false, false, false, false, false], [false, false, true, false, false, false, false]⟩,
  ⟨false, true, [false, false, false, false, false, false, false], [false, false, true, false, false, false, false]⟩,
  ⟨false, true, [false, false, false, false, false, false, false], [false, false, true, false, false, false, false]⟩,
  ⟨true, false, [false, false, true, false, false, false, false], [false, false, true, false, false, true, false]⟩,
  ⟨false, false, [false, false, true, false, false, true, false], [false, false, true, false, false, true, false]⟩])
 (.cond (.tmp 38) (.seq (.ops [⟨(some 39), .fldA 0 (.tmp 3), none⟩,
  ⟨(some 40), .load1 (.tmp 39), none⟩,
  ⟨(some 41), .cutA 5 1 (.tmp 13) none (some (.tmp 40)) none, none⟩,
  ⟨(some 42), .call 71 [(.tmp 41)], none⟩,
  ⟨(some 6), .mov (.tmp 42), none⟩,
  ⟨(some 7), .mov (.const (.bool true)), none⟩,
  ⟨(some 8), .mov (.const (.int .i64 0)), none⟩])
 .ret)
 .skip))))
 (.ops [⟨(some 43), .ar .i64 .add (.tmp 28) (.const (.int .i64 1)), none⟩,
  ⟨(some 28), .mov (.tmp 43), none⟩])))))))
 (.seq (.ops [⟨(some 6), .mov (.const (.slice none 0 0)), none⟩,
  ⟨(some 7), .mov (.const (.bool false)), none⟩,
  ⟨(some 8), .mov (.const (.int .i64 0)), none⟩])
 .ret)))))
theorem enter33 {xs : List Value} {h : Hp} {Q : Value → Hp → Prop} (hl : xs.length ≤ 44) (w : wq E 44 none c33 (frameOf xs) h [] (leaveQ E [.tmp 6, .tmp 7, .tmp 8] Q)) : CallP E 33 xs h Q :=
  CallP.enterQ (fn := Try.f33) (fn_get Try.func33) (code := Try.f33.body.get rfl) rfl rfl rfl (by kernel_rfl) rfl (fun _ => rfl) hl w
theorem can33 : callable E 33 = true := callable_get Try.func33 rfl rfl

/-- tosher/tosherlaw06.tame -/
def c34 : C := (.seq (.ops [⟨(some 2), .box 25 (.tmp 0), none⟩,
  ⟨(some 4), .alloc 26 [(.int .i64 0), (.slice none 0 0), (.slice none 0 0), (.slice none 0 0)], none⟩])
 (.seq (.ops [⟨(some 20), .fldA 0 (.tmp 2), none⟩,
  ⟨(some 21), .load1 (.tmp 20), none⟩,
  ⟨(some 22), .cint .u64 (.tmp 21), none⟩,
  ⟨(some 23), .mov (.tmp 1), none⟩,
  ⟨(some 24), .cint .u64 (.tmp 23), none⟩,
  ⟨(some 25), .ar .u64 .rem (.tmp 22) (.tmp 24), none⟩,
  ⟨(some 26), .cint .i64 (.tmp 25), none⟩,
  ⟨(some 27), .ar .i64 .add (.const (.int .i64 1)) (.tmp 26), none⟩,
  ⟨(some 5), .mov (.tmp 27), none⟩])
 (.seq (.ops [⟨(some 28), .mov (.tmp 5), none⟩,
  ⟨(some 29), .aggr [(.int .i64 0), (.slice none 0 0), (.slice none 0 0), (.slice none 0 0)] [(0, 1, (.tmp 28))], none⟩,
  ⟨(some 6), .alloc 26 [(.int .i64 0), (.slice none 0 0), (.slice none 0 0), (.slice none 0 0)], none⟩,
  ⟨none, .store 4 (.tmp 6) (.tmp 29), none⟩])
 (.seq (.seq (.ops [⟨(some 7), .mov (.const (.int .i64 0)), none⟩])
 (.block 0 (.loop (.seq (.seq (.ops [⟨(some 30), .mov (.tmp 7), none⟩,
  ⟨(some 31), .mov (.tmp 5), none⟩,
  ⟨(some 32), .ar .i64 .lss (.tmp 30) (.tmp 31), none⟩])
 (.cond (.tmp 32) .skip
 (.exit 0)))
 (.seq (.block 1 (.seq (.ops [⟨(some 8), .mov (.const (.int .i64 0)), none⟩])
 (.seq (.seq (.ops [⟨(some 35), .mov (.tmp 7), none⟩,
  ⟨(some 36), .fldA 1 (.tmp 2), none⟩,
  ⟨(some 37), .load1 (.tmp 36), none⟩,
  ⟨(some 38), .lenS (.tmp 37), none⟩,
  ⟨(some 39), .ar .i64 .lss (.tmp 35) (.tmp 38), none⟩])
 (.cond (.tmp 39) (.ops [⟨(some 40), .fldA 1 (.tmp 2), none⟩,
  ⟨(some 41), .load1 (.tmp 40), none⟩,
  ⟨(some 42), .mov (.tmp 7), none⟩,
  ⟨(some 43), .idxS 1 (.tmp 41) (.tmp 42), none⟩,
  ⟨(some 44), .load1 (.tmp 43), none⟩,
  ⟨(some 45), .cint .u64 (.tmp 44), none⟩,
  ⟨(some 46), .ar .u64 .rem (.tmp 45) (.const (.int .u64 2)), none⟩,
  ⟨(some 47), .cint .i64 (.tmp 46), none⟩,
  ⟨(some 8), .mov (.tmp 47), none⟩])
 .skip))
 (.seq (.ops [⟨(some 48), .fldA 1 (.tmp 6), none⟩,
  ⟨(some 49), .load1 (.tmp 48), none⟩,
  ⟨(some 9), .mov (.tmp 49), none⟩])
 (.ops [⟨(some 50), .mov (.tmp 9), none⟩,
  ⟨(some 51), .mov (.tmp 8), none⟩,
  ⟨(some 52), .slit 3 1 [(.int .i64 0)] [(0, 1, (.tmp 51))], none⟩,
  ⟨(some 53), .append 3 1 8 (.tmp 50) (.tmp 52), none⟩,
  ⟨(some 54), .fldA 1 (.tmp 6), none⟩,
  ⟨none, .store 1 (.tmp 54) (.tmp 53), none⟩])))))
 (.ops [⟨(some 33), .mov (.tmp 7), none⟩,
  ⟨(some 34), .ar .i64 .add (.tmp 33) (.const (.int .i64 1)), none⟩,
  ⟨(some 7), .mov (.tmp 34), none⟩]))))))
 (.seq (.seq (.ops [⟨(some 10), .mov (.const (.int .i64 0)), none⟩])
 (.block 2 (.loop (.seq (.seq (.ops [⟨(some 55), .mov (.tmp 10), none⟩,
  ⟨(some 56), .ar .i64 .lss (.tmp 55) (.const (.int .i64 1)), none⟩,
  ⟨(some 57), .mov (.tmp 56), none⟩,
  ⟨(some 58), .mov (.tmp 10), (some (57, false))⟩,
  ⟨(some 59), .fldA 2 (.tmp 2), (some (57, false))⟩,
  ⟨(some 60), .load1 (.tmp 59), (some (57, false))⟩,
  ⟨(some 61), .lenS (.tmp 60), (some (57, false))⟩,
  ⟨(some 62), .ar .i64 .lss (.tmp 58) (.tmp 61), (some (57, false))⟩,
  ⟨(some 63), .mov (.tmp 62), (some (57, false))⟩,
  ⟨(some 64), .mov (.tmp 10), (some (63, true))⟩,
  ⟨(some 65), .ar .i64 .lss (.tmp 64) (.const (.int .i64 2)), (some (63, true))⟩,
  ⟨(some 66), .pick (.tmp 63) (.tmp 65) (.const (.bool false)), (some (57, false))⟩,
  ⟨(some 67), .pick (.tmp 57) (.const (.bool true)) (.tmp 66), none⟩])
 (.cond (.tmp 67) .skip
 (.exit 2)))
 (.seq (.block 3 (.seq (.ops [⟨(some 11), .mov (.const (.int .i64 0)), none⟩])
 (.seq (.seq (.ops [⟨(some 70), .mov (.tmp 10), none⟩,
  ⟨(some 71), .fldA 2 (.tmp 2), none⟩,
  ⟨(some 72), .load1 (.tmp 71), none⟩,
  ⟨(some 73), .lenS (.tmp 72), none⟩,
  ⟨(some 74), .ar .i64 .lss (.tmp 70) (.tmp 73), none⟩])
 (.cond (.tmp 74) (.ops [⟨(some 75), .fldA 2 (.tmp 2), none⟩,
  ⟨(some 76), .load1 (.tmp 75), none⟩,
  ⟨(some 77), .mov (.tmp 10), none⟩,
  ⟨(some 78), .idxS 1 (.tmp 76) (.tmp 77), none⟩,
  ⟨(some 79), .load1 (.tmp 78), none⟩,
  ⟨(some 80), .cint .u64 (.tmp 79), none⟩,
  ⟨(some 81), .mov (.tmp 5), none⟩,
  ⟨(some 82), .cint .u64 (.tmp 81), none⟩,
  ⟨(some 83), .ar .u64 .rem (.tmp 80) (.tmp 82), none⟩,
  ⟨(some 84), .cint .i64 (.tmp 83), none⟩,
  ⟨(some 11), .mov (.tmp 84), none⟩])
 .skip))
 (.seq (.ops [⟨(some 85), .fldA 2 (.tmp 6), none⟩,
  ⟨(some 86), .load1 (.tmp 85), none⟩,
  ⟨(some 12), .mov (.tmp 86), none⟩])
 (.ops [⟨(some 87), .mov (.tmp 12), none⟩,
  ⟨(some 88), .mov (.tmp 11), none⟩,
  ⟨(some 89), .slit 3 1 [(.int .i64 0)] [(0, 1, (.tmp 88))], none⟩,
  ⟨(some 90), .append 3 1 8 (.tmp 87) (.tmp 89), none⟩,
  ⟨(some 91), .fldA 2 (.tmp 6), none⟩,
  ⟨none, .store 1 (.tmp 91) (.tmp 90), none⟩])))))
 (.ops [⟨(some 68), .mov (.tmp 10), none⟩,
  ⟨(some 69), .ar .i64 .add (.tmp 68) (.const (.int .i64 1)), none⟩,
  ⟨(some 10), .mov (.tmp 69), none⟩]))))))
 (.seq (.seq (.ops [⟨(some 13), .mov (.const (.int .i64 0)), none⟩])
 (.block 4 (.loop (.seq (.seq (.ops [⟨(some 92), .mov (.tmp 13), none⟩,
  ⟨(some 93), .mov (.tmp 5), none⟩,
  ⟨(some 94), .ar .i64 .lss (.tmp 92) (.tmp 93), none⟩])
 (.cond (.tmp 94) .skip
 (.exit 4)))
 (.seq (.block 5 (.seq (.ops [⟨(some 97), .mov (.tmp 13), none⟩,
  ⟨(some 14), .mov (.tmp 97), none⟩])
 (.block 6 (.loop (.seq (.seq (.ops [⟨(some 98), .mov (.tmp 14), none⟩,
  ⟨(some 99), .mov (.tmp 5), none⟩,
  ⟨(some 100), .ar .i64 .lss (.tmp 98) (.tmp 99), none⟩])
 (.cond (.tmp 100) .skip
 (.exit 6)))
 (.seq (.block 7 (.seq (.ops [⟨(some 15), .mov (.const (.int .i64 0)), none⟩])
 (.block 8 (.loop (.seq (.seq (.ops [⟨(some 103), .mov (.tmp 15), none⟩,
  ⟨(some 104), .fldA 3 (.tmp 2), none⟩,
  ⟨(some 105), .load1 (.tmp 104), none⟩,
  ⟨(some 106), .lenS (.tmp 105), none⟩,
  ⟨(some 107), .ar .i64 .lss (.tmp 103) (.tmp 106), none⟩,
  ⟨(some 108), .mov (.tmp 107), none⟩,
  ⟨(some 109), .mov (.tmp 15), (some (108, true))⟩,
  ⟨(some 110), .ar .i64 .lss (.tmp 109) (.const (.int .i64 40)), (some (108, true))⟩,
  ⟨(some 111), .pick (.tmp 108) (.tmp 110) (.const (.bool false)), none⟩])
 (.cond (.tmp 111) .skip
 (.exit 8)))
 (.seq (.block 9 (.seq (.ops [⟨(some 114), .fldA 3 (.tmp 2), none⟩,
  ⟨(some 115), .load1 (.tmp 114), none⟩,
  ⟨(some 116), .mov (.tmp 15), none⟩,
  ⟨(some 117), .idxS 4 (.tmp 115) (.tmp 116), none⟩,
  ⟨(some 118), .loadN 4 (.tmp 117), none⟩,
  ⟨(some 16), .alloc 96 [(.int .i64 0), (.int .i64 0), (.int .i64 0), (.int .i64 0)], none⟩,
  ⟨none, .store 4 (.tmp 16) (.tmp 118), none⟩])
 (.seq (.ops [⟨(some 119), .idxA 4 1 (.tmp 16) (.const (.int .i64 0)), none⟩,
  ⟨(some 120), .load1 (.tmp 119), none⟩,
  ⟨(some 121), .cint .u64 (.tmp 120), none⟩,
  ⟨(some 122), .mov (.tmp 5), none⟩,
  ⟨(some 123), .cint .u64 (.tmp 122), none⟩,
  ⟨(some 124), .ar .u64 .rem (.tmp 121) (.tmp 123), none⟩,
  ⟨(some 125), .cint .i64 (.tmp 124), none⟩,
  ⟨(some 126), .idxA 4 1 (.tmp 16) (.const (.int .i64 1)), none⟩,
  ⟨(some 127), .load1 (.tmp 126), none⟩,
  ⟨(some 128), .cint .u64 (.tmp 127), none⟩,
  ⟨(some 129), .mov (.tmp 5), none⟩,
  ⟨(some 130), .cint .u64 (.tmp 129), none⟩,
  ⟨(some 131), .ar .u64 .rem (.tmp 128) (.tmp 130), none⟩,
  ⟨(some 132), .cint .i64 (.tmp 131), none⟩,
  ⟨(some 17), .mov (.tmp 125), none⟩,
  ⟨(some 18), .mov (.tmp 132), none⟩])
 (.seq (.seq (.ops [⟨(some 133), .mov (.tmp 17), none⟩,
  ⟨(some 134), .mov (.tmp 18), none⟩,
  ⟨(some 135), .raw (.call ⟨.builtin .min, ⟨[(.tmp 133), (.tmp 134)]⟩, ⟨[3, 3]⟩⟩) 3, none⟩,
  ⟨(some 136), .mov (.tmp 13), none⟩,
  ⟨(some 137), .ar .i64 .neq (.tmp 135) (.tmp 136), none⟩,
  ⟨(some 138), .mov (.tmp 137), none⟩,
  ⟨(some 139), .mov (.tmp 17), (some (138, false))⟩,
  ⟨(some 140), .mov (.tmp 18), (some (138, false))⟩,
  ⟨(some 141), .raw (.call ⟨.builtin .max, ⟨[(.tmp 139), (.tmp 140)]⟩, ⟨[3, 3]⟩⟩) 3, (some (138, false))⟩,
  ⟨(some 142), .mov (.tmp 14), (some (138, false))⟩,
  ⟨(some 143), .ar .i64 .neq (.tmp 141) (.tmp 142), (some (138, false))⟩,
  ⟨(some 144), .pick (.tmp 138) (.const (.bool true)) (.tmp 143), none⟩])
 (.cond (.tmp 144) (.exit 9)
 .skip))
 (.seq (.ops [⟨(some 145), .fldA 3 (.tmp 6), none⟩,
  ⟨(some 146), .load1 (.tmp 145), none⟩,
  ⟨(some 19), .mov (.tmp 146), none⟩])
 (.seq (.draw [⟨(some 147), .mov (.tmp 19), none⟩,
  ⟨(some 148), .mov (.tmp 13), none⟩,
  ⟨(some 149), .mov (.tmp 14), none⟩,
  ⟨(some 150), .idxA 4 1 (.tmp 16) (.const (.int .i64 2)), none⟩,
  ⟨(some 151), .load1 (.tmp 150), none⟩,
  ⟨(some 152), .cint .u64 (.tmp 151), none⟩,
  ⟨(some 153), .mov (.tmp 5), none⟩,
  ⟨(some 154), .cint .u64 (.tmp 153), none⟩,
  ⟨(some 155), .ar .u64 .rem (.tmp 152) (.tmp 154), none⟩,
  ⟨(some 156), .cint .i64 (.tmp 155), none⟩,
  ⟨(some 157), .idxA 4 1 (.tmp 16) (.const (.int .i64 3)), none⟩,
  ⟨(some 158), .load1 (.tmp 157), none⟩,
  ⟨(some 159), .cint .u64 (.tmp 158), none⟩,
  ⟨(some 160), .mov (.tmp 5), none⟩,
  ⟨(some 161), .cint .u64 (.tmp 160), none⟩,
  ⟨(some 162), .ar .u64 .rem (.tmp 159) (.tmp 161), none⟩,
  ⟨(some 163), .cint .i64 (.tmp 162), none⟩,
  ⟨(some 164), .aggr [(.int .i64 0), (.int .i64 0), (.int .i64 0), (.int .i64 0)] [(0, 1, (.tmp 148)), (1, 1, (.tmp 149)), (2, 1, (.tmp 156)), (3, 1, (.tmp 163))], none⟩,
  ⟨(some 165), .slit 96 1 [(.int .i64 0), (.int .i64 0), (.int .i64 0), (.int .i64 0)] [(0, 4, (.tmp 164))], none⟩,
  ⟨(some 166), .append 96 4 32 (.tmp 147) (.tmp 165), none⟩,
  ⟨(some 167), .fldA 3 (.tmp 6), none⟩,
  ⟨none, .store 1 (.tmp 167) (.tmp 166), none⟩]
  [⟨false, true, [false, false, false, false, false, false, false, false, false, false, false, false, false, false, false, false, false, false, false, false, false, false], [false, false, false, false, false, false, false, false, false, false, false, false, false, false, false, false, false, false, true, false, false, false]⟩,
  ⟨false, false, [false, false, false, false, false, false, false, false, false, false, false, false, false, false, false, false, false, false, false, false, false, false], [false, false, false, false, false, false, false, false, false, false, false, false, false, false, false, false, false, false, false, false, false, false]⟩,
  ⟨false, false, [false, false, false, false, false, false, false, false, false, false, false, false, false, false, false, false, false, false, false, false, false, false], [false, false, false, false, false, false, false, false, false, false, false, false, false, false, false, false, false, false, false, false, false, false]⟩,
  ⟨false, false, [false, false, false, false, false, false, false, false, false, false, false, false, false, false, false, false, false, false, false, false, false, false], [false, false, false, false, false, false, false, false, false, false, false, false, false, false, false, false, false, false, false, false, false, false]⟩,
  ⟨false, false, [false, false, false, false, false, false, false, false, false, false, false, false, false, false, false, false, false, false, false, false, false, false], [false, false, false, false, false, false, false, false, false, false, false, false, false, false, false, false, false, false, false, false, false, false]⟩,
  ⟨false, false, [false, false, false, false, false, false, false, false, false, false, false, false, false, false, false, false, false, false, false, false, false, false], [false, false, false, false, false, false, false, false, false, false, false, false, false, false, false, false, false, false, false, false, false, false]⟩,
  ⟨false, false, [false, false, false, false, false, false, false, false, false, false, false, false, false, false, false, false, false, false, false, false, false, false], [false, false, false, false, false, false, false, false, false, false, false, false, false, false, false, false, false, false, false, false, false, false]⟩,
  ⟨false, false, [false, false, false, false, false, false, false, false, false, false, false, false, false, false, false, false, false, false, false, false, false, false], [false, false, false, false, false, false, false, false, false, false, false, false, false, false, false, false, false, false, false, false, false, false]⟩,
  ⟨false, false, [false, false, false, false, false, false, false, false, false, false, false, false, false, false, false, false, false, false, false, false, false, false], [false, false, false, false, false, false, false, false, false, false, false, false, false, false, false, false, false, false, false, false, false, false]⟩,
  ⟨false, false, [false, false, false, false, false, false, false, false, false, false, false, false, false, false, false, false, false, false, false, false, false, false], [false, false, false, false, false, false, false, false, false, false, false, false, false, false, false, false, false, false, false, false, false, false]⟩,
  ⟨false, false, [false, false, false, false, false, false, false, false, false, false, false, false, false, false, false, false, false, false, false, false, false, false], [false, false, false, false, false, false, false, false, false, false, false, false, false, false, false, false, false, false, false, false, false, false]⟩,
  ⟨false, false, [false, false, false, false, false, false, false, false, false, false, false, false, false, false, false, false, false, false, false, false, false, false], [false, false, false, false, false, false, false, false, false, false, false, false, false, false, false, false, false, false, false, false, false, false]⟩,
  ⟨false, false, [false, false, false, false, false, false, false, false, false, false, false, false, false, false, false, false, false, false, false, false, false, false], [false, false, false, false, false, false, false, false, false, false, false, false, false, false, false, false, false, false, false, false, false, false]⟩,
  ⟨false, false, [false, false, false, false, false, false, false, false, false, false, false, false, false, false, false, false, false, false, false, false, false, false], [false, false, false, false, false, false, false, false, false, false, false, false, false, false, false, false, false, false, false, false, false, false]⟩,
  ⟨false, false, [false, false, false, false, false, false, false, false, false, false, false, false, false, false, false, false, false, false, false, false, false, false], [false, false, false, false, false, false, false, false, false, false, false, false, false, false, false, false, false, false, false, false, false, false]⟩,
  ⟨false, false, [false, false, false, false, false, false, false, false, false, false, false, false, false, false, false, false, false, false, false, false, false, false], [false, false, false, false, false, false, false, false, false, false, false, false, false, false, false, false, false, false, false, false, false, false]⟩,
  ⟨false, false, [false, false, false, false, false, false, false, false, false, false, false, false, false, false, false, false, false, false, false, false, false, false], [false, false, false, false, false, false, false, false, false, false, false, false, false, false, false, false, false, false, false, false, false, false]⟩,
  ⟨false, false, [false, false, false, false, false, false, false, false, false, false, false, false, false, false, false, false, false, false, false, false, false, false], [false, false, false, false, false, false, false, false, false, false, false, false, false, false, false, false, false, false, false, false, false, false]⟩,
  ⟨true, false, [false, false, false, false, false, false, false, false, false, false, false, false, false, false, false, false, false, false, false, false, false, false], [false, false, false, false, false, false, false, false, false, false, false, false, false, false, false, false, false, false, true, false, false, false]⟩,
  ⟨true, false, [false, false, false, false, false, false, false, false, false, false, false, false, false, false, false, false, false, false, true, false, false, false], [false, false, false, false, false, false, false, false, false, false, false, false, false, false, false, false, false, false, true, true, false, false]⟩,
  ⟨false, false, [false, false, false, false, false, false, false, false, false, false, false, false, false, false, false, false, false, false, true, true, false, false], [false, false, false, false, false, false, false, false, false, false, false, false, false, false, false, false, false, false, true, true, false, false]⟩,
  ⟨true, false, [false, false, false, false, false, false, false, false, false, false, false, false, false, false, false, false, false, false, true, true, false, false], [false, false, false, false, false, false, false, false, false, false, false, false, false, false, false, false, false, false, true, true, false, true]⟩])
 (.exit 8)))))))
 (.ops [⟨(some 112), .mov (.tmp 15), none⟩,
  ⟨(some 113), .ar .i64 .add (.tmp 112) (.const (.int .i64 1)), none⟩,
  ⟨(some 15), .mov (.tmp 113), none⟩])))))))
 (.ops [⟨(some 101), .mov (.tmp 14), none⟩,
  ⟨(some 102), .ar .i64 .add (.tmp 101) (.const (.int .i64 1)), none⟩,
  ⟨(some 14), .mov (.tmp 102), none⟩])))))))
 (.ops [⟨(some 95), .mov (.tmp 13), none⟩,
  ⟨(some 96), .ar .i64 .add (.tmp 95) (.const (.int .i64 1)), none⟩,
  ⟨(some 13), .mov (.tmp 96), none⟩]))))))
 (.seq (.ops [⟨(some 168), .loadN 4 (.tmp 6), none⟩,
  ⟨none, .store 4 (.tmp 4) (.tmp 168), none⟩])
 .ret)))))))
theorem enter34 {xs : List Value} {h : Hp} {Q : Value → Hp → Prop} (hl : xs.length ≤ 169) (w : wq E 169 none c34 (frameOf xs) h [] (leaveQ E [.cell 4 26] Q)) : CallP E 34 xs h Q :=
  CallP.enterQ (fn := Try.f34) (fn_get Try.func34) (code := Try.f34.body.get rfl) rfl rfl rfl (by kernel_rfl) rfl (fun _ => rfl) hl w
theorem can34 : callable E 34 = true := callable_get Try.func34 rfl rfl

/-- tosher/tosherlaw06.gathered -/
def c35 : C := (.seq (.ops [⟨(some 6), .mov (.const (.slice none 0 0)), none⟩])
 (.seq (.ops [⟨(some 7), .mov (.const (.slice none 0 0)), none⟩])
 (.seq (.ops [⟨(some 11), .mov (.tmp 2), none⟩,
  ⟨(some 8), .mov (.tmp 11), none⟩])
 (.seq (.seq (.ops [⟨(some 9), .mov (.const (.int .i64 0)), none⟩])
 (.block 0 (.loop (.seq (.seq (.ops [⟨(some 12), .mov (.tmp 9), none⟩,
  ⟨(some 13), .mov (.tmp 1), none⟩,
  ⟨(some 14), .ar .i64 .lss (.tmp 12) (.tmp 13), none⟩])
 (.cond (.tmp 14) .skip
 (.exit 0)))
 (.seq (.block 1 (.seq (.ops [⟨(some 10), .mov (.const (.int .i64 0)), none⟩])
 (.seq (.seq (.ops [⟨(some 17), .mov (.tmp 9), none⟩,
  ⟨(some 18), .mov (.tmp 0), none⟩,
  ⟨(some 19), .lenS (.tmp 18), none⟩,
  ⟨(some 20), .ar .i64 .lss (.tmp 17) (.tmp 19), none⟩])
 (.cond (.tmp 20) (.ops [⟨(some 21), .mov (.tmp 0), none⟩,
  ⟨(some 22), .mov (.tmp 9), none⟩,
  ⟨(some 23), .idxS 1 (.tmp 21) (.tmp 22), none⟩,
  ⟨(some 24), .load1 (.tmp 23), none⟩,
  ⟨(some 25), .cint .u64 (.tmp 24), none⟩,
  ⟨(some 26), .mov (.tmp 8), none⟩,
  ⟨(some 27), .ar .i64 .add (.tmp 26) (.const (.int .i64 1)), none⟩,
  ⟨(some 28), .cint .u64 (.tmp 27), none⟩,
  ⟨(some 29), .ar .u64 .rem (.tmp 25) (.tmp 28), none⟩,
  ⟨(some 30), .cint .i64 (.tmp 29), none⟩,
  ⟨(some 10), .mov (.tmp 30), none⟩])
 .skip))
 (.seq (.ops [⟨(some 31), .mov (.tmp 8), none⟩,
  ⟨(some 32), .mov (.tmp 10), none⟩,
  ⟨(some 33), .ar .i64 .sub (.tmp 31) (.tmp 32), none⟩,
  ⟨(some 8), .mov (.tmp 33), none⟩])
 (.ops [⟨(some 34), .mov (.tmp 7), none⟩,
  ⟨(some 35), .mov (.tmp 10), none⟩,
  ⟨(some 36), .slit 3 1 [(.int .i64 0)] [(0, 1, (.tmp 35))], none⟩,
  ⟨(some 37), .append 3 1 8 (.tmp 34) (.tmp 36), none⟩,
  ⟨(some 7), .mov (.tmp 37), none⟩])))))
 (.ops [⟨(some 15), .mov (.tmp 9), none⟩,
  ⟨(some 16), .ar .i64 .add (.tmp 15) (.const (.int .i64 1)), none⟩,
  ⟨(some 9), .mov (.tmp 16), none⟩]))))))
 (.seq (.seq (.ops [⟨(some 38), .mov (.tmp 8), none⟩,
  ⟨(some 39), .mov (.tmp 2), none⟩,
  ⟨(some 40), .ar .i64 .eql (.tmp 38) (.tmp 39), none⟩])
 (.cond (.tmp 40) (.ops [⟨(some 41), .mov (.tmp 7), none⟩,
  ⟨(some 42), .idxS 1 (.tmp 41) (.const (.int .i64 0)), none⟩,
  ⟨none, .store 1 (.tmp 42) (.const (.int .i64 1)), none⟩])
 .skip))
 (.seq (.ops [⟨(some 43), .mov (.tmp 7), none⟩,
  ⟨(some 6), .mov (.tmp 43), none⟩])
 .ret))))))
theorem enter35 {xs : List Value} {h : Hp} {Q : Value → Hp → Prop} (hl : xs.length ≤ 44) (w : wq E 44 none c35 (frameOf xs) h [] (leaveQ E [.tmp 6] Q)) : CallP E 35 xs h Q :=
  CallP.enterQ (fn := Try.f35) (fn_get Try.func35) (code := Try.f35.body.get rfl) rfl rfl rfl (by kernel_rfl) rfl (fun _ => rfl) hl w
theorem can35 : callable E 35 = true := callable_get Try.func35 rfl rfl

/-- tosher/tosherlaw06.ints -/
def c37 : C := (.seq (.ops [⟨(some 4), .mov (.const (.bool false)), none⟩])
 (.seq (.seq (.ops [⟨(some 6), .mov (.tmp 0), none⟩,
  ⟨(some 7), .lenS (.tmp 6), none⟩,
  ⟨(some 8), .mov (.tmp 1), none⟩,
  ⟨(some 9), .lenS (.tmp 8), none⟩,
  ⟨(some 10), .ar .i64 .neq (.tmp 7) (.tmp 9), none⟩])
 (.cond (.tmp 10) (.seq (.ops [⟨(some 4), .mov (.const (.bool false)), none⟩])
 .ret)
 .skip))
 (.seq (.seq (.ops [⟨(some 5), .mov (.const (.int .i64 0)), none⟩])
 (.block 0 (.loop (.seq (.seq (.ops [⟨(some 11), .mov (.tmp 5), none⟩,
  ⟨(some 12), .mov (.tmp 0), none⟩,
  ⟨(some 13), .lenS (.tmp 12), none⟩,
  ⟨(some 14), .ar .i64 .lss (.tmp 11) (.tmp 13), none⟩])
 (.cond (.tmp 14) .skip
 (.exit 0)))
 (.seq (.block 1 (.seq (.ops [⟨(some 17), .mov (.tmp 0), none⟩,
  ⟨(some 18), .mov (.tmp 5), none⟩,
  ⟨(some 19), .idxS 1 (.tmp 17) (.tmp 18), none⟩,
  ⟨(some 20), .load1 (.tmp 19), none⟩,
  ⟨(some 21), .mov (.tmp 1), none⟩,
  ⟨(some 22), .mov (.tmp 5), none⟩,
  ⟨(some 23), .idxS 1 (.tmp 21) (.tmp 22), none⟩,
  ⟨(some 24), .load1 (.tmp 23), none⟩,
  ⟨(some 25), .ar .i64 .neq (.tmp 20) (.tmp 24), none⟩])
 (.cond (.tmp 25) (.seq (.ops [⟨(some 4), .mov (.const (.bool false)), none⟩])
 .ret)
 .skip)))
 (.ops [⟨(some 15), .mov (.tmp 5), none⟩,
  ⟨(some 16), .ar .i64 .add (.tmp 15) (.const (.int .i64 1)), none⟩,
  ⟨(some 5), .mov (.tmp 16), none⟩]))))))
 (.seq (.ops [⟨(some 4), .mov (.const (.bool true)), none⟩])
 .ret))))
theorem enter37 {xs : List Value} {h : Hp} {Q : Value → Hp → Prop} (hl : xs.length ≤ 26) (w : wq E 26 none c37 (frameOf xs) h [] (leaveQ E [.tmp 4] Q)) : CallP E 37 xs h Q :=
  CallP.enterQ (fn := Try.f37) (fn_get Try.func37) (code := Try.f37.body.get rfl) rfl rfl rfl (by kernel_rfl) rfl (fun _ => rfl) hl w
theorem can37 : callable E 37 = true := callable_get Try.func37 rfl rfl

/-- tosher/tally.True -/
def c43 : C := (.seq (.ops [⟨(some 2), .box 36 (.tmp 0), none⟩,
  ⟨(some 4), .mov (.const (.bool false)), none⟩,
  ⟨(some 5), .mov (.const (.int .i64 0)), none⟩])
 (.seq (.seq (.ops [⟨(some 6), .loadN 3 (.tmp 2), none⟩,
  ⟨(some 7), .call 62 [(.tmp 6)], none⟩,
  ⟨(some 8), .not (.tmp 7), none⟩,
  ⟨(some 9), .mov (.tmp 8), none⟩,
  ⟨(some 10), .mov (.tmp 1), (some (9, false))⟩,
  ⟨(some 11), .fldA 0 (.tmp 2), (some (9, false))⟩,
  ⟨(some 12), .load1 (.tmp 11), (some (9, false))⟩,
  ⟨(some 13), .lenS (.tmp 12), (some (9, false))⟩,
  ⟨(some 14), .call 70 [(.tmp 10), (.tmp 13)], (some (9, false))⟩,
  ⟨(some 15), .not (.tmp 14), (some (9, false))⟩,
  ⟨(some 16), .pick (.tmp 9) (.const (.bool true)) (.tmp 15), none⟩])
 (.cond (.tmp 16) (.seq (.ops [⟨(some 4), .mov (.const (.bool false)), none⟩,
  ⟨(some 5), .mov (.const (.int .i64 1)), none⟩])
 .ret)
 .skip))
 (.seq (.ops [⟨(some 17), .loadN 3 (.tmp 2), none⟩,
  ⟨(some 18), .mov (.tmp 1), none⟩,
  ⟨(some 19), .call 64 [(.tmp 17), (.tmp 18)], none⟩,
  ⟨(some 4), .mov (.tmp 19), none⟩,
  ⟨(some 5), .mov (.const (.int .i64 0)), none⟩])
 .ret)))
theorem enter43 {xs : List Value} {h : Hp} {Q : Value → Hp → Prop} (hl : xs.length ≤ 20) (w : wq E 20 none c43 (frameOf xs) h [] (leaveQ E [.tmp 4, .tmp 5] Q)) : CallP E 43 xs h Q :=
  CallP.enterQ (fn := Try.f43) (fn_get Try.func43) (code := Try.f43.body.get rfl) rfl rfl rfl (by kernel_rfl) rfl (fun _ => rfl) hl w
theorem can43 : callable E 43 = true := callable_get Try.func43 rfl rfl

/-- tosher/tosherref06.Asked -/
def c44 : C := (.seq (.ops [⟨(some 2), .box 69 (.tmp 0), none⟩,
  ⟨(some 4), .mov (.const (.bool false)), none⟩])
 (.seq (.seq (.ops [⟨(some 5), .mov (.const (.int .i64 0)), none⟩])
 (.block 0 (.loop (.seq (.seq (.ops [⟨(some 6), .mov (.tmp 5), none⟩,
  ⟨(some 7), .fldA 0 (.tmp 2), none⟩,
  ⟨(some 8), .load1 (.tmp 7), none⟩,
  ⟨(some 9), .lenS (.tmp 8), none⟩,
  ⟨(some 10), .ar .i64 .lss (.tmp 6) (.tmp 9), none⟩])
 (.cond (.tmp 10) .skip
 (.exit 0)))
 (.seq (.block 1 (.seq (.ops [⟨(some 13), .fldA 0 (.tmp 2), none⟩,
  ⟨(some 14), .load1 (.tmp 13), none⟩,
  ⟨(some 15), .mov (.tmp 5), none⟩,
  ⟨(some 16), .idxS 1 (.tmp 14) (.tmp 15), none⟩,
  ⟨(some 17), .load1 (.tmp 16), none⟩,
  ⟨(some 18), .ar .i64 .lss (.tmp 17) (.const (.int .i64 (-5))), none⟩,
  ⟨(some 19), .mov (.tmp 18), none⟩,
  ⟨(some 20), .fldA 0 (.tmp 2), (some (19, false))⟩,
  ⟨(some 21), .load1 (.tmp 20), (some (19, false))⟩,
  ⟨(some 22), .mov (.tmp 5), (some (19, false))⟩,
  ⟨(some 23), .idxS 1 (.tmp 21) (.tmp 22), (some (19, false))⟩,
  ⟨(some 24), .load1 (.tmp 23), (some (19, false))⟩,
  ⟨(some 25), .ar .i64 .gtr (.tmp 24) (.const (.int .i64 5)), (some (19, false))⟩,
  ⟨(some 26), .pick (.tmp 19) (.const (.bool true)) (.tmp 25), none⟩])
 (.cond (.tmp 26) (.seq (.ops [⟨(some 4), .mov (.const (.bool false)), none⟩])
 .ret)
 .skip)))
 (.ops [⟨(some 11), .mov (.tmp 5), none⟩,
  ⟨(some 12), .ar .i64 .add (.tmp 11) (.const (.int .i64 1)), none⟩,
  ⟨(some 5), .mov (.tmp 12), none⟩]))))))
 (.seq (.ops [⟨(some 27), .fldA 0 (.tmp 2), none⟩,
  ⟨(some 28), .load1 (.tmp 27), none⟩,
  ⟨(some 29), .lenS (.tmp 28), none⟩,
  ⟨(some 30), .mov (.tmp 1), none⟩,
  ⟨(some 31), .ar .i64 .eql (.tmp 29) (.tmp 30), none⟩,
  ⟨(some 32), .mov (.tmp 31), none⟩,
  ⟨(some 33), .fldA 1 (.tmp 2), (some (32, true))⟩,
  ⟨(some 34), .load1 (.tmp 33), (some (32, true))⟩,
  ⟨(some 35), .ar .i64 .geq (.tmp 34) (.const (.int .i64 (-9))), (some (32, true))⟩,
  ⟨(some 36), .pick (.tmp 32) (.tmp 35) (.const (.bool false)), none⟩,
  ⟨(some 37), .mov (.tmp 36), none⟩,
  ⟨(some 38), .fldA 1 (.tmp 2), (some (37, true))⟩,
  ⟨(some 39), .load1 (.tmp 38), (some (37, true))⟩,
  ⟨(some 40), .ar .i64 .leq (.tmp 39) (.const (.int .i64 9)), (some (37, true))⟩,
  ⟨(some 41), .pick (.tmp 37) (.tmp 40) (.const (.bool false)), none⟩,
  ⟨(some 42), .mov (.tmp 41), none⟩,
  ⟨(some 43), .fldA 2 (.tmp 2), (some (42, true))⟩,
  ⟨(some 44), .load1 (.tmp 43), (some (42, true))⟩,
  ⟨(some 45), .ar .i64 .geq (.tmp 44) (.const (.int .i64 0)), (some (42, true))⟩,
  ⟨(some 46), .pick (.tmp 42) (.tmp 45) (.const (.bool false)), none⟩,
  ⟨(some 47), .mov (.tmp 46), none⟩,
  ⟨(some 48), .fldA 2 (.tmp 2), (some (47, true))⟩,
  ⟨(some 49), .load1 (.tmp 48), (some (47, true))⟩,
  ⟨(some 50), .ar .i64 .leq (.tmp 49) (.const (.int .i64 9)), (some (47, true))⟩,
  ⟨(some 51), .pick (.tmp 47) (.tmp 50) (.const (.bool false)), none⟩,
  ⟨(some 4), .mov (.tmp 51), none⟩])
 .ret)))
theorem enter44 {xs : List Value} {h : Hp} {Q : Value → Hp → Prop} (hl : xs.length ≤ 52) (w : wq E 52 none c44 (frameOf xs) h [] (leaveQ E [.tmp 4] Q)) : CallP E 44 xs h Q :=
  CallP.enterQ (fn := Try.f44) (fn_get Try.func44) (code := Try.f44.body.get rfl) rfl rfl rfl (by kernel_rfl) rfl (fun _ => rfl) hl w
theorem can44 : callable E 44 = true := callable_get Try.func44 rfl rfl

/-- tosher/tosherref06.True -/
def c45 : C := (.seq (.ops [⟨(some 2), .box 69 (.tmp 0), none⟩,
  ⟨(some 4), .mov (.const (.bool false)), none⟩])
 (.seq (.ops [⟨(some 5), .mov (.const (.int .i64 0)), none⟩])
 (.seq (.seq (.ops [⟨(some 6), .mov (.const (.int .i64 0)), none⟩])
 (.block 0 (.loop (.seq (.seq (.ops [⟨(some 7), .mov (.tmp 6), none⟩,
  ⟨(some 8), .mov (.tmp 1), none⟩,
  ⟨(some 9), .lenS (.tmp 8), none⟩,
  ⟨(some 10), .ar .i64 .lss (.tmp 7) (.tmp 9), none⟩])
 (.cond (.tmp 10) .skip
 (.exit 0)))
 (.seq (.block 1 (.ops [⟨(some 13), .mov (.tmp 5), none⟩,
  ⟨(some 14), .fldA 0 (.tmp 2), none⟩,
  ⟨(some 15), .load1 (.tmp 14), none⟩,
  ⟨(some 16), .mov (.tmp 6), none⟩,
  ⟨(some 17), .idxS 1 (.tmp 15) (.tmp 16), none⟩,
  ⟨(some 18), .load1 (.tmp 17), none⟩,
  ⟨(some 19), .mov (.tmp 1), none⟩,
  ⟨(some 20), .mov (.tmp 6), none⟩,
  ⟨(some 21), .idxS 1 (.tmp 19) (.tmp 20), none⟩,
  ⟨(some 22), .load1 (.tmp 21), none⟩,
  ⟨(some 23), .ar .i64 .mul (.tmp 18) (.tmp 22), none⟩,
  ⟨(some 24), .ar .i64 .add (.tmp 13) (.tmp 23), none⟩,
  ⟨(some 5), .mov (.tmp 24), none⟩]))
 (.ops [⟨(some 11), .mov (.tmp 6), none⟩,
  ⟨(some 12), .ar .i64 .add (.tmp 11) (.const (.int .i64 1)), none⟩,
  ⟨(some 6), .mov (.tmp 12), none⟩]))))))
 (.seq (.seq (.ops [⟨(some 25), .fldA 2 (.tmp 2), none⟩,
  ⟨(some 26), .load1 (.tmp 25), none⟩,
  ⟨(some 27), .ar .i64 .eql (.tmp 26) (.const (.int .i64 0)), none⟩])
 (.cond (.tmp 27) (.seq (.ops [⟨(some 28), .mov (.tmp 5), none⟩,
  ⟨(some 29), .fldA 1 (.tmp 2), none⟩,
  ⟨(some 30), .load1 (.tmp 29), none⟩,
  ⟨(some 31), .ar .i64 .geq (.tmp 28) (.tmp 30), none⟩,
  ⟨(some 4), .mov (.tmp 31), none⟩])
 .ret)
 .skip))
 (.seq (.ops [⟨(some 32), .mov (.tmp 5), none⟩,
  ⟨(some 33), .fldA 1 (.tmp 2), none⟩,
  ⟨(some 34), .load1 (.tmp 33), none⟩,
  ⟨(some 35), .ar .i64 .sub (.tmp 32) (.tmp 34), none⟩,
  ⟨(some 36), .fldA 2 (.tmp 2), none⟩,
  ⟨(some 37), .load1 (.tmp 36), none⟩,
  ⟨(some 38), .ar .i64 .rem (.tmp 35) (.tmp 37), none⟩,
  ⟨(some 39), .ar .i64 .eql (.tmp 38) (.const (.int .i64 0)), none⟩,
  ⟨(some 4), .mov (.tmp 39), none⟩])
 .ret)))))
theorem enter45 {xs : List Value} {h : Hp} {Q : Value → Hp → Prop} (hl : xs.length ≤ 40) (w : wq E 40 none c45 (frameOf xs) h [] (leaveQ E [.tmp 4] Q)) : CallP E 45 xs h Q :=
  CallP.enterQ (fn := Try.f45) (fn_get Try.func45) (code := Try.f45.body.get rfl) rfl rfl rfl (by kernel_rfl) rfl (fun _ => rfl) hl w
theorem can45 : callable E 45 = true := callable_get Try.func45 rfl rfl

/-- tosher/tosherlaw06.question -/
def c46 : C := (.seq (.ops [⟨(some 2), .box 36 (.tmp 0), none⟩,
  ⟨(some 4), .alloc 69 [(.slice none 0 0), (.int .i64 0), (.int .i64 0)], none⟩])
 (.seq (.ops [⟨(some 9), .fldA 1 (.tmp 2), none⟩,
  ⟨(some 10), .load1 (.tmp 9), none⟩,
  ⟨(some 11), .cint .u64 (.tmp 10), none⟩,
  ⟨(some 12), .ar .u64 .rem (.tmp 11) (.const (.int .u64 19)), none⟩,
  ⟨(some 13), .cint .i64 (.tmp 12), none⟩,
  ⟨(some 14), .ar .i64 .sub (.tmp 13) (.const (.int .i64 9)), none⟩,
  ⟨(some 15), .fldA 2 (.tmp 2), none⟩,
  ⟨(some 16), .load1 (.tmp 15), none⟩,
  ⟨(some 17), .cint .u64 (.tmp 16), none⟩,
  ⟨(some 18), .ar .u64 .rem (.tmp 17) (.const (.int .u64 10)), none⟩,
  ⟨(some 19), .cint .i64 (.tmp 18), none⟩,
  ⟨(some 20), .aggr [(.slice none 0 0), (.int .i64 0), (.int .i64 0)] [(1, 1, (.tmp 14)), (2, 1, (.tmp 19))], none⟩,
  ⟨(some 5), .alloc 69 [(.slice none 0 0), (.int .i64 0), (.int .i64 0)], none⟩,
  ⟨none, .store 3 (.tmp 5) (.tmp 20), none⟩])
 (.seq (.seq (.ops [⟨(some 6), .mov (.const (.int .i64 0)), none⟩])
 (.block 0 (.loop (.seq (.seq (.ops [⟨(some 21), .mov (.tmp 6), none⟩,
  ⟨(some 22), .mov (.tmp 1), none⟩,
  ⟨(some 23), .ar .i64 .lss (.tmp 21) (.tmp 22), none⟩])
 (.cond (.tmp 23) .skip
 (.exit 0)))
 (.seq (.block 1 (.seq (.ops [⟨(some 7), .mov (.const (.int .i64 1)), none⟩])
 (.seq (.seq (.ops [⟨(some 26), .mov (.tmp 6), none⟩,
  ⟨(some 27), .fldA 0 (.tmp 2), none⟩,
  ⟨(some 28), .load1 (.tmp 27), none⟩,
  ⟨(some 29), .lenS (.tmp 28), none⟩,
  ⟨(some 30), .ar .i64 .lss (.tmp 26) (.tmp 29), none⟩])
 (.cond (.tmp 30) (.ops [⟨(some 31), .fldA 0 (.tmp 2), none⟩,
  ⟨(some 32), .load1 (.tmp 31), none⟩,
  ⟨(some 33), .mov (.tmp 6), none⟩,
  ⟨(some 34), .idxS 1 (.tmp 32) (.tmp 33), none⟩,
  ⟨(some 35), .load1 (.tmp 34), none⟩,
  ⟨(some 36), .cint .u64 (.tmp 35), none⟩,
  ⟨(some 37), .ar .u64 .rem (.tmp 36) (.const (.int .u64 11)), none⟩,
  ⟨(some 38), .cint .i64 (.tmp 37), none⟩,
  ⟨(some 39), .ar .i64 .sub (.tmp 38) (.const (.int .i64 5)), none⟩,
  ⟨(some 7), .mov (.tmp 39), none⟩])
 .skip))
 (.seq (.ops [⟨(some 40), .fldA 0 (.tmp 5), none⟩,
  ⟨(some 41), .load1 (.tmp 40), none⟩,
  ⟨(some 8), .mov (.tmp 41), none⟩])
 (.ops [⟨(some 42), .mov (.tmp 8), none⟩,
  ⟨(some 43), .mov (.tmp 7), none⟩,
  ⟨(some 44), .slit 3 1 [(.int .i64 0)] [(0, 1, (.tmp 43))], none⟩,
  ⟨(some 45), .append 3 1 8 (.tmp 42) (.tmp 44), none⟩,
  ⟨(some 46), .fldA 0 (.tmp 5), none⟩,
  ⟨none, .store 1 (.tmp 46) (.tmp 45), none⟩])))))
 (.ops [⟨(some 24), .mov (.tmp 6), none⟩,
  ⟨(some 25), .ar .i64 .add (.tmp 24) (.const (.int .i64 1)), none⟩,
  ⟨(some 6), .mov (.tmp 25), none⟩]))))))
 (.seq (.ops [⟨(some 47), .loadN 3 (.tmp 5), none⟩,
  ⟨none, .store 3 (.tmp 4) (.tmp 47), none⟩])
 .ret))))
theorem enter46 {xs : List Value} {h : Hp} {Q : Value → Hp → Prop} (hl : xs.length ≤ 48) (w : wq E 48 none c46 (frameOf xs) h [] (leaveQ E [.cell 4 69] Q)) : CallP E 46 xs h Q :=
  CallP.enterQ (fn := Try.f46) (fn_get Try.func46) (code := Try.f46.body.get rfl) rfl rfl rfl (by kernel_rfl) rfl (fun _ => rfl) hl w
theorem can46 : callable E 46 = true := callable_get Try.func46 rfl rfl

/-- tosher/tosherref06.Crowd -/
def c47 : C := (.seq (.ops [⟨(some 2), .box 26 (.tmp 0), none⟩,
  ⟨(some 4), .mov (.const (.slice none 0 0)), none⟩])
 (.seq (.ops [⟨(some 7), .fldA 0 (.tmp 2), none⟩,
  ⟨(some 8), .load1 (.tmp 7), none⟩,
  ⟨(some 9), .make 3 [(.int .i64 0)] 8 (.tmp 8) (.tmp 8), none⟩,
  ⟨(some 5), .mov (.tmp 9), none⟩])
 (.seq (.seq (.ops [⟨(some 6), .mov (.const (.int .i64 0)), none⟩])
 (.block 0 (.loop (.seq (.seq (.ops [⟨(some 10), .mov (.tmp 6), none⟩,
  ⟨(some 11), .mov (.tmp 1), none⟩,
  ⟨(some 12), .lenS (.tmp 11), none⟩,
  ⟨(some 13), .ar .i64 .lss (.tmp 10) (.tmp 12), none⟩])
 (.cond (.tmp 13) .skip
 (.exit 0)))
 (.seq (.block 1 (.ops [⟨(some 16), .mov (.tmp 5), none⟩,
  ⟨(some 17), .fldA 2 (.tmp 2), none⟩,
  ⟨(some 18), .load1 (.tmp 17), none⟩,
  ⟨(some 19), .mov (.tmp 6), none⟩,
  ⟨(some 20), .idxS 1 (.tmp 18) (.tmp 19), none⟩,
  ⟨(some 21), .load1 (.tmp 20), none⟩,
  ⟨(some 22), .mov (.tmp 5), none⟩,
  ⟨(some 23), .fldA 2 (.tmp 2), none⟩,
  ⟨(some 24), .load1 (.tmp 23), none⟩,
  ⟨(some 25), .mov (.tmp 6), none⟩,
  ⟨(some 26), .idxS 1 (.tmp 24) (.tmp 25), none⟩,
  ⟨(some 27), .load1 (.tmp 26), none⟩,
  ⟨(some 28), .idxS 1 (.tmp 22) (.tmp 27), none⟩,
  ⟨(some 29), .load1 (.tmp 28), none⟩,
  ⟨(some 30), .mov (.tmp 1), none⟩,
  ⟨(some 31), .mov (.tmp 6), none⟩,
  ⟨(some 32), .idxS 1 (.tmp 30) (.tmp 31), none⟩,
  ⟨(some 33), .load1 (.tmp 32), none⟩,
  ⟨(some 34), .ar .i64 .add (.tmp 29) (.tmp 33), none⟩,
  ⟨(some 35), .idxS 1 (.tmp 16) (.tmp 21), none⟩,
  ⟨none, .store 1 (.tmp 35) (.tmp 34), none⟩]))
 (.ops [⟨(some 14), .mov (.tmp 6), none⟩,
  ⟨(some 15), .ar .i64 .add (.tmp 14) (.const (.int .i64 1)), none⟩,
  ⟨(some 6), .mov (.tmp 15), none⟩]))))))
 (.seq (.ops [⟨(some 36), .mov (.tmp 5), none⟩,
  ⟨(some 4), .mov (.tmp 36), none⟩])
 .ret))))
theorem enter47 {xs : List Value} {h : Hp} {Q : Value → Hp → Prop} (hl : xs.length ≤ 37) (w : wq E 37 none c47 (frameOf xs) h [] (leaveQ E [.tmp 4] Q)) : CallP E 47 xs h Q :=
  CallP.enterQ (fn := Try.f47) (fn_get Try.func47) (code := Try.f47.body.get rfl) rfl rfl rfl (by kernel_rfl) rfl (fun _ => rfl) hl w
theorem can47 : callable E 47 = true := callable_get Try.func47 rfl rfl

/-- tosher/tosherref06.Sum -/
def c59 : C := (.seq (.ops [⟨(some 2), .mov (.const (.int .i64 0)), none⟩])
 (.seq (.ops [⟨(some 3), .mov (.const (.int .i64 0)), none⟩])
 (.seq (.seq (.ops [⟨(some 4), .mov (.const (.int .i64 0)), none⟩])
 (.block 0 (.loop (.seq (.seq (.ops [⟨(some 5), .mov (.tmp 4), none⟩,
  ⟨(some 6), .mov (.tmp 0), none⟩,
  ⟨(some 7), .lenS (.tmp 6), none⟩,
  ⟨(some 8), .ar .i64 .lss (.tmp 5) (.tmp 7), none⟩])
 (.cond (.tmp 8) .skip
 (.exit 0)))
 (.seq (.block 1 (.ops [⟨(some 11), .mov (.tmp 3), none⟩,
  ⟨(some 12), .mov (.tmp 0), none⟩,
  ⟨(some 13), .mov (.tmp 4), none⟩,
  ⟨(some 14), .idxS 1 (.tmp 12) (.tmp 13), none⟩,
  ⟨(some 15), .load1 (.tmp 14), none⟩,
  ⟨(some 16), .ar .i64 .add (.tmp 11) (.tmp 15), none⟩,
  ⟨(some 3), .mov (.tmp 16), none⟩]))
 (.ops [⟨(some 9), .mov (.tmp 4), none⟩,
  ⟨(some 10), .ar .i64 .add (.tmp 9) (.const (.int .i64 1)), none⟩,
  ⟨(some 4), .mov (.tmp 10), none⟩]))))))
 (.seq (.ops [⟨(some 17), .mov (.tmp 3), none⟩,
  ⟨(some 2), .mov (.tmp 17), none⟩])
 .ret))))
theorem enter59 {xs : List Value} {h : Hp} {Q : Value → Hp → Prop} (hl : xs.length ≤ 18) (w : wq E 18 none c59 (frameOf xs) h [] (leaveQ E [.tmp 2] Q)) : CallP E 59 xs h Q :=
  CallP.enterQ (fn := Try.f59) (fn_get Try.func59) (code := Try.f59.body.get rfl) rfl rfl rfl (by kernel_rfl) rfl (fun _ => rfl) hl w
theorem can59 : callable E 59 = true := callable_get Try.func59 rfl rfl

/-- tosher/tally.isWithin -/
def c60 : C := (.seq (.ops [⟨(some 6), .mov (.const (.bool false)), none⟩])
 (.seq (.seq (.ops [⟨(some 9), .mov (.tmp 2), none⟩,
  ⟨(some 10), .lenS (.tmp 9), none⟩,
  ⟨(some 11), .mov (.const (.int .i64 0)), none⟩])
 (.block 0 (.loop (.seq (.ops [⟨(some 12), .ar .i64 .lss (.tmp 11) (.tmp 10), none⟩])
 (.seq (.cond (.tmp 12) .skip
 (.exit 0))
 (.seq (.block 1 (.seq (.ops [⟨(some 13), .idxS 1 (.tmp 9) (.tmp 11), none⟩,
  ⟨(some 14), .load1 (.tmp 13), none⟩,
  ⟨(some 8), .mov (.tmp 14), none⟩])
 (.seq (.ops [⟨(some 15), .mov (.tmp 8), none⟩,
  ⟨(some 16), .mov (.tmp 0), none⟩,
  ⟨(some 17), .ar .i64 .lss (.tmp 15) (.tmp 16), none⟩,
  ⟨(some 18), .mov (.tmp 17), none⟩,
  ⟨(some 19), .mov (.tmp 8), (some (18, false))⟩,
  ⟨(some 20), .mov (.tmp 1), (some (18, false))⟩,
  ⟨(some 21), .ar .i64 .gtr (.tmp 19) (.tmp 20), (some (18, false))⟩,
  ⟨(some 22), .pick (.tmp 18) (.const (.bool true)) (.tmp 21), none⟩])
 (.cond (.tmp 22) (.seq (.ops [⟨(some 6), .mov (.const (.bool false)), none⟩])
 .ret)
 .skip))))
 (.ops [⟨(some 23), .ar .i64 .add (.tmp 11) (.const (.int .i64 1)), none⟩,
  ⟨(some 11), .mov (.tmp 23), none⟩])))))))
 (.seq (.ops [⟨(some 6), .mov (.const (.bool true)), none⟩])
 .ret)))
theorem enter60 {xs : List Value} {h : Hp} {Q : Value → Hp → Prop} (hl : xs.length ≤ 24) (w : wq E 24 none c60 (frameOf xs) h [] (leaveQ E [.tmp 6] Q)) : CallP E 60 xs h Q :=
  CallP.enterQ (fn := Try.f60) (fn_get Try.func60) (code := Try.f60.body.get rfl) rfl rfl rfl (by kernel_rfl) rfl (fun _ => rfl) hl w
theorem can60 : callable E 60 = true := callable_get Try.func60 rfl rfl

/-- slices.Compare[[]int,int] -/
def c61 : C := (.seq (.ops [⟨(some 4), .mov (.const (.int .i64 0)), none⟩])
 (.seq (.seq (.ops [⟨(some 9), .mov (.tmp 0), none⟩,
  ⟨(some 10), .lenS (.tmp 9), none⟩,
  ⟨(some 11), .mov (.const (.int .i64 0)), none⟩])
 (.block 0 (.loop (.seq (.ops [⟨(some 12), .ar .i64 .lss (.tmp 11) (.tmp 10), none⟩])
 (.seq (.cond (.tmp 12) .skip
 (.exit 0))
 (.seq (.block 1 (.seq (.ops [⟨(some 13), .mov (.tmp 11), none⟩,
  ⟨(some 14), .idxS 1 (.tmp 9) (.tmp 11), none⟩,
  ⟨(some 15), .load1 (.tmp 14), none⟩,
  ⟨(some 5), .mov (.tmp 13), none⟩,
  ⟨(some 6), .mov (.tmp 15), none⟩])
 (.seq (.seq (.ops [⟨(some 16), .mov (.tmp 5), none⟩,
  ⟨(some 17), .mov (.tmp 1), none⟩,
  ⟨(some 18), .lenS (.tmp 17), none⟩,
  ⟨(some 19), .ar .i64 .geq (.tmp 16) (.tmp 18), none⟩])
 (.cond (.tmp 19) (.seq (.ops [⟨(some 4), .mov (.const (.int .i64 1)), none⟩])
 .ret)
 .skip))
 (.seq (.ops [⟨(some 20), .mov (.tmp 1), none⟩,
  ⟨(some 21), .mov (.tmp 5), none⟩,
  ⟨(some 22), .idxS 1 (.tmp 20) (.tmp 21), none⟩,
  ⟨(some 23), .load1 (.tmp 22), none⟩,
  ⟨(some 7), .mov (.tmp 23), none⟩])
 (.seq (.ops [⟨(some 24), .mov (.tmp 6), none⟩,
  ⟨(some 25), .mov (.tmp 7), none⟩,
  ⟨(some 26), .call 89 [(.tmp 24), (.tmp 25)], none⟩,
  ⟨(some 8), .mov (.tmp 26), none⟩])
 (.seq (.ops [⟨(some 27), .mov (.tmp 8), none⟩,
  ⟨(some 28), .ar .i64 .neq (.tmp 27) (.const (.int .i64 0)), none⟩])
 (.cond (.tmp 28) (.seq (.ops [⟨(some 29), .mov (.tmp 8), none⟩,
  ⟨(some 4), .mov (.tmp 29), none⟩])
 .ret)
 .skip)))))))
 (.ops [⟨(some 30), .ar .i64 .add (.tmp 11) (.const (.int .i64 1)), none⟩,
  ⟨(some 11), .mov (.tmp 30), none⟩])))))))
 (.seq (.seq (.ops [⟨(some 31), .mov (.tmp 0), none⟩,
  ⟨(some 32), .lenS (.tmp 31), none⟩,
  ⟨(some 33), .mov (.tmp 1), none⟩,
  ⟨(some 34), .lenS (.tmp 33), none⟩,
  ⟨(some 35), .ar .i64 .lss (.tmp 32) (.tmp 34), none⟩])
 (.cond (.tmp 35) (.seq (.ops [⟨(some 4), .mov (.const (.int .i64 (-1))), none⟩])
 .ret)
 .skip))
 (.seq (.ops [⟨(some 4), .mov (.const (.int .i64 0)), none⟩])
 .ret))))
theorem enter61 {xs : List Value} {h : Hp} {Q : Value → Hp → Prop} (hl : xs.length ≤ 36) (w : wq E 36 none c61 (frameOf xs) h [] (leaveQ E [.tmp 4] Q)) : CallP E 61 xs h Q :=
  CallP.enterQ (fn := Try.f61) (fn_get Try.func61) (code := Try.f61.body.get rfl) rfl rfl rfl (by kernel_rfl) rfl (fun _ => rfl) hl w
theorem can61 : callable E 61 = true := callable_get Try.func61 rfl rfl

/-- tosher/tally.isQuestion -/
def c62 : C := (.seq (.ops [⟨(some 1), .box 36 (.tmp 0), none⟩,
  ⟨(some 2), .mov (.const (.bool false)), none⟩])
 (.seq (.ops [⟨(some 3), .fldA 0 (.tmp 1), none⟩,
  ⟨(some 4), .load1 (.tmp 3), none⟩,
  ⟨(some 5), .lenS (.tmp 4), none⟩,
  ⟨(some 6), .ar .i64 .geq (.tmp 5) (.const (.int .i64 1)), none⟩,
  ⟨(some 7), .mov (.tmp 6), none⟩,
  ⟨(some 8), .fldA 0 (.tmp 1), (some (7, true))⟩,
  ⟨(some 9), .load1 (.tmp 8), (some (7, true))⟩,
  ⟨(some 10), .lenS (.tmp 9), (some (7, true))⟩,
  ⟨(some 11), .ar .i64 .leq (.tmp 10) (.const (.int .i64 2)), (some (7, true))⟩,
  ⟨(some 12), .pick (.tmp 7) (.tmp 11) (.const (.bool false)), none⟩,
  ⟨(some 13), .mov (.tmp 12), none⟩,
  ⟨(some 14), .fldA 0 (.tmp 1), (some (13, true))⟩,
  ⟨(some 15), .load1 (.tmp 14), (some (13, true))⟩,
  ⟨(some 16), .call 60 [(.const (.int .i64 (-5))), (.const (.int .i64 5)), (.tmp 15)], (some (13, true))⟩,
  ⟨(some 17), .pick (.tmp 13) (.tmp 16) (.const (.bool false)), none⟩,
  ⟨(some 18), .mov (.tmp 17), none⟩,
  ⟨(some 19), .fldA 1 (.tmp 1), (some (18, true))⟩,
  ⟨(some 20), .load1 (.tmp 19), (some (18, true))⟩,
  ⟨(some 21), .slit 3 1 [(.int .i64 0)] [(0, 1, (.tmp 20))], (some (18, true))⟩,
  ⟨(some 22), .call 60 [(.const (.int .i64 (-9))), (.const (.int .i64 9)), (.tmp 21)], (some (18, true))⟩,
  ⟨(some 23), .pick (.tmp 18) (.tmp 22) (.const (.bool false)), none⟩,
  ⟨(some 24), .mov (.tmp 23), none⟩,
  ⟨(some 25), .fldA 2 (.tmp 1), (some (24, true))⟩,
  ⟨(some 26), .load1 (.tmp 25), (some (24, true))⟩,
  ⟨(some 27), .slit 3 1 [(.int .i64 0)] [(0, 1, (.tmp 26))], (some (24, true))⟩,
  ⟨(some 28), .call 60 [(.const (.int .i64 0)), (.const (.int .i64 9)), (.tmp 27)], (some (24, true))⟩,
  ⟨(some 29), .pick (.tmp 24) (.tmp 28) (.const (.bool false)), none⟩,
  ⟨(some 2), .mov (.tmp 29), none⟩])
 .ret))
theorem enter62 {xs : List Value} {h : Hp} {Q : Value → Hp → Prop} (hl : xs.length ≤ 30) (w : wq E 30 none c62 (frameOf xs) h [] (leaveQ E [.tmp 2] Q)) : CallP E 62 xs h Q :=
  CallP.enterQ (fn := Try.f62) (fn_get Try.func62) (code := Try.f62.body.get rfl) rfl rfl rfl (by kernel_rfl) rfl (fun _ => rfl) hl w
theorem can62 : callable E 62 = true := callable_get Try.func62 rfl rfl

/-- (tosher/tally.Question).isTrue -/
def c64 : C := (.seq (.ops [⟨(some 2), .box 36 (.tmp 0), none⟩,
  ⟨(some 4), .mov (.const (.bool false)), none⟩])
 (.seq (.ops [⟨(some 9), .mov (.tmp 1), none⟩,
  ⟨(some 10), .lenS (.tmp 9), none⟩,
  ⟨(some 11), .make 3 [(.int .i64 0)] 8 (.tmp 10) (.tmp 10), none⟩,
  ⟨(some 5), .mov (.tmp 11), none⟩])
 (.seq (.seq (.ops [⟨(some 12), .mov (.tmp 1), none⟩,
  ⟨(some 13), .lenS (.tmp 12), none⟩,
  ⟨(some 14), .mov (.const (.int .i64 0)), none⟩])
 (.block 0 (.loop (.seq (.ops [⟨(some 15), .ar .i64 .lss (.tmp 14) (.tmp 13), none⟩])
 (.seq (.cond (.tmp 15) .skip
 (.exit 0))
 (.seq (.block 1 (.seq (.ops [⟨(some 16), .mov (.tmp 14), none⟩,
  ⟨(some 17), .idxS 1 (.tmp 12) (.tmp 14), none⟩,
  ⟨(some 18), .load1 (.tmp 17), none⟩,
  ⟨(some 6), .mov (.tmp 16), none⟩,
  ⟨(some 7), .mov (.tmp 18), none⟩])
 (.ops [⟨(some 19), .mov (.tmp 5), none⟩,
  ⟨(some 20), .mov (.tmp 6), none⟩,
  ⟨(some 21), .fldA 0 (.tmp 2), none⟩,
  ⟨(some 22), .load1 (.tmp 21), none⟩,
  ⟨(some 23), .mov (.tmp 6), none⟩,
  ⟨(some 24), .idxS 1 (.tmp 22) (.tmp 23), none⟩,
  ⟨(some 25), .load1 (.tmp 24), none⟩,
  ⟨(some 26), .mov (.tmp 7), none⟩,
  ⟨(some 27), .ar .i64 .mul (.tmp 25) (.tmp 26), none⟩,
  ⟨(some 28), .idxS 1 (.tmp 19) (.tmp 20), none⟩,
  ⟨none, .store 1 (.tmp 28) (.tmp 27), none⟩])))
 (.ops [⟨(some 29), .ar .i64 .add (.tmp 14) (.const (.int .i64 1)), none⟩,
  ⟨(some 14), .mov (.tmp 29), none⟩])))))))
 (.seq (.draw [⟨(some 30), .mov (.tmp 5), none⟩,
  ⟨(some 31), .call 90 [(.tmp 30)], none⟩,
  ⟨(some 32), .fldA 1 (.tmp 2), none⟩,
  ⟨(some 33), .load1 (.tmp 32), none⟩,
  ⟨(some 34), .ar .i64 .sub (.tmp 31) (.tmp 33), none⟩,
  ⟨(some 8), .mov (.tmp 34), none⟩]
  [⟨false, false, [false, false, false, false, false, false], [false, false, false, false, false, false]⟩,
  ⟨true, false, [false, false, false, false, false, false], [false, true, false, false, false, false]⟩,
  ⟨false, true, [false, false, false, false, false, false], [false, true, false, false, false, false]⟩,
  ⟨false, true, [false, false, false, false, false, false], [false, true, false, false, false, false]⟩,
  ⟨false, false, [false, true, false, false, false, false], [false, true, false, false, false, false]⟩,
  ⟨false, false, [false, true, false, false, false, false], [false, true, false, false, false, false]⟩])
 (.seq (.seq (.ops [⟨(some 35), .fldA 2 (.tmp 2), none⟩,
  ⟨(some 36), .load1 (.tmp 35), none⟩,
  ⟨(some 37), .ar .i64 .eql (.tmp 36) (.const (.int .i64 0)), none⟩])
 (.cond (.tmp 37) (.seq (.ops [⟨(some 38), .mov (.tmp 8), none⟩,
  ⟨(some 39), .ar .i64 .geq (.tmp 38) (.const (.int .i64 0)), none⟩,
  ⟨(some 4), .mov (.tmp 39), none⟩])
 .ret)
 .skip))
 (.seq (.ops [⟨(some 40), .mov (.tmp 8), none⟩,
  ⟨(some 41), .fldA 2 (.tmp 2), none⟩,
  ⟨(some 42), .load1 (.tmp 41), none⟩,
  ⟨(some 43), .ar .i64 .rem (.tmp 40) (.tmp 42), none⟩,
  ⟨(some 44), .ar .i64 .eql (.tmp 43) (.const (.int .i64 0)), none⟩,
  ⟨(some 4), .mov (.tmp 44), none⟩])
 .ret))))))
theorem enter64 {xs : List Value} {h : Hp} {Q : Value → Hp → Prop} (hl : xs.length ≤ 45) (w : wq E 45 none c64 (frameOf xs) h [] (leaveQ E [.tmp 4] Q)) : CallP E 64 xs h Q :=
  CallP.enterQ (fn := Try.f64) (fn_get Try.func64) (code := Try.f64.body.get rfl) rfl rfl rfl (by kernel_rfl) rfl (fun _ => rfl) hl w
theorem can64 : callable E 64 = true := callable_get Try.func64 rfl rfl

/-- (tosher/tally.Protocol).ofKinds -/
def c67 : C := (.seq (.ops [⟨(some 2), .box 25 (.tmp 0), none⟩,
  ⟨(some 4), .alloc 107 [(.int .i64 0), (.int .i64 0), (.int .i64 0), (.int .i64 0), (.int .i64 0)], none⟩])
 (.seq (.ops [⟨(some 5), .alloc 107 [(.int .i64 0), (.int .i64 0), (.int .i64 0), (.int .i64 0), (.int .i64 0)], none⟩])
 (.seq (.seq (.ops [⟨(some 8), .mov (.tmp 1), none⟩,
  ⟨(some 9), .lenS (.tmp 8), none⟩,
  ⟨(some 10), .mov (.const (.int .i64 0)), none⟩])
 (.block 0 (.loop (.seq (.ops [⟨(some 11), .ar .i64 .lss (.tmp 10) (.tmp 9), none⟩])
 (.seq (.cond (.tmp 11) .skip
 (.exit 0))
 (.seq (.block 1 (.seq (.ops [⟨(some 12), .mov (.tmp 10), none⟩,
  ⟨(some 13), .idxS 1 (.tmp 8) (.tmp 10), none⟩,
  ⟨(some 14), .load1 (.tmp 13), none⟩,
  ⟨(some 6), .mov (.tmp 12), none⟩,
  ⟨(some 7), .mov (.tmp 14), none⟩])
 (.ops [⟨(some 15), .fldA 2 (.tmp 2), none⟩,
  ⟨(some 16), .load1 (.tmp 15), none⟩,
  ⟨(some 17), .mov (.tmp 6), none⟩,
  ⟨(some 18), .idxS 1 (.tmp 16) (.tmp 17), none⟩,
  ⟨(some 19), .load1 (.tmp 18), none⟩,
  ⟨(some 20), .idxA 5 1 (.tmp 5) (.tmp 19), none⟩,
  ⟨(some 21), .load1 (.tmp 20), none⟩,
  ⟨(some 22), .mov (.tmp 7), none⟩,
  ⟨(some 23), .ar .i64 .add (.tmp 21) (.tmp 22), none⟩,
  ⟨(some 24), .idxA 5 1 (.tmp 5) (.tmp 19), none⟩,
  ⟨none, .store 1 (.tmp 24) (.tmp 23), none⟩])))
 (.ops [⟨(some 25), .ar .i64 .add (.tmp 10) (.const (.int .i64 1)), none⟩,
  ⟨(some 10), .mov (.tmp 25), none⟩])))))))
 (.seq (.ops [⟨(some 26), .loadN 5 (.tmp 5), none⟩,
  ⟨none, .store 5 (.tmp 4) (.tmp 26), none⟩])
 .ret))))
theorem enter67 {xs : List Value} {h : Hp} {Q : Value → Hp → Prop} (hl : xs.length ≤ 27) (w : wq E 27 none c67 (frameOf xs) h [] (leaveQ E [.cell 4 107] Q)) : CallP E 67 xs h Q :=
  CallP.enterQ (fn := Try.f67) (fn_get Try.func67) (code := Try.f67.body.get rfl) rfl rfl rfl (by kernel_rfl) rfl (fun _ => rfl) hl w
theorem can67 : callable E 67 = true := callable_get Try.func67 rfl rfl

/-- tosher/tally.isCount -/
def c70 : C := (.seq (.ops [⟨(some 4), .mov (.const (.bool false)), none⟩])
 (.seq (.ops [⟨(some 5), .mov (.func 99), none⟩])
 (.seq (.seq (.ops [⟨(some 7), .mov (.tmp 0), none⟩,
  ⟨(some 8), .lenS (.tmp 7), none⟩,
  ⟨(some 9), .mov (.tmp 1), none⟩,
  ⟨(some 10), .ar .i64 .neq (.tmp 8) (.tmp 9), none⟩,
  ⟨(some 11), .mov (.tmp 10), none⟩,
  ⟨(some 12), .mov (.tmp 0), (some (11, false))⟩,
  ⟨(some 13), .mov (.tmp 5), (some (11, false))⟩,
  ⟨(some 14), .call 100 [(.tmp 12), (.tmp 13)], (some (11, false))⟩,
  ⟨(some 15), .pick (.tmp 11) (.const (.bool true)) (.tmp 14), none⟩])
 (.cond (.tmp 15) (.seq (.ops [⟨(some 4), .mov (.const (.bool false)), none⟩])
 .ret)
 .skip))
 (.seq (.ops [⟨(some 16), .mov (.tmp 0), none⟩,
  ⟨(some 17), .call 90 [(.tmp 16)], none⟩,
  ⟨(some 6), .mov (.tmp 17), none⟩])
 (.seq (.ops [⟨(some 18), .mov (.tmp 6), none⟩,
  ⟨(some 19), .ar .i64 .geq (.tmp 18) (.const (.int .i64 1)), none⟩,
  ⟨(some 20), .mov (.tmp 19), none⟩,
  ⟨(some 21), .mov (.tmp 6), (some (20, true))⟩,
  ⟨(some 22), .ar .i64 .leq (.tmp 21) (.const (.int .i64 9)), (some (20, true))⟩,
  ⟨(some 23), .pick (.tmp 20) (.tmp 22) (.const (.bool false)), none⟩,
  ⟨(some 4), .mov (.tmp 23), none⟩])
 .ret)))))
theorem enter70 {xs : List Value} {h : Hp} {Q : Value → Hp → Prop} (hl : xs.length ≤ 24) (w : wq E 24 none c70 (frameOf xs) h [] (leaveQ E [.tmp 4] Q)) : CallP E 70 xs h Q :=
  CallP.enterQ (fn := Try.f70) (fn_get Try.func70) (code := Try.f70.body.get rfl) rfl rfl rfl (by kernel_rfl) rfl (fun _ => rfl) hl w
theorem can70 : callable E 70 = true := callable_get Try.func70 rfl rfl

/-- slices.Clone[[]int,int] -/
def c71 : C := (.seq (.ops [⟨(some 2), .mov (.const (.slice none 0 0)), none⟩])
 (.seq (.seq (.ops [⟨(some 3), .mov (.tmp 0), none⟩,
  ⟨(some 4), .raw (.binOp .eql 22 (.tmp 3) (.const (.slice none 0 0)) 22) 4, none⟩])
 (.cond (.tmp 4) (.seq (.ops [⟨(some 2), .mov (.const (.slice none 0 0)), none⟩])
 .ret)
 .skip))
 (.seq (.ops [⟨(some 5), .slit 3 0 [] [], none⟩,
  ⟨(some 6), .mov (.tmp 0), none⟩,
  ⟨(some 7), .append 3 1 8 (.tmp 5) (.tmp 6), none⟩,
  ⟨(some 2), .mov (.tmp 7), none⟩])
 .ret)))
theorem enter71 {xs : List Value} {h : Hp} {Q : Value → Hp → Prop} (hl : xs.length ≤ 8) (w : wq E 8 none c71 (frameOf xs) h [] (leaveQ E [.tmp 2] Q)) : CallP E 71 xs h Q :=
  CallP.enterQ (fn := Try.f71) (fn_get Try.func71) (code := Try.f71.body.get rfl) rfl rfl rfl (by kernel_rfl) rfl (fun _ => rfl) hl w
theorem can71 : callable E 71 = true := callable_get Try.func71 rfl rfl

/-- tosher/tally.read -/
def c73 : C := (.seq (.ops [⟨(some 2), .box 25 (.tmp 0), none⟩,
  ⟨(some 4), .alloc 107 [(.int .i64 0), (.int .i64 0), (.int .i64 0), (.int .i64 0), (.int .i64 0)], none⟩,
  ⟨(some 5), .mov (.const (.int .i64 0)), none⟩])
 (.seq (.seq (.ops [⟨(some 7), .loadN 4 (.tmp 2), none⟩,
  ⟨(some 8), .call 21 [(.tmp 7)], none⟩,
  ⟨(some 6), .mov (.tmp 8), none⟩])
 (.seq (.ops [⟨(some 9), .mov (.tmp 6), none⟩,
  ⟨(some 10), .ar .i64 .neq (.tmp 9) (.const (.int .i64 0)), none⟩])
 (.cond (.tmp 10) (.seq (.ops [⟨(some 11), .aggr [(.int .i64 0), (.int .i64 0), (.int .i64 0), (.int .i64 0), (.int .i64 0)] [], none⟩,
  ⟨(some 12), .mov (.tmp 6), none⟩,
  ⟨none, .store 5 (.tmp 4) (.tmp 11), none⟩,
  ⟨(some 5), .mov (.tmp 12), none⟩])
 .ret)
 .skip)))
 (.seq (.seq (.ops [⟨(some 13), .mov (.tmp 1), none⟩,
  ⟨(some 14), .fldA 0 (.tmp 2), none⟩,
  ⟨(some 15), .load1 (.tmp 14), none⟩,
  ⟨(some 16), .call 70 [(.tmp 13), (.tmp 15)], none⟩,
  ⟨(some 17), .not (.tmp 16), none⟩])
 (.cond (.tmp 17) (.seq (.ops [⟨(some 18), .aggr [(.int .i64 0), (.int .i64 0), (.int .i64 0), (.int .i64 0), (.int .i64 0)] [], none⟩,
  ⟨none, .store 5 (.tmp 4) (.tmp 18), none⟩,
  ⟨(some 5), .mov (.const (.int .i64 1)), none⟩])
 .ret)
 .skip))
 (.seq (.ops [⟨(some 19), .mov (.tmp 1), none⟩,
  ⟨(some 20), .call 101 [(.tmp 19)], none⟩,
  ⟨none, .store 5 (.tmp 4) (.tmp 20), none⟩,
  ⟨(some 5), .mov (.const (.int .i64 0)), none⟩])
 .ret))))
theorem enter73 {xs : List Value} {h : Hp} {Q : Value → Hp → Prop} (hl : xs.length ≤ 21) (w : wq E 21 none c73 (frameOf xs) h [] (leaveQ E [.cell 4 107, .tmp 5] Q)) : CallP E 73 xs h Q :=
  CallP.enterQ (fn := Try.f73) (fn_get Try.func73) (code := Try.f73.body.get rfl) rfl rfl rfl (by kernel_rfl) rfl (fun _ => rfl) hl w
theorem can73 : callable E 73 = true := callable_get Try.func73 rfl rfl

/-- (tosher/tally.crowd).allows -/
def c74 : C := (.seq (.ops [⟨(some 2), .box 107 (.tmp 0), none⟩,
  ⟨(some 3), .box 96 (.tmp 1), none⟩,
  ⟨(some 4), .mov (.const (.bool false)), none⟩])
 (.seq (.ops [⟨(some 7), .idxA 4 1 (.tmp 3) (.const (.int .i64 0)), none⟩,
  ⟨(some 8), .load1 (.tmp 7), none⟩,
  ⟨(some 9), .idxA 4 1 (.tmp 3) (.const (.int .i64 1)), none⟩,
  ⟨(some 10), .load1 (.tmp 9), none⟩,
  ⟨(some 5), .mov (.tmp 8), none⟩,
  ⟨(some 6), .mov (.tmp 10), none⟩])
 (.seq (.seq (.ops [⟨(some 11), .mov (.tmp 5), none⟩,
  ⟨(some 12), .mov (.tmp 6), none⟩,
  ⟨(some 13), .ar .i64 .eql (.tmp 11) (.tmp 12), none⟩])
 (.cond (.tmp 13) (.seq (.ops [⟨(some 14), .mov (.tmp 5), none⟩,
  ⟨(some 15), .idxA 5 1 (.tmp 2) (.tmp 14), none⟩,
  ⟨(some 16), .load1 (.tmp 15), none⟩,
  ⟨(some 17), .ar .i64 .gtr (.tmp 16) (.const (.int .i64 1)), none⟩,
  ⟨(some 4), .mov (.tmp 17), none⟩])
 .ret)
 .skip))
 (.seq (.ops [⟨(some 18), .mov (.tmp 5), none⟩,
  ⟨(some 19), .idxA 5 1 (.tmp 2) (.tmp 18), none⟩,
  ⟨(some 20), .load1 (.tmp 19), none⟩,
  ⟨(some 21), .ar .i64 .gtr (.tmp 20) (.const (.int .i64 0)), none⟩,
  ⟨(some 22), .mov (.tmp 21), none⟩,
  ⟨(some 23), .mov (.tmp 6), (some (22, true))⟩,
  ⟨(some 24), .idxA 5 1 (.tmp 2) (.tmp 23), (some (22, true))⟩,
  ⟨(some 25), .load1 (.tmp 24), (some (22, true))⟩,
  ⟨(some 26), .ar .i64 .gtr (.tmp 25) (.const (.int .i64 0)), (some (22, true))⟩,
  ⟨(some 27), .pick (.tmp 22) (.tmp 26) (.const (.bool false)), none⟩,
  ⟨(some 4), .mov (.tmp 27), none⟩])
 .ret))))
theorem enter74 {xs : List Value} {h : Hp} {Q : Value → Hp → Prop} (hl : xs.length ≤ 28) (w : wq E 28 none c74 (frameOf xs) h [] (leaveQ E [.tmp 4] Q)) : CallP E 74 xs h Q :=
  CallP.enterQ (fn := Try.f74) (fn_get Try.func74) (code := Try.f74.body.get rfl) rfl rfl rfl (by kernel_rfl) rfl (fun _ => rfl) hl w
theorem can74 : callable E 74 = true := callable_get Try.func74 rfl rfl

/-- (tosher/tally.crowd).after -/
def c75 : C := (.seq (.ops [⟨(some 2), .box 107 (.tmp 0), none⟩,
  ⟨(some 3), .box 96 (.tmp 1), none⟩,
  ⟨(some 4), .alloc 107 [(.int .i64 0), (.int .i64 0), (.int .i64 0), (.int .i64 0), (.int .i64 0)], none⟩])
 (.seq (.ops [⟨(some 5), .idxA 4 1 (.tmp 3) (.const (.int .i64 0)), none⟩,
  ⟨(some 6), .load1 (.tmp 5), none⟩,
  ⟨(some 7), .idxA 5 1 (.tmp 2) (.tmp 6), none⟩,
  ⟨(some 8), .load1 (.tmp 7), none⟩,
  ⟨(some 9), .ar .i64 .sub (.tmp 8) (.const (.int .i64 1)), none⟩,
  ⟨(some 10), .idxA 5 1 (.tmp 2) (.tmp 6), none⟩,
  ⟨none, .store 1 (.tmp 10) (.tmp 9), none⟩])
 (.seq (.ops [⟨(some 11), .idxA 4 1 (.tmp 3) (.const (.int .i64 1)), none⟩,
  ⟨(some 12), .load1 (.tmp 11), none⟩,
  ⟨(some 13), .idxA 5 1 (.tmp 2) (.tmp 12), none⟩,
  ⟨(some 14), .load1 (.tmp 13), none⟩,
  ⟨(some 15), .ar .i64 .sub (.tmp 14) (.const (.int .i64 1)), none⟩,
  ⟨(some 16), .idxA 5 1 (.tmp 2) (.tmp 12), none⟩,
  ⟨none, .store 1 (.tmp 16) (.tmp 15), none⟩])
 (.seq (.ops [⟨(some 17), .idxA 4 1 (.tmp 3) (.const (.int .i64 2)), none⟩,
  ⟨(some 18), .load1 (.tmp 17), none⟩,
  ⟨(some 19), .idxA 5 1 (.tmp 2) (.tmp 18), none⟩,
  ⟨(some 20), .load1 (.tmp 19), none⟩,
  ⟨(some 21), .ar .i64 .add (.tmp 20) (.const (.int .i64 1)), none⟩,
  ⟨(some 22), .idxA 5 1 (.tmp 2) (.tmp 18), none⟩,
  ⟨none, .store 1 (.tmp 22) (.tmp 21), none⟩])
 (.seq (.ops [⟨(some 23), .idxA 4 1 (.tmp 3) (.const (.int .i64 3)), none⟩,
  ⟨(some 24), .load1 (.tmp 23), none⟩,
  ⟨(some 25), .idxA 5 1 (.tmp 2) (.tmp 24), none⟩,
  ⟨(some 26), .load1 (.tmp 25), none⟩,
  ⟨(some 27), .ar .i64 .add (.tmp 26) (.const (.int .i64 1)), none⟩,
  ⟨(some 28), .idxA 5 1 (.tmp 2) (.tmp 24), none⟩,
  ⟨none, .store 1 (.tmp 28) (.tmp 27), none⟩])
 (.seq (.ops [⟨(some 29), .loadN 5 (.tmp 2), none⟩,
  ⟨none, .store 5 (.tmp 4) (.tmp 29), none⟩])
 .ret))))))
theorem enter75 {xs : List Value} {h : Hp} {Q : Value → Hp → Prop} (hl : xs.length ≤ 30) (w : wq E 30 none c75 (frameOf xs) h [] (leaveQ E [.cell 4 107] Q)) : CallP E 75 xs h Q :=
  CallP.enterQ (fn := Try.f75) (fn_get Try.func75) (code := Try.f75.body.get rfl) rfl rfl rfl (by kernel_rfl) rfl (fun _ => rfl) hl w
theorem can75 : callable E 75 = true := callable_get Try.func75 rfl rfl

/-- tosher/tally.readBoth -/
def c76 : C := (.seq (.ops [⟨(some 3), .box 25 (.tmp 0), none⟩,
  ⟨(some 6), .alloc 107 [(.int .i64 0), (.int .i64 0), (.int .i64 0), (.int .i64 0), (.int .i64 0)], none⟩,
  ⟨(some 7), .alloc 107 [(.int .i64 0), (.int .i64 0), (.int .i64 0), (.int .i64 0), (.int .i64 0)], none⟩,
  ⟨(some 8), .mov (.const (.int .i64 0)), none⟩])
 (.seq (.ops [⟨(some 10), .loadN 4 (.tmp 3), none⟩,
  ⟨(some 11), .mov (.tmp 1), none⟩,
  ⟨(some 12), .call 73 [(.tmp 10), (.tmp 11)], none⟩,
  ⟨(some 9), .mov (.tmp 12), none⟩,
  ⟨(some 13), .ext (.tmp 9) 0, none⟩,
  ⟨(some 14), .ext (.tmp 9) 1, none⟩,
  ⟨none, .store 5 (.tmp 6) (.tmp 13), none⟩,
  ⟨(some 8), .mov (.tmp 14), none⟩])
 (.seq (.seq (.ops [⟨(some 15), .mov (.tmp 8), none⟩,
  ⟨(some 16), .ar .i64 .neq (.tmp 15) (.const (.int .i64 0)), none⟩])
 (.cond (.tmp 16) (.seq (.ops [⟨(some 17), .aggr [(.int .i64 0), (.int .i64 0), (.int .i64 0), (.int .i64 0), (.int .i64 0)] [], none⟩,
  ⟨(some 18), .aggr [(.int .i64 0), (.int .i64 0), (.int .i64 0), (.int .i64 0), (.int .i64 0)] [], none⟩,
  ⟨(some 19), .mov (.tmp 8), none⟩,
  ⟨none, .store 5 (.tmp 6) (.tmp 17), none⟩,
  ⟨none, .store 5 (.tmp 7) (.tmp 18), none⟩,
  ⟨(some 8), .mov (.tmp 19), none⟩])
 .ret)
 .skip))
 (.seq (.ops [⟨(some 21), .loadN 4 (.tmp 3), none⟩,
  ⟨(some 22), .mov (.tmp 2), none⟩,
  ⟨(some 23), .call 73 [(.tmp 21), (.tmp 22)], none⟩,
  ⟨(some 20), .mov (.tmp 23), none⟩,
  ⟨(some 24), .ext (.tmp 20) 0, none⟩,
  ⟨(some 25), .ext (.tmp 20) 1, none⟩,
  ⟨none, .store 5 (.tmp 7) (.tmp 24), none⟩,
  ⟨(some 8), .mov (.tmp 25), none⟩])
 (.seq (.seq (.ops [⟨(some 26), .mov (.tmp 8), none⟩,
  ⟨(some 27), .ar .i64 .neq (.tmp 26) (.const (.int .i64 0)), none⟩])
 (.cond (.tmp 27) (.seq (.ops [⟨(some 28), .aggr [(.int .i64 0), (.int .i64 0), (.int .i64 0), (.int .i64 0), (.int .i64 0)] [], none⟩,
  ⟨(some 29), .aggr [(.int .i64 0), (.int .i64 0), (.int .i64 0), (.int .i64 0), (.int .i64 0)] [], none⟩,
  ⟨(some 30), .mov (.tmp 8), none⟩,
  ⟨none, .store 5 (.tmp 6) (.tmp 28), none⟩,
  ⟨none, .store 5 (.tmp 7) (.tmp 29), none⟩,
  ⟨(some 8), .mov (.tmp 30), none⟩])
 .ret)
 .skip))
 (.seq (.draw [⟨(some 31), .loadN 5 (.tmp 6), none⟩,
  ⟨(some 32), .loadN 5 (.tmp 7), none⟩,
  ⟨none, .store 5 (.tmp 6) (.tmp 31), none⟩,
  ⟨none, .store 5 (.tmp 7) (.tmp 32), none⟩,
  ⟨(some 8), .mov (.const (.int .i64 0)), none⟩]
  [⟨false, false, [false, false, false, false, false], [false, false, false, false, false]⟩,
  ⟨false, true, [false, false, false, false, false], [false, false, true, false, false]⟩,
  ⟨true, false, [false, false, false, false, false], [false, false, true, false, false]⟩,
  ⟨true, false, [false, false, true, false, false], [false, false, true, true, false]⟩,
  ⟨false, false, [false, false, true, true, false], [false, false, true, true, false]⟩])
 .ret))))))
theorem enter76 {xs : List Value} {h : Hp} {Q : Value → Hp → Prop} (hl : xs.length ≤ 33) (w : wq E 33 none c76 (frameOf xs) h [] (leaveQ E [.cell 6 107, .cell 7 107, .tmp 8] Q)) : CallP E 76 xs h Q :=
  CallP.enterQ (fn := Try.f76) (fn_get Try.func76) (code := Try.f76.body.get rfl) rfl rfl rfl (by kernel_rfl) rfl (fun _ => rfl) hl w
theorem can76 : callable E 76 = true := callable_get Try.func76 rfl rfl

/-- cmp.Compare[int] -/
def c89 : C := (.seq (.ops [⟨(some 4), .mov (.const (.int .i64 0)), none⟩])
 (.seq (.ops [⟨(some 7), .mov (.tmp 0), none⟩,
  ⟨(some 8), .call 105 [(.tmp 7)], none⟩,
  ⟨(some 5), .mov (.tmp 8), none⟩])
 (.seq (.ops [⟨(some 9), .mov (.tmp 1), none⟩,
  ⟨(some 10), .call 105 [(.tmp 9)], none⟩,
  ⟨(some 6), .mov (.tmp 10), none⟩])
 (.seq (.seq (.ops [⟨(some 11), .mov (.tmp 5), none⟩])
 (.cond (.tmp 11) (.seq (.seq (.ops [⟨(some 12), .mov (.tmp 6), none⟩])
 (.cond (.tmp 12) (.seq (.ops [⟨(some 4), .mov (.const (.int .i64 0)), none⟩])
 .ret)
 .skip))
 (.seq (.ops [⟨(some 4), .mov (.const (.int .i64 (-1))), none⟩])
 .ret))
 .skip))
 (.seq (.seq (.ops [⟨(some 13), .mov (.tmp 6), none⟩])
 (.cond (.tmp 13) (.seq (.ops [⟨(some 4), .mov (.const (.int .i64 1)), none⟩])
 .ret)
 .skip))
 (.seq (.seq (.ops [⟨(some 14), .mov (.tmp 0), none⟩,
  ⟨(some 15), .mov (.tmp 1), none⟩,
  ⟨(some 16), .ar .i64 .lss (.tmp 14) (.tmp 15), none⟩])
 (.cond (.tmp 16) (.seq (.ops [⟨(some 4), .mov (.const (.int .i64 (-1))), none⟩])
 .ret)
 .skip))
 (.seq (.seq (.ops [⟨(some 17), .mov (.tmp 0), none⟩,
  ⟨(some 18), .mov (.tmp 1), none⟩,
  ⟨(some 19), .ar .i64 .gtr (.tmp 17) (.tmp 18), none⟩])
 (.cond (.tmp 19) (.seq (.ops [⟨(some 4), .mov (.const (.int .i64 1)), none⟩])
 .ret)
 .skip))
 (.seq (.ops [⟨(some 4), .mov (.const (.int .i64 0)), none⟩])
 .ret))))))))
theorem enter89 {xs : List Value} {h : Hp} {Q : Value → Hp → Prop} (hl : xs.length ≤ 20) (w : wq E 20 none c89 (frameOf xs) h [] (leaveQ E [.tmp 4] Q)) : CallP E 89 xs h Q :=
  CallP.enterQ (fn := Try.f89) (fn_get Try.func89) (code := Try.f89.body.get rfl) rfl rfl rfl (by kernel_rfl) rfl (fun _ => rfl) hl w
theorem can89 : callable E 89 = true := callable_get Try.func89 rfl rfl

/-- tosher/tally.sum -/
def c90 : C := (.seq (.ops [⟨(some 2), .mov (.const (.int .i64 0)), none⟩])
 (.seq (.ops [⟨(some 3), .mov (.const (.int .i64 0)), none⟩])
 (.seq (.seq (.ops [⟨(some 6), .mov (.tmp 0), none⟩,
  ⟨(some 7), .lenS (.tmp 6), none⟩,
  ⟨(some 8), .mov (.const (.int .i64 0)), none⟩])
 (.block 0 (.loop (.seq (.ops [⟨(some 9), .ar .i64 .lss (.tmp 8) (.tmp 7), none⟩])
 (.seq (.cond (.tmp 9) .skip
 (.exit 0))
 (.seq (.block 1 (.seq (.ops [⟨(some 10), .idxS 1 (.tmp 6) (.tmp 8), none⟩,
  ⟨(some 11), .load1 (.tmp 10), none⟩,
  ⟨(some 5), .mov (.tmp 11), none⟩])
 (.ops [⟨(some 12), .mov (.tmp 3), none⟩,
  ⟨(some 13), .mov (.tmp 5), none⟩,
  ⟨(some 14), .ar .i64 .add (.tmp 12) (.tmp 13), none⟩,
  ⟨(some 3), .mov (.tmp 14), none⟩])))
 (.ops [⟨(some 15), .ar .i64 .add (.tmp 8) (.const (.int .i64 1)), none⟩,
  ⟨(some 8), .mov (.tmp 15), none⟩])))))))
 (.seq (.ops [⟨(some 16), .mov (.tmp 3), none⟩,
  ⟨(some 2), .mov (.tmp 16), none⟩])
 .ret))))
theorem enter90 {xs : List Value} {h : Hp} {Q : Value → Hp → Prop} (hl : xs.length ≤ 17) (w : wq E 17 none c90 (frameOf xs) h [] (leaveQ E [.tmp 2] Q)) : CallP E 90 xs h Q :=
  CallP.enterQ (fn := Try.f90) (fn_get Try.func90) (code := Try.f90.body.get rfl) rfl rfl rfl (by kernel_rfl) rfl (fun _ => rfl) hl w
theorem can90 : callable E 90 = true := callable_get Try.func90 rfl rfl

/-- tosher/tally.isCount$1 -/
def c99 : C := (.seq (.ops [⟨(some 2), .mov (.const (.bool false)), none⟩])
 (.seq (.ops [⟨(some 3), .mov (.tmp 0), none⟩,
  ⟨(some 4), .ar .i64 .lss (.tmp 3) (.const (.int .i64 0)), none⟩,
  ⟨(some 5), .mov (.tmp 4), none⟩,
  ⟨(some 6), .mov (.tmp 0), (some (5, false))⟩,
  ⟨(some 7), .ar .i64 .gtr (.tmp 6) (.const (.int .i64 9)), (some (5, false))⟩,
  ⟨(some 8), .pick (.tmp 5) (.const (.bool true)) (.tmp 7), none⟩,
  ⟨(some 2), .mov (.tmp 8), none⟩])
 .ret))
theorem enter99 {xs : List Value} {h : Hp} {Q : Value → Hp → Prop} (hl : xs.length ≤ 9) (w : wq E 9 none c99 (frameOf xs) h [] (leaveQ E [.tmp 2] Q)) : CallP E 99 xs h Q :=
  CallP.enterQ (fn := Try.f99) (fn_get Try.func99) (code := Try.f99.body.get rfl) rfl rfl rfl (by kernel_rfl) rfl (fun _ => rfl) hl w
theorem can99 : callable E 99 = true := callable_get Try.func99 rfl rfl

/-- slices.ContainsFunc[[]int,int] -/
def c100 : C := (.seq (.ops [⟨(some 4), .mov (.const (.bool false)), none⟩])
 (.seq (.ops [⟨(some 5), .mov (.tmp 0), none⟩,
  ⟨(some 6), .mov (.tmp 1), none⟩,
  ⟨(some 7), .call 112 [(.tmp 5), (.tmp 6)], none⟩,
  ⟨(some 8), .ar .i64 .geq (.tmp 7) (.const (.int .i64 0)), none⟩,
  ⟨(some 4), .mov (.tmp 8), none⟩])
 .ret))
theorem enter100 {xs : List Value} {h : Hp} {Q : Value → Hp → Prop} (hl : xs.length ≤ 9) (w : wq E 9 none c100 (frameOf xs) h [] (leaveQ E [.tmp 4] Q)) : CallP E 100 xs h Q :=
  CallP.enterQ (fn := Try.f100) (fn_get Try.func100) (code := Try.f100.body.get rfl) rfl rfl rfl (by kernel_rfl) rfl (fun _ => rfl) hl w
theorem can100 : callable E 100 = true := callable_get Try.func100 rfl rfl

/-- tosher/tally.crowdOf -/
def c101 : C := (.seq (.ops [⟨(some 2), .alloc 107 [(.int .i64 0), (.int .i64 0), (.int .i64 0), (.int .i64 0), (.int .i64 0)], none⟩])
 (.seq (.ops [⟨(some 3), .alloc 107 [(.int .i64 0), (.int .i64 0), (.int .i64 0), (.int .i64 0), (.int .i64 0)], none⟩])
 (.seq (.ops [⟨(some 4), .cutA 5 1 (.tmp 3) none none none, none⟩,
  ⟨(some 5), .mov (.tmp 0), none⟩,
  ⟨(some 6), .copy 1 (.tmp 4) (.tmp 5), none⟩])
 (.seq (.ops [⟨(some 7), .loadN 5 (.tmp 3), none⟩,
  ⟨none, .store 5 (.tmp 2) (.tmp 7), none⟩])
 .ret))))
theorem enter101 {xs : List Value} {h : Hp} {Q : Value → Hp → Prop} (hl : xs.length ≤ 8) (w : wq E 8 none c101 (frameOf xs) h [] (leaveQ E [.cell 2 107] Q)) : CallP E 101 xs h Q :=
  CallP.enterQ (fn := Try.f101) (fn_get Try.func101) (code := Try.f101.body.get rfl) rfl rfl rfl (by kernel_rfl) rfl (fun _ => rfl) hl w
theorem can101 : callable E 101 = true := callable_get Try.func101 rfl rfl

/-- cmp.isNaN[int] -/
def c105 : C := (.seq (.ops [⟨(some 2), .mov (.const (.bool false)), none⟩])
 (.seq (.ops [⟨(some 3), .mov (.tmp 0), none⟩,
  ⟨(some 4), .mov (.tmp 0), none⟩,
  ⟨(some 5), .ar .i64 .neq (.tmp 3) (.tmp 4), none⟩,
  ⟨(some 2), .mov (.tmp 5), none⟩])
 .ret))
theorem enter105 {xs : List Value} {h : Hp} {Q : Value → Hp → Prop} (hl : xs.length ≤ 6) (w : wq E 6 none c105 (frameOf xs) h [] (leaveQ E [.tmp 2] Q)) : CallP E 105 xs h Q :=
  CallP.enterQ (fn := Try.f105) (fn_get Try.func105) (code := Try.f105.body.get rfl) rfl rfl rfl (by kernel_rfl) rfl (fun _ => rfl) hl w
theorem can105 : callable E 105 = true := callable_get Try.func105 rfl rfl

/-- slices.IndexFunc[[]int,int] -/
def c112 : C := (.seq (.ops [⟨(some 4), .mov (.const (.int .i64 0)), none⟩])
 (.seq (.seq (.ops [⟨(some 6), .mov (.tmp 0), none⟩,
  ⟨(some 7), .lenS (.tmp 6), none⟩,
  ⟨(some 8), .mov (.const (.int .i64 0)), none⟩])
 (.block 0 (.loop (.seq (.ops [⟨(some 9), .ar .i64 .lss (.tmp 8) (.tmp 7), none⟩])
 (.seq (.cond (.tmp 9) .skip
 (.exit 0))
 (.seq (.block 1 (.seq (.ops [⟨(some 10), .mov (.tmp 8), none⟩,
  ⟨(some 5), .mov (.tmp 10), none⟩])
 (.seq (.ops [⟨(some 11), .mov (.tmp 1), none⟩,
  ⟨(some 12), .mov (.tmp 0), none⟩,
  ⟨(some 13), .mov (.tmp 5), none⟩,
  ⟨(some 14), .idxS 1 (.tmp 12) (.tmp 13), none⟩,
  ⟨(some 15), .load1 (.tmp 14), none⟩,
  ⟨(some 16), .callv (.tmp 11) [(.tmp 15)], none⟩])
 (.cond (.tmp 16) (.seq (.ops [⟨(some 17), .mov (.tmp 5), none⟩,
  ⟨(some 4), .mov (.tmp 17), none⟩])
 .ret)
 .skip))))
 (.ops [⟨(some 18), .ar .i64 .add (.tmp 8) (.const (.int .i64 1)), none⟩,
  ⟨(some 8), .mov (.tmp 18), none⟩])))))))
 (.seq (.ops [⟨(some 4), .mov (.const (.int .i64 (-1))), none⟩])
 .ret)))
theorem enter112 {xs : List Value} {h : Hp} {Q : Value → Hp → Prop} (hl : xs.length ≤ 19) (w : wq E 19 none c112 (frameOf xs) h [] (leaveQ E [.tmp 4] Q)) : CallP E 112 xs h Q :=
  CallP.enterQ (fn := Try.f112) (fn_get Try.func112) (code := Try.f112.body.get rfl) rfl rfl rfl (by kernel_rfl) rfl (fun _ => rfl) hl w
theorem can112 : callable E 112 = true := callable_get Try.func112 rfl rfl
end
end Go.Proofs.Ytpiplaicnbapbaa
