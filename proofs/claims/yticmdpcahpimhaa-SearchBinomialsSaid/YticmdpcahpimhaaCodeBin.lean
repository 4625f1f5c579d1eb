/- The code of the functions that Bin comes to. -/
import Derived.Test.YticmdpcahpimhaaTypesC
set_option maxRecDepth 100000
set_option linter.unusedSectionVars false
set_option linter.unusedVariables false
namespace Go.Proofs.Yticmdpcahpimhaa
open Go.Rx Go.RowKit
noncomputable section
variable [Unknowns]
/-- tosher/tosherlaw08.SearchBinomials -/
def c13 : C := (.seq (.ops [⟨(some 6), .mov (.const (.bool false)), none⟩])
 (.seq (.ops [⟨(some 24), .mov (.tmp 0), none⟩,
  ⟨(some 25), .cint .u64 (.tmp 24), none⟩,
  ⟨(some 26), .ar .u64 .rem (.tmp 25) (.const (.int .u64 20)), none⟩,
  ⟨(some 27), .cint .i64 (.tmp 26), none⟩,
  ⟨(some 28), .ar .i64 .add (.const (.int .i64 1)) (.tmp 27), none⟩,
  ⟨(some 29), .mov (.tmp 1), none⟩,
  ⟨(some 30), .cint .u64 (.tmp 29), none⟩,
  ⟨(some 31), .ar .u64 .rem (.tmp 30) (.const (.int .u64 40)), none⟩,
  ⟨(some 32), .cint .i64 (.tmp 31), none⟩,
  ⟨(some 0), .mov (.tmp 28), none⟩,
  ⟨(some 1), .mov (.tmp 32), none⟩])
 (.seq (.ops [⟨(some 34), .mov (.tmp 0), none⟩,
  ⟨(some 35), .mov (.tmp 1), none⟩,
  ⟨(some 36), .call 49 [(.tmp 34), (.tmp 35)], none⟩,
  ⟨(some 33), .mov (.tmp 36), none⟩,
  ⟨(some 37), .ext (.tmp 33) 0, none⟩,
  ⟨(some 38), .ext (.tmp 33) 1, none⟩,
  ⟨(some 7), .mov (.tmp 37), none⟩,
  ⟨(some 8), .mov (.tmp 38), none⟩])
 (.seq (.ops [⟨(some 9), .mov (.const (.int .i64 0)), none⟩,
  ⟨(some 10), .mov (.const (.int .i64 1)), none⟩])
 (.seq (.seq (.ops [⟨(some 11), .mov (.const (.int .i64 1)), none⟩])
 (.block 0 (.loop (.seq (.seq (.ops [⟨(some 39), .mov (.tmp 11), none⟩,
  ⟨(some 40), .mov (.tmp 0), none⟩,
  ⟨(some 41), .ar .i64 .leq (.tmp 39) (.tmp 40), none⟩])
 (.cond (.tmp 41) .skip
 (.exit 0)))
 (.seq (.block 1 (.seq (.ops [⟨(some 44), .mov (.tmp 10), none⟩,
  ⟨(some 45), .mov (.tmp 1), none⟩,
  ⟨(some 46), .mov (.tmp 11), none⟩,
  ⟨(some 47), .ar .i64 .sub (.tmp 45) (.tmp 46), none⟩,
  ⟨(some 48), .ar .i64 .add (.tmp 47) (.const (.int .i64 1)), none⟩,
  ⟨(some 49), .ar .i64 .mul (.tmp 44) (.tmp 48), none⟩,
  ⟨(some 50), .mov (.tmp 11), none⟩,
  ⟨(some 51), .ar .i64 .quo (.tmp 49) (.tmp 50), none⟩,
  ⟨(some 10), .mov (.tmp 51), none⟩])
 (.ops [⟨(some 52), .mov (.tmp 9), none⟩,
  ⟨(some 53), .mov (.tmp 10), none⟩,
  ⟨(some 54), .ar .i64 .add (.tmp 52) (.tmp 53), none⟩,
  ⟨(some 9), .mov (.tmp 54), none⟩])))
 (.ops [⟨(some 42), .mov (.tmp 11), none⟩,
  ⟨(some 43), .ar .i64 .add (.tmp 42) (.const (.int .i64 1)), none⟩,
  ⟨(some 11), .mov (.tmp 43), none⟩]))))))
 (.seq (.seq (.ops [⟨(some 55), .mov (.tmp 8), none⟩,
  ⟨(some 56), .ar .i64 .neq (.tmp 55) (.const (.int .i64 0)), none⟩,
  ⟨(some 57), .mov (.tmp 56), none⟩,
  ⟨(some 58), .mov (.tmp 7), (some (57, false))⟩,
  ⟨(some 59), .mov (.tmp 9), (some (57, false))⟩,
  ⟨(some 60), .ar .i64 .neq (.tmp 58) (.tmp 59), (some (57, false))⟩,
  ⟨(some 61), .pick (.tmp 57) (.const (.bool true)) (.tmp 60), none⟩])
 (.cond (.tmp 61) (.seq (.ops [⟨(some 6), .mov (.const (.bool false)), none⟩])
 .ret)
 .skip))
 (.seq (.ops [⟨(some 62), .mov (.tmp 2), none⟩,
  ⟨(some 63), .cint .u64 (.tmp 62), none⟩,
  ⟨(some 64), .ar .u64 .rem (.tmp 63) (.const (.int .u64 1000000000000)), none⟩,
  ⟨(some 65), .cint .i64 (.tmp 64), none⟩,
  ⟨(some 66), .ar .i64 .add (.const (.int .i64 1)) (.tmp 65), none⟩,
  ⟨(some 2), .mov (.tmp 66), none⟩])
 (.seq (.ops [⟨(some 68), .mov (.tmp 0), none⟩,
  ⟨(some 69), .mov (.tmp 2), none⟩,
  ⟨(some 70), .call 51 [(.tmp 68), (.tmp 69)], none⟩,
  ⟨(some 67), .mov (.tmp 70), none⟩,
  ⟨(some 71), .ext (.tmp 67) 0, none⟩,
  ⟨(some 72), .ext (.tmp 67) 1, none⟩,
  ⟨(some 12), .mov (.tmp 71), none⟩,
  ⟨(some 13), .mov (.tmp 72), none⟩])
 (.seq (.seq (.ops [⟨(some 73), .mov (.tmp 13), none⟩,
  ⟨(some 74), .ar .i64 .neq (.tmp 73) (.const (.int .i64 0)), none⟩])
 (.cond (.tmp 74) (.seq (.ops [⟨(some 76), .mov (.tmp 0), none⟩,
  ⟨(some 77), .call 49 [(.tmp 76), (.const (.int .i64 60))], none⟩,
  ⟨(some 75), .mov (.tmp 77), none⟩,
  ⟨(some 78), .ext (.tmp 75) 0, none⟩,
  ⟨(some 79), .ext (.tmp 75) 1, none⟩,
  ⟨(some 14), .mov (.tmp 78), none⟩,
  ⟨(some 15), .mov (.tmp 79), none⟩])
 (.seq (.ops [⟨(some 80), .mov (.tmp 13), none⟩,
  ⟨(some 81), .ar .i64 .eql (.tmp 80) (.const (.int .i64 8)), none⟩,
  ⟨(some 82), .mov (.tmp 81), none⟩,
  ⟨(some 83), .mov (.tmp 15), (some (82, true))⟩,
  ⟨(some 84), .ar .i64 .eql (.tmp 83) (.const (.int .i64 0)), (some (82, true))⟩,
  ⟨(some 85), .pick (.tmp 82) (.tmp 84) (.const (.bool false)), none⟩,
  ⟨(some 86), .mov (.tmp 85), none⟩,
  ⟨(some 87), .mov (.tmp 14), (some (86, true))⟩,
  ⟨(some 88), .mov (.tmp 2), (some (86, true))⟩,
  ⟨(some 89), .ar .i64 .lss (.tmp 87) (.tmp 88), (some (86, true))⟩,
  ⟨(some 90), .pick (.tmp 86) (.tmp 89) (.const (.bool false)), none⟩,
  ⟨(some 91), .mov (.tmp 90), none⟩,
  ⟨(some 92), .call 27 [], (some (91, true))⟩,
  ⟨(some 93), .pick (.tmp 91) (.tmp 92) (.const (.bool false)), none⟩,
  ⟨(some 6), .mov (.tmp 93), none⟩])
 .ret))
 .skip))
 (.seq (.seq (.ops [⟨(some 94), .mov (.tmp 12), none⟩,
  ⟨(some 95), .ar .i64 .lss (.tmp 94) (.const (.int .i64 1)), none⟩,
  ⟨(some 96), .mov (.tmp 95), none⟩,
  ⟨(some 97), .mov (.tmp 12), (some (96, false))⟩,
  ⟨(some 98), .ar .i64 .gtr (.tmp 97) (.const (.int .i64 60)), (some (96, false))⟩,
  ⟨(some 99), .pick (.tmp 96) (.const (.bool true)) (.tmp 98), none⟩])
 (.cond (.tmp 99) (.seq (.ops [⟨(some 6), .mov (.const (.bool false)), none⟩])
 .ret)
 .skip))
 (.seq (.ops [⟨(some 101), .mov (.tmp 0), none⟩,
  ⟨(some 102), .mov (.tmp 12), none⟩,
  ⟨(some 103), .call 49 [(.tmp 101), (.tmp 102)], none⟩,
  ⟨(some 100), .mov (.tmp 103), none⟩,
  ⟨(some 104), .ext (.tmp 100) 0, none⟩,
  ⟨(some 105), .ext (.tmp 100) 1, none⟩,
  ⟨(some 16), .mov (.tmp 104), none⟩,
  ⟨(some 17), .mov (.tmp 105), none⟩])
 (.seq (.ops [⟨(some 107), .mov (.tmp 0), none⟩,
  ⟨(some 108), .mov (.tmp 12), none⟩,
  ⟨(some 109), .ar .i64 .sub (.tmp 108) (.const (.int .i64 1)), none⟩,
  ⟨(some 110), .call 49 [(.tmp 107), (.tmp 109)], none⟩,
  ⟨(some 106), .mov (.tmp 110), none⟩,
  ⟨(some 111), .ext (.tmp 106) 0, none⟩,
  ⟨(some 112), .ext (.tmp 106) 1, none⟩,
  ⟨(some 18), .mov (.tmp 111), none⟩,
  ⟨(some 19), .mov (.tmp 112), none⟩])
 (.seq (.ops [⟨(some 114), .mov (.tmp 0), none⟩,
  ⟨(some 115), .ar .i64 .sub (.tmp 114) (.const (.int .i64 1)), none⟩,
  ⟨(some 116), .mov (.tmp 12), none⟩,
  ⟨(some 117), .ar .i64 .sub (.tmp 116) (.const (.int .i64 1)), none⟩,
  ⟨(some 118), .call 49 [(.tmp 115), (.tmp 117)], none⟩,
  ⟨(some 113), .mov (.tmp 118), none⟩,
  ⟨(some 119), .ext (.tmp 113) 0, none⟩,
  ⟨(some 120), .ext (.tmp 113) 1, none⟩,
  ⟨(some 20), .mov (.tmp 119), none⟩,
  ⟨(some 21), .mov (.tmp 120), none⟩])
 (.seq (.ops [⟨(some 122), .mov (.tmp 0), none⟩,
  ⟨(some 123), .mov (.tmp 2), none⟩,
  ⟨(some 124), .call 52 [(.tmp 122), (.tmp 123)], none⟩,
  ⟨(some 121), .mov (.tmp 124), none⟩,
  ⟨(some 125), .ext (.tmp 121) 0, none⟩,
  ⟨(some 126), .ext (.tmp 121) 1, none⟩,
  ⟨(some 22), .mov (.tmp 125), none⟩,
  ⟨(some 23), .mov (.tmp 126), none⟩])
 (.seq (.ops [⟨(some 127), .mov (.tmp 17), none⟩,
  ⟨(some 128), .ar .i64 .eql (.tmp 127) (.const (.int .i64 0)), none⟩,
  ⟨(some 129), .mov (.tmp 128), none⟩,
  ⟨(some 130), .mov (.tmp 19), (some (129, true))⟩,
  ⟨(some 131), .ar .i64 .eql (.tmp 130) (.const (.int .i64 0)), (some (129, true))⟩,
  ⟨(some 132), .pick (.tmp 129) (.tmp 131) (.const (.bool false)), none⟩,
  ⟨(some 133), .mov (.tmp 132), none⟩,
  ⟨(some 134), .mov (.tmp 21), (some (133, true))⟩,
  ⟨(some 135), .ar .i64 .eql (.tmp 134) (.const (.int .i64 0)), (some (133, true))⟩,
  ⟨(some 136), .pick (.tmp 133) (.tmp 135) (.const (.bool false)), none⟩,
  ⟨(some 137), .mov (.tmp 136), none⟩,
  ⟨(some 138), .mov (.tmp 23), (some (137, true))⟩,
  ⟨(some 139), .ar .i64 .eql (.tmp 138) (.const (.int .i64 0)), (some (137, true))⟩,
  ⟨(some 140), .pick (.tmp 137) (.tmp 139) (.const (.bool false)), none⟩,
  ⟨(some 141), .mov (.tmp 140), none⟩,
  ⟨(some 142), .mov (.tmp 16), (some (141, true))⟩,
  ⟨(some 143), .mov (.tmp 2), (some (141, true))⟩,
  ⟨(some 144), .ar .i64 .geq (.tmp 142) (.tmp 143), (some (141, true))⟩,
  ⟨(some 145), .pick (.tmp 141) (.tmp 144) (.const (.bool false)), none⟩,
  ⟨(some 146), .mov (.tmp 145), none⟩,
  ⟨(some 147), .mov (.tmp 18), (some (146, true))⟩,
  ⟨(some 148), .mov (.tmp 2), (some (146, true))⟩,
  ⟨(some 149), .ar .i64 .lss (.tmp 147) (.tmp 148), (some (146, true))⟩,
  ⟨(some 150), .pick (.tmp 146) (.tmp 149) (.const (.bool false)), none⟩,
  ⟨(some 151), .mov (.tmp 150), none⟩,
  ⟨(some 152), .mov (.tmp 22), (some (151, true))⟩,
  ⟨(some 153), .ar .i64 .geq (.tmp 152) (.const (.int .i64 1)), (some (151, true))⟩,
  ⟨(some 154), .pick (.tmp 151) (.tmp 153) (.const (.bool false)), none⟩,
  ⟨(some 155), .mov (.tmp 154), none⟩,
  ⟨(some 156), .mov (.tmp 22), (some (155, true))⟩,
  ⟨(some 157), .mov (.tmp 2), (some (155, true))⟩,
  ⟨(some 158), .ar .i64 .leq (.tmp 156) (.tmp 157), (some (155, true))⟩,
  ⟨(some 159), .pick (.tmp 155) (.tmp 158) (.const (.bool false)), none⟩,
  ⟨(some 160), .mov (.tmp 159), none⟩,
  ⟨(some 161), .mov (.tmp 22), (some (160, true))⟩,
  ⟨(some 162), .ar .i64 .sub (.tmp 161) (.const (.int .i64 1)), (some (160, true))⟩,
  ⟨(some 163), .mov (.tmp 20), (some (160, true))⟩,
  ⟨(some 164), .ar .i64 .leq (.tmp 162) (.tmp 163), (some (160, true))⟩,
  ⟨(some 165), .pick (.tmp 160) (.tmp 164) (.const (.bool false)), none⟩,
  ⟨(some 166), .mov (.tmp 165), none⟩,
  ⟨(some 167), .mov (.tmp 2), (some (166, true))⟩,
  ⟨(some 168), .mov (.tmp 22), (some (166, true))⟩,
  ⟨(some 169), .ar .i64 .sub (.tmp 167) (.tmp 168), (some (166, true))⟩,
  ⟨(some 170), .mov (.tmp 18), (some (166, true))⟩,
  ⟨(some 171), .ar .i64 .leq (.tmp 169) (.tmp 170), (some (166, true))⟩,
  ⟨(some 172), .pick (.tmp 166) (.tmp 171) (.const (.bool false)), none⟩,
  ⟨(some 173), .mov (.tmp 172), none⟩,
  ⟨(some 174), .call 27 [], (some (173, true))⟩,
  ⟨(some 175), .pick (.tmp 173) (.tmp 174) (.const (.bool false)), none⟩,
  ⟨(some 6), .mov (.tmp 175), none⟩])
 .ret)))))))))))))))
theorem enter13 {xs : List Value} {h : Hp} {Q : Value → Hp → Prop} (hl : xs.length ≤ 176) (w : wq E 176 none c13 (frameOf xs) h [] (leaveQ E [.tmp 6] Q)) : CallP E 13 xs h Q :=
  CallP.enterQ (fn := Try.f13) (fn_get Try.func13) (code := Try.f13.body.get rfl) rfl rfl rfl (by kernel_rfl) rfl (fun _ => rfl) hl w
theorem can13 : callable E 13 = true := callable_get Try.func13 rfl rfl

theorem memo27 {h : Hp} {Q : Value → Hp → Prop} (q : Q (.bool true) h) : CallP E 27 [] h Q := CallP.memo rfl q

/-- tosher/search.Steps -/
def c49 : C := (.seq (.ops [⟨(some 4), .mov (.const (.int .i64 0)), none⟩,
  ⟨(some 5), .mov (.const (.int .i64 0)), none⟩])
 (.seq (.seq (.ops [⟨(some 6), .mov (.tmp 0), none⟩,
  ⟨(some 7), .slit 3 1 [(.int .i64 0)] [(0, 1, (.tmp 6))], none⟩,
  ⟨(some 8), .call 55 [(.const (.int .i64 0)), (.const (.int .i64 20)), (.tmp 7)], none⟩,
  ⟨(some 9), .not (.tmp 8), none⟩,
  ⟨(some 10), .mov (.tmp 9), none⟩,
  ⟨(some 11), .mov (.tmp 1), (some (10, false))⟩,
  ⟨(some 12), .slit 3 1 [(.int .i64 0)] [(0, 1, (.tmp 11))], (some (10, false))⟩,
  ⟨(some 13), .call 55 [(.const (.int .i64 0)), (.const (.int .i64 60)), (.tmp 12)], (some (10, false))⟩,
  ⟨(some 14), .not (.tmp 13), (some (10, false))⟩,
  ⟨(some 15), .pick (.tmp 10) (.const (.bool true)) (.tmp 14), none⟩])
 (.cond (.tmp 15) (.seq (.ops [⟨(some 4), .mov (.const (.int .i64 0)), none⟩,
  ⟨(some 5), .mov (.const (.int .i64 1)), none⟩])
 .ret)
 .skip))
 (.seq (.ops [⟨(some 16), .mov (.tmp 0), none⟩,
  ⟨(some 17), .mov (.tmp 1), none⟩,
  ⟨(some 18), .call 75 [(.tmp 16), (.tmp 17)], none⟩,
  ⟨(some 4), .mov (.tmp 18), none⟩,
  ⟨(some 5), .mov (.const (.int .i64 0)), none⟩])
 .ret)))
theorem enter49 {xs : List Value} {h : Hp} {Q : Value → Hp → Prop} (hl : xs.length ≤ 19) (w : wq E 19 none c49 (frameOf xs) h [] (leaveQ E [.tmp 4, .tmp 5] Q)) : CallP E 49 xs h Q :=
  CallP.enterQ (fn := Try.f49) (fn_get Try.func49) (code := Try.f49.body.get rfl) rfl rfl rfl (by kernel_rfl) rfl (fun _ => rfl) hl w
theorem can49 : callable E 49 = true := callable_get Try.func49 rfl rfl

/-- tosher/tosherref08.Steps -/
def c50 : C := (.seq (.ops [⟨(some 4), .mov (.const (.int .i64 0)), none⟩])
 (.seq (.ops [⟨(some 8), .mov (.tmp 0), none⟩,
  ⟨(some 9), .ar .i64 .add (.tmp 8) (.const (.int .i64 1)), none⟩,
  ⟨(some 10), .make 2 [(.int .i64 0)] 8 (.tmp 9) (.tmp 9), none⟩,
  ⟨(some 5), .mov (.tmp 10), none⟩])
 (.seq (.seq (.ops [⟨(some 6), .mov (.const (.int .i64 0)), none⟩])
 (.block 0 (.loop (.seq (.seq (.ops [⟨(some 11), .mov (.tmp 6), none⟩,
  ⟨(some 12), .mov (.tmp 1), none⟩,
  ⟨(some 13), .ar .i64 .lss (.tmp 11) (.tmp 12), none⟩])
 (.cond (.tmp 13) .skip
 (.exit 0)))
 (.seq (.block 1 (.seq (.ops [⟨(some 16), .mov (.tmp 0), none⟩,
  ⟨(some 7), .mov (.tmp 16), none⟩])
 (.block 2 (.loop (.seq (.seq (.ops [⟨(some 17), .mov (.tmp 7), none⟩,
  ⟨(some 18), .ar .i64 .geq (.tmp 17) (.const (.int .i64 1)), none⟩])
 (.cond (.tmp 18) .skip
 (.exit 2)))
 (.seq (.block 3 (.ops [⟨(some 21), .mov (.tmp 5), none⟩,
  ⟨(some 22), .mov (.tmp 7), none⟩,
  ⟨(some 23), .mov (.tmp 5), none⟩,
  ⟨(some 24), .mov (.tmp 7), none⟩,
  ⟨(some 25), .idxS 1 (.tmp 23) (.tmp 24), none⟩,
  ⟨(some 26), .load1 (.tmp 25), none⟩,
  ⟨(some 27), .ar .i64 .add (.tmp 26) (.const (.int .i64 1)), none⟩,
  ⟨(some 28), .mov (.tmp 5), none⟩,
  ⟨(some 29), .mov (.tmp 7), none⟩,
  ⟨(some 30), .ar .i64 .sub (.tmp 29) (.const (.int .i64 1)), none⟩,
  ⟨(some 31), .idxS 1 (.tmp 28) (.tmp 30), none⟩,
  ⟨(some 32), .load1 (.tmp 31), none⟩,
  ⟨(some 33), .ar .i64 .add (.tmp 27) (.tmp 32), none⟩,
  ⟨(some 34), .idxS 1 (.tmp 21) (.tmp 22), none⟩,
  ⟨none, .store 1 (.tmp 34) (.tmp 33), none⟩]))
 (.ops [⟨(some 19), .mov (.tmp 7), none⟩,
  ⟨(some 20), .ar .i64 .sub (.tmp 19) (.const (.int .i64 1)), none⟩,
  ⟨(some 7), .mov (.tmp 20), none⟩])))))))
 (.ops [⟨(some 14), .mov (.tmp 6), none⟩,
  ⟨(some 15), .ar .i64 .add (.tmp 14) (.const (.int .i64 1)), none⟩,
  ⟨(some 6), .mov (.tmp 15), none⟩]))))))
 (.seq (.ops [⟨(some 35), .mov (.tmp 5), none⟩,
  ⟨(some 36), .mov (.tmp 0), none⟩,
  ⟨(some 37), .idxS 1 (.tmp 35) (.tmp 36), none⟩,
  ⟨(some 38), .load1 (.tmp 37), none⟩,
  ⟨(some 4), .mov (.tmp 38), none⟩])
 .ret))))
theorem enter50 {xs : List Value} {h : Hp} {Q : Value → Hp → Prop} (hl : xs.length ≤ 39) (w : wq E 39 none c50 (frameOf xs) h [] (leaveQ E [.tmp 4] Q)) : CallP E 50 xs h Q :=
  CallP.enterQ (fn := Try.f50) (fn_get Try.func50) (code := Try.f50.body.get rfl) rfl rfl rfl (by kernel_rfl) rfl (fun _ => rfl) hl w
theorem can50 : callable E 50 = true := callable_get Try.func50 rfl rfl

/-- tosher/search.Tries -/
def c51 : C := (.seq (.ops [⟨(some 4), .mov (.const (.int .i64 0)), none⟩,
  ⟨(some 5), .mov (.const (.int .i64 0)), none⟩])
 (.seq (.seq (.ops [⟨(some 7), .mov (.tmp 0), none⟩,
  ⟨(some 8), .slit 3 1 [(.int .i64 0)] [(0, 1, (.tmp 7))], none⟩,
  ⟨(some 9), .call 55 [(.const (.int .i64 1)), (.const (.int .i64 20)), (.tmp 8)], none⟩,
  ⟨(some 10), .not (.tmp 9), none⟩,
  ⟨(some 11), .mov (.tmp 10), none⟩,
  ⟨(some 12), .mov (.tmp 1), (some (11, false))⟩,
  ⟨(some 13), .ar .i64 .lss (.tmp 12) (.const (.int .i64 0)), (some (11, false))⟩,
  ⟨(some 14), .pick (.tmp 11) (.const (.bool true)) (.tmp 13), none⟩,
  ⟨(some 15), .mov (.tmp 14), none⟩,
  ⟨(some 16), .mov (.tmp 1), (some (15, false))⟩,
  ⟨(some 17), .ar .i64 .gtr (.tmp 16) (.const (.int .i64 1000000000000)), (some (15, false))⟩,
  ⟨(some 18), .pick (.tmp 15) (.const (.bool true)) (.tmp 17), none⟩])
 (.cond (.tmp 18) (.seq (.ops [⟨(some 4), .mov (.const (.int .i64 0)), none⟩,
  ⟨(some 5), .mov (.const (.int .i64 1)), none⟩])
 .ret)
 .skip))
 (.seq (.seq (.ops [⟨(some 19), .mov (.const (.int .i64 0)), none⟩])
 (.block 0 (.loop (.seq (.ops [⟨(some 20), .ar .i64 .lss (.tmp 19) (.const (.int .i64 61)), none⟩])
 (.seq (.cond (.tmp 20) .skip
 (.exit 0))
 (.seq (.block 1 (.seq (.ops [⟨(some 21), .mov (.tmp 19), none⟩,
  ⟨(some 6), .mov (.tmp 21), none⟩])
 (.seq (.ops [⟨(some 22), .mov (.tmp 0), none⟩,
  ⟨(some 23), .mov (.tmp 6), none⟩,
  ⟨(some 24), .call 75 [(.tmp 22), (.tmp 23)], none⟩,
  ⟨(some 25), .mov (.tmp 1), none⟩,
  ⟨(some 26), .ar .i64 .geq (.tmp 24) (.tmp 25), none⟩])
 (.cond (.tmp 26) (.seq (.ops [⟨(some 27), .mov (.tmp 6), none⟩,
  ⟨(some 4), .mov (.tmp 27), none⟩,
  ⟨(some 5), .mov (.const (.int .i64 0)), none⟩])
 .ret)
 .skip))))
 (.ops [⟨(some 28), .ar .i64 .add (.tmp 19) (.const (.int .i64 1)), none⟩,
  ⟨(some 19), .mov (.tmp 28), none⟩])))))))
 (.seq (.ops [⟨(some 4), .mov (.const (.int .i64 0)), none⟩,
  ⟨(some 5), .mov (.const (.int .i64 8)), none⟩])
 .ret))))
theorem enter51 {xs : List Value} {h : Hp} {Q : Value → Hp → Prop} (hl : xs.length ≤ 29) (w : wq E 29 none c51 (frameOf xs) h [] (leaveQ E [.tmp 4, .tmp 5] Q)) : CallP E 51 xs h Q :=
  CallP.enterQ (fn := Try.f51) (fn_get Try.func51) (code := Try.f51.body.get rfl) rfl rfl rfl (by kernel_rfl) rfl (fun _ => rfl) hl w
theorem can51 : callable E 51 = true := callable_get Try.func51 rfl rfl

/-- tosher/search.Drop -/
def c52 : C := (.seq (.ops [⟨(some 4), .mov (.const (.int .i64 0)), none⟩,
  ⟨(some 5), .mov (.const (.int .i64 0)), none⟩])
 (.seq (.ops [⟨(some 9), .mov (.tmp 0), none⟩,
  ⟨(some 10), .mov (.tmp 1), none⟩,
  ⟨(some 11), .call 51 [(.tmp 9), (.tmp 10)], none⟩,
  ⟨(some 8), .mov (.tmp 11), none⟩,
  ⟨(some 12), .ext (.tmp 8) 0, none⟩,
  ⟨(some 13), .ext (.tmp 8) 1, none⟩,
  ⟨(some 6), .mov (.tmp 12), none⟩,
  ⟨(some 7), .mov (.tmp 13), none⟩])
 (.seq (.seq (.ops [⟨(some 14), .mov (.tmp 7), none⟩,
  ⟨(some 15), .ar .i64 .neq (.tmp 14) (.const (.int .i64 0)), none⟩])
 (.cond (.tmp 15) (.seq (.ops [⟨(some 16), .mov (.tmp 7), none⟩,
  ⟨(some 4), .mov (.const (.int .i64 0)), none⟩,
  ⟨(some 5), .mov (.tmp 16), none⟩])
 .ret)
 .skip))
 (.seq (.seq (.ops [⟨(some 17), .mov (.tmp 1), none⟩,
  ⟨(some 18), .ar .i64 .eql (.tmp 17) (.const (.int .i64 0)), none⟩])
 (.cond (.tmp 18) (.seq (.ops [⟨(some 4), .mov (.const (.int .i64 0)), none⟩,
  ⟨(some 5), .mov (.const (.int .i64 1)), none⟩])
 .ret)
 .skip))
 (.seq (.ops [⟨(some 19), .mov (.tmp 1), none⟩,
  ⟨(some 20), .mov (.tmp 0), none⟩,
  ⟨(some 21), .mov (.tmp 6), none⟩,
  ⟨(some 22), .ar .i64 .sub (.tmp 21) (.const (.int .i64 1)), none⟩,
  ⟨(some 23), .call 75 [(.tmp 20), (.tmp 22)], none⟩,
  ⟨(some 24), .ar .i64 .sub (.tmp 19) (.tmp 23), none⟩,
  ⟨(some 4), .mov (.tmp 24), none⟩,
  ⟨(some 5), .mov (.const (.int .i64 0)), none⟩])
 .ret)))))
theorem enter52 {xs : List Value} {h : Hp} {Q : Value → Hp → Prop} (hl : xs.length ≤ 25) (w : wq E 25 none c52 (frameOf xs) h [] (leaveQ E [.tmp 4, .tmp 5] Q)) : CallP E 52 xs h Q :=
  CallP.enterQ (fn := Try.f52) (fn_get Try.func52) (code := Try.f52.body.get rfl) rfl rfl rfl (by kernel_rfl) rfl (fun _ => rfl) hl w
theorem can52 : callable E 52 = true := callable_get Try.func52 rfl rfl

/-- tosher/tosherref08.Tries -/
def c53 : C := (.seq (.ops [⟨(some 4), .mov (.const (.int .i64 0)), none⟩])
 (.seq (.seq (.ops [⟨(some 5), .mov (.const (.int .i64 0)), none⟩])
 (.block 0 (.loop (.seq (.seq (.ops [⟨(some 6), .mov (.tmp 5), none⟩,
  ⟨(some 7), .ar .i64 .leq (.tmp 6) (.const (.int .i64 60)), none⟩])
 (.cond (.tmp 7) .skip
 (.exit 0)))
 (.seq (.block 1 (.seq (.ops [⟨(some 10), .mov (.tmp 0), none⟩,
  ⟨(some 11), .mov (.tmp 5), none⟩,
  ⟨(some 12), .call 50 [(.tmp 10), (.tmp 11)], none⟩,
  ⟨(some 13), .mov (.tmp 1), none⟩,
  ⟨(some 14), .ar .i64 .geq (.tmp 12) (.tmp 13), none⟩])
 (.cond (.tmp 14) (.seq (.ops [⟨(some 15), .mov (.tmp 5), none⟩,
  ⟨(some 4), .mov (.tmp 15), none⟩])
 .ret)
 .skip)))
 (.ops [⟨(some 8), .mov (.tmp 5), none⟩,
  ⟨(some 9), .ar .i64 .add (.tmp 8) (.const (.int .i64 1)), none⟩,
  ⟨(some 5), .mov (.tmp 9), none⟩]))))))
 (.seq (.ops [⟨(some 4), .mov (.const (.int .i64 (-1))), none⟩])
 .ret)))
theorem enter53 {xs : List Value} {h : Hp} {Q : Value → Hp → Prop} (hl : xs.length ≤ 16) (w : wq E 16 none c53 (frameOf xs) h [] (leaveQ E [.tmp 4] Q)) : CallP E 53 xs h Q :=
  CallP.enterQ (fn := Try.f53) (fn_get Try.func53) (code := Try.f53.body.get rfl) rfl rfl rfl (by kernel_rfl) rfl (fun _ => rfl) hl w
theorem can53 : callable E 53 = true := callable_get Try.func53 rfl rfl

/-- tosher/search.isWithin -/
def c55 : C := (.seq (.ops [⟨(some 6), .mov (.const (.bool false)), none⟩])
 (.seq (.seq (.ops [⟨(some 9), .mov (.tmp 2), none⟩,
  ⟨(some 10), .lenS (.tmp 9), none⟩,
  ⟨(some 11), .mov (.const (.int .i64 0)), none⟩])
 (.block 0 (.loop (.seq (.ops [⟨(some 12), .ar .i64 .lss (.tmp 11) (.tmp 10), none⟩])
 (.seq (.cond (.tmp 12) .skip
 (.exit 0))
 (.seq (.block 1 (.seq (.ops [⟨(some 13), .idxS 1 (.tmp 9) (.tmp 11), none⟩,
  ⟨(some 14), .load1 (.tmp 13), none⟩,
  ⟨(some 8), .mov (.tmp 14), none⟩])
 (.seq (.ops [⟨(some 15), .mov (.tmp 8), none⟩,
  ⟨(some 16), .mov (.tmp 0), none⟩,
  ⟨(some 17), .ar .i64 .lss (.tmp 15) (.tmp 16), none⟩,
  ⟨(some 18), .mov (.tmp 17), none⟩,
  ⟨(some 19), .mov (.tmp 8), (some (18, false))⟩,
  ⟨(some 20), .mov (.tmp 1), (some (18, false))⟩,
  ⟨(some 21), .ar .i64 .gtr (.tmp 19) (.tmp 20), (some (18, false))⟩,
  ⟨(some 22), .pick (.tmp 18) (.const (.bool true)) (.tmp 21), none⟩])
 (.cond (.tmp 22) (.seq (.ops [⟨(some 6), .mov (.const (.bool false)), none⟩])
 .ret)
 .skip))))
 (.ops [⟨(some 23), .ar .i64 .add (.tmp 11) (.const (.int .i64 1)), none⟩,
  ⟨(some 11), .mov (.tmp 23), none⟩])))))))
 (.seq (.ops [⟨(some 6), .mov (.const (.bool true)), none⟩])
 .ret)))
theorem enter55 {xs : List Value} {h : Hp} {Q : Value → Hp → Prop} (hl : xs.length ≤ 24) (w : wq E 24 none c55 (frameOf xs) h [] (leaveQ E [.tmp 6] Q)) : CallP E 55 xs h Q :=
  CallP.enterQ (fn := Try.f55) (fn_get Try.func55) (code := Try.f55.body.get rfl) rfl rfl rfl (by kernel_rfl) rfl (fun _ => rfl) hl w
theorem can55 : callable E 55 = true := callable_get Try.func55 rfl rfl

/-- tosher/search.reach -/
def c75 : C := (.seq (.ops [⟨(some 4), .mov (.const (.int .i64 0)), none⟩])
 (.seq (.ops [⟨(some 5), .alloc 128 [(.int .i64 0), (.int .i64 0), (.int .i64 0), (.int .i64 0), (.int .i64 0), (.int .i64 0), (.int .i64 0), (.int .i64 0), (.int .i64 0), (.int .i64 0), (.int .i64 0), (.int .i64 0), (.int .i64 0), (.int .i64 0), (.int .i64 0), (.int .i64 0), (.int .i64 0), (.int .i64 0), (.int .i64 0), (.int .i64 0), (.int .i64 0)], none⟩])
 (.seq (.seq (.ops [⟨(some 7), .mov (.tmp 1), none⟩,
  ⟨(some 8), .mov (.const (.int .i64 0)), none⟩])
 (.block 0 (.loop (.seq (.ops [⟨(some 9), .ar .i64 .lss (.tmp 8) (.tmp 7), none⟩])
 (.seq (.cond (.tmp 9) .skip
 (.exit 0))
 (.seq (.block 1 (.seq (.ops [⟨(some 10), .mov (.tmp 0), none⟩,
  ⟨(some 6), .mov (.tmp 10), none⟩])
 (.block 2 (.loop (.seq (.seq (.ops [⟨(some 11), .mov (.tmp 6), none⟩,
  ⟨(some 12), .ar .i64 .gtr (.tmp 11) (.const (.int .i64 0)), none⟩])
 (.cond (.tmp 12) .skip
 (.exit 2)))
 (.seq (.block 3 (.ops [⟨(some 15), .mov (.tmp 6), none⟩,
  ⟨(some 16), .idxA 21 1 (.tmp 5) (.tmp 15), none⟩,
  ⟨(some 17), .load1 (.tmp 16), none⟩,
  ⟨(some 18), .mov (.tmp 6), none⟩,
  ⟨(some 19), .ar .i64 .sub (.tmp 18) (.const (.int .i64 1)), none⟩,
  ⟨(some 20), .idxA 21 1 (.tmp 5) (.tmp 19), none⟩,
  ⟨(some 21), .load1 (.tmp 20), none⟩,
  ⟨(some 22), .ar .i64 .add (.tmp 21) (.const (.int .i64 1)), none⟩,
  ⟨(some 23), .ar .i64 .add (.tmp 17) (.tmp 22), none⟩,
  ⟨(some 24), .idxA 21 1 (.tmp 5) (.tmp 15), none⟩,
  ⟨none, .store 1 (.tmp 24) (.tmp 23), none⟩]))
 (.ops [⟨(some 13), .mov (.tmp 6), none⟩,
  ⟨(some 14), .ar .i64 .sub (.tmp 13) (.const (.int .i64 1)), none⟩,
  ⟨(some 6), .mov (.tmp 14), none⟩])))))))
 (.ops [⟨(some 25), .ar .i64 .add (.tmp 8) (.const (.int .i64 1)), none⟩,
  ⟨(some 8), .mov (.tmp 25), none⟩])))))))
 (.seq (.ops [⟨(some 26), .mov (.tmp 0), none⟩,
  ⟨(some 27), .idxA 21 1 (.tmp 5) (.tmp 26), none⟩,
  ⟨(some 28), .load1 (.tmp 27), none⟩,
  ⟨(some 4), .mov (.tmp 28), none⟩])
 .ret))))
theorem enter75 {xs : List Value} {h : Hp} {Q : Value → Hp → Prop} (hl : xs.length ≤ 29) (w : wq E 29 none c75 (frameOf xs) h [] (leaveQ E [.tmp 4] Q)) : CallP E 75 xs h Q :=
  CallP.enterQ (fn := Try.f75) (fn_get Try.func75) (code := Try.f75.body.get rfl) rfl rfl rfl (by kernel_rfl) rfl (fun _ => rfl) hl w
theorem can75 : callable E 75 = true := callable_get Try.func75 rfl rfl
end
end Go.Proofs.Yticmdpcahpimhaa
