/- The code of the functions that LnL comes to. -/
import Derived.Test.YtfiginefkfipeaaTypesC
set_option maxRecDepth 100000
set_option linter.unusedSectionVars false
set_option linter.unusedVariables false
namespace Go.Proofs.Ytfiginefkfipeaa
open Go.Rx Go.RowKit
noncomputable section
variable [Unknowns]
/-- tosher/tosherlaw04.LinesLine -/
def c3 : C := (.seq (.ops [⟨(some 2), .box 22 (.tmp 0), none⟩,
  ⟨(some 3), .box 22 (.tmp 1), none⟩,
  ⟨(some 4), .mov (.const (.bool false)), none⟩])
 (.seq (.seq (.ops [⟨(some 5), .mov (.const (.int .i64 0)), none⟩])
 (.block 0 (.loop (.seq (.seq (.ops [⟨(some 12), .mov (.tmp 5), none⟩,
  ⟨(some 13), .ar .i64 .lss (.tmp 12) (.const (.int .i64 2)), none⟩])
 (.cond (.tmp 13) .skip
 (.exit 0)))
 (.seq (.block 1 (.seq (.ops [⟨(some 17), .loadN 2 (.tmp 2), none⟩,
  ⟨(some 18), .loadN 2 (.tmp 3), none⟩,
  ⟨(some 19), .call 4 [(.tmp 17), (.tmp 18)], none⟩,
  ⟨(some 16), .mov (.tmp 19), none⟩,
  ⟨(some 20), .ext (.tmp 16) 0, none⟩,
  ⟨(some 21), .ext (.tmp 16) 1, none⟩,
  ⟨(some 6), .alloc 23 [(.int .i64 0), (.int .i64 0), (.int .i64 0)], none⟩,
  ⟨none, .store 3 (.tmp 6) (.tmp 20), none⟩,
  ⟨(some 7), .mov (.tmp 21), none⟩])
 (.seq (.ops [⟨(some 22), .loadN 2 (.tmp 2), none⟩,
  ⟨(some 23), .loadN 2 (.tmp 3), none⟩,
  ⟨(some 24), .raw (.binOp .eql 22 (.tmp 22) (.tmp 23) 22) 4, none⟩,
  ⟨(some 8), .mov (.tmp 24), none⟩])
 (.seq (.seq (.ops [⟨(some 9), .mov (.const (.int .i64 0)), none⟩])
 (.block 2 (.loop (.seq (.seq (.ops [⟨(some 25), .mov (.tmp 9), none⟩,
  ⟨(some 26), .ar .i64 .lss (.tmp 25) (.const (.int .i64 2)), none⟩])
 (.cond (.tmp 26) .skip
 (.exit 2)))
 (.seq (.block 3 (.ops [⟨(some 29), .mov (.tmp 8), none⟩,
  ⟨(some 30), .mov (.tmp 29), none⟩,
  ⟨(some 31), .mov (.tmp 9), (some (30, false))⟩,
  ⟨(some 32), .idxA 2 1 (.tmp 2) (.tmp 31), (some (30, false))⟩,
  ⟨(some 33), .load1 (.tmp 32), (some (30, false))⟩,
  ⟨(some 34), .ar .i64 .lss (.tmp 33) (.const (.int .i64 (-4))), (some (30, false))⟩,
  ⟨(some 35), .pick (.tmp 30) (.const (.bool true)) (.tmp 34), none⟩,
  ⟨(some 36), .mov (.tmp 35), none⟩,
  ⟨(some 37), .mov (.tmp 9), (some (36, false))⟩,
  ⟨(some 38), .idxA 2 1 (.tmp 2) (.tmp 37), (some (36, false))⟩,
  ⟨(some 39), .load1 (.tmp 38), (some (36, false))⟩,
  ⟨(some 40), .ar .i64 .gtr (.tmp 39) (.const (.int .i64 4)), (some (36, false))⟩,
  ⟨(some 41), .pick (.tmp 36) (.const (.bool true)) (.tmp 40), none⟩,
  ⟨(some 42), .mov (.tmp 41), none⟩,
  ⟨(some 43), .mov (.tmp 9), (some (42, false))⟩,
  ⟨(some 44), .idxA 2 1 (.tmp 3) (.tmp 43), (some (42, false))⟩,
  ⟨(some 45), .load1 (.tmp 44), (some (42, false))⟩,
  ⟨(some 46), .ar .i64 .lss (.tmp 45) (.const (.int .i64 (-4))), (some (42, false))⟩,
  ⟨(some 47), .pick (.tmp 42) (.const (.bool true)) (.tmp 46), none⟩,
  ⟨(some 48), .mov (.tmp 47), none⟩,
  ⟨(some 49), .mov (.tmp 9), (some (48, false))⟩,
  ⟨(some 50), .idxA 2 1 (.tmp 3) (.tmp 49), (some (48, false))⟩,
  ⟨(some 51), .load1 (.tmp 50), (some (48, false))⟩,
  ⟨(some 52), .ar .i64 .gtr (.tmp 51) (.const (.int .i64 4)), (some (48, false))⟩,
  ⟨(some 53), .pick (.tmp 48) (.const (.bool true)) (.tmp 52), none⟩,
  ⟨(some 8), .mov (.tmp 53), none⟩]))
 (.ops [⟨(some 27), .mov (.tmp 9), none⟩,
  ⟨(some 28), .ar .i64 .add (.tmp 27) (.const (.int .i64 1)), none⟩,
  ⟨(some 9), .mov (.tmp 28), none⟩]))))))
 (.seq (.seq (.ops [⟨(some 54), .mov (.tmp 8), none⟩])
 (.cond (.tmp 54) (.seq (.ops [⟨(some 55), .mov (.tmp 7), none⟩,
  ⟨(some 56), .ar .i64 .neq (.tmp 55) (.const (.int .i64 1)), none⟩,
  ⟨(some 57), .mov (.tmp 56), none⟩,
  ⟨(some 58), .loadN 3 (.tmp 6), (some (57, false))⟩,
  ⟨(some 59), .aggr [(.int .i64 0), (.int .i64 0), (.int .i64 0)] [], (some (57, false))⟩,
  ⟨(some 60), .raw (.binOp .neq 23 (.tmp 58) (.tmp 59) 23) 4, (some (57, false))⟩,
  ⟨(some 61), .pick (.tmp 57) (.const (.bool true)) (.tmp 60), none⟩])
 (.cond (.tmp 61) (.seq (.ops [⟨(some 4), .mov (.const (.bool false)), none⟩])
 .ret)
 .skip))
 (.seq (.ops [⟨(some 63), .loadN 2 (.tmp 2), none⟩,
  ⟨(some 64), .loadN 2 (.tmp 3), none⟩,
  ⟨(some 65), .call 5 [(.tmp 63), (.tmp 64)], none⟩,
  ⟨(some 62), .mov (.tmp 65), none⟩,
  ⟨(some 66), .ext (.tmp 62) 0, none⟩,
  ⟨(some 67), .ext (.tmp 62) 1, none⟩,
  ⟨(some 10), .alloc 23 [(.int .i64 0), (.int .i64 0), (.int .i64 0)], none⟩,
  ⟨none, .store 3 (.tmp 10) (.tmp 66), none⟩,
  ⟨(some 11), .mov (.tmp 67), none⟩])
 (.seq (.ops [⟨(some 68), .mov (.tmp 11), none⟩,
  ⟨(some 69), .mov (.tmp 68), none⟩,
  ⟨(some 70), .mov (.tmp 7), (some (69, true))⟩,
  ⟨(some 71), .ar .i64 .neq (.tmp 70) (.const (.int .i64 0)), (some (69, true))⟩,
  ⟨(some 72), .mov (.tmp 71), (some (69, true))⟩,
  ⟨(some 73), .loadN 3 (.tmp 6), (some (72, false))⟩,
  ⟨(some 74), .loadN 3 (.tmp 10), (some (72, false))⟩,
  ⟨(some 75), .raw (.binOp .neq 23 (.tmp 73) (.tmp 74) 23) 4, (some (72, false))⟩,
  ⟨(some 76), .pick (.tmp 72) (.const (.bool true)) (.tmp 75), (some (69, true))⟩,
  ⟨(some 77), .pick (.tmp 69) (.tmp 76) (.const (.bool false)), none⟩,
  ⟨(some 78), .mov (.tmp 77), none⟩,
  ⟨(some 79), .mov (.tmp 11), (some (78, false))⟩,
  ⟨(some 80), .not (.tmp 79), (some (78, false))⟩,
  ⟨(some 81), .mov (.tmp 80), (some (78, false))⟩,
  ⟨(some 82), .mov (.tmp 7), (some (81, true))⟩,
  ⟨(some 83), .ar .i64 .neq (.tmp 82) (.const (.int .i64 4)), (some (81, true))⟩,
  ⟨(some 84), .mov (.tmp 83), (some (81, true))⟩,
  ⟨(some 85), .loadN 3 (.tmp 6), (some (84, false))⟩,
  ⟨(some 86), .aggr [(.int .i64 0), (.int .i64 0), (.int .i64 0)] [], (some (84, false))⟩,
  ⟨(some 87), .raw (.binOp .neq 23 (.tmp 85) (.tmp 86) 23) 4, (some (84, false))⟩,
  ⟨(some 88), .pick (.tmp 84) (.const (.bool true)) (.tmp 87), (some (81, true))⟩,
  ⟨(some 89), .pick (.tmp 81) (.tmp 88) (.const (.bool false)), (some (78, false))⟩,
  ⟨(some 90), .pick (.tmp 78) (.const (.bool true)) (.tmp 89), none⟩])
 (.cond (.tmp 90) (.seq (.ops [⟨(some 4), .mov (.const (.bool false)), none⟩])
 .ret)
 .skip)))))
 (.seq (.ops [⟨(some 91), .idxA 2 1 (.tmp 2) (.const (.int .i64 0)), none⟩,
  ⟨(some 92), .load1 (.tmp 91), none⟩,
  ⟨(some 93), .cint .u64 (.tmp 92), none⟩,
  ⟨(some 94), .ar .u64 .rem (.tmp 93) (.const (.int .u64 9)), none⟩,
  ⟨(some 95), .cint .i64 (.tmp 94), none⟩,
  ⟨(some 96), .ar .i64 .sub (.tmp 95) (.const (.int .i64 4)), none⟩,
  ⟨(some 97), .idxA 2 1 (.tmp 2) (.const (.int .i64 1)), none⟩,
  ⟨(some 98), .load1 (.tmp 97), none⟩,
  ⟨(some 99), .cint .u64 (.tmp 98), none⟩,
  ⟨(some 100), .ar .u64 .rem (.tmp 99) (.const (.int .u64 9)), none⟩,
  ⟨(some 101), .cint .i64 (.tmp 100), none⟩,
  ⟨(some 102), .ar .i64 .sub (.tmp 101) (.const (.int .i64 4)), none⟩,
  ⟨(some 103), .aggr [(.int .i64 0), (.int .i64 0)] [(0, 1, (.tmp 96)), (1, 1, (.tmp 102))], none⟩,
  ⟨none, .store 2 (.tmp 2) (.tmp 103), none⟩])
 (.ops [⟨(some 104), .idxA 2 1 (.tmp 3) (.const (.int .i64 0)), none⟩,
  ⟨(some 105), .load1 (.tmp 104), none⟩,
  ⟨(some 106), .cint .u64 (.tmp 105), none⟩,
  ⟨(some 107), .ar .u64 .rem (.tmp 106) (.const (.int .u64 9)), none⟩,
  ⟨(some 108), .cint .i64 (.tmp 107), none⟩,
  ⟨(some 109), .ar .i64 .sub (.tmp 108) (.const (.int .i64 4)), none⟩,
  ⟨(some 110), .idxA 2 1 (.tmp 3) (.const (.int .i64 1)), none⟩,
  ⟨(some 111), .load1 (.tmp 110), none⟩,
  ⟨(some 112), .cint .u64 (.tmp 111), none⟩,
  ⟨(some 113), .ar .u64 .rem (.tmp 112) (.const (.int .u64 9)), none⟩,
  ⟨(some 114), .cint .i64 (.tmp 113), none⟩,
  ⟨(some 115), .ar .i64 .sub (.tmp 114) (.const (.int .i64 4)), none⟩,
  ⟨(some 116), .aggr [(.int .i64 0), (.int .i64 0)] [(0, 1, (.tmp 109)), (1, 1, (.tmp 115))], none⟩,
  ⟨none, .store 2 (.tmp 3) (.tmp 116), none⟩])))))))
 (.ops [⟨(some 14), .mov (.tmp 5), none⟩,
  ⟨(some 15), .ar .i64 .add (.tmp 14) (.const (.int .i64 1)), none⟩,
  ⟨(some 5), .mov (.tmp 15), none⟩]))))))
 (.seq (.ops [⟨(some 117), .call 6 [], none⟩,
  ⟨(some 4), .mov (.tmp 117), none⟩])
 .ret)))
theorem enter3 {xs : List Value} {h : Hp} {Q : Value → Hp → Prop} (hl : xs.length ≤ 118) (w : wq E 118 none c3 (frameOf xs) h [] (leaveQ E [.tmp 4] Q)) : CallP E 3 xs h Q :=
  CallP.enterQ (fn := Try.f3) (fn_get Try.func3) (code := Try.f3.body.get rfl) rfl rfl rfl (by kernel_rfl) rfl (fun _ => rfl) hl w
theorem can3 : callable E 3 = true := callable_get Try.func3 rfl rfl

/-- tosher/lines.Line -/
def c4 : C := (.seq (.ops [⟨(some 2), .box 22 (.tmp 0), none⟩,
  ⟨(some 3), .box 22 (.tmp 1), none⟩,
  ⟨(some 4), .alloc 23 [(.int .i64 0), (.int .i64 0), (.int .i64 0)], none⟩,
  ⟨(some 5), .mov (.const (.int .i64 0)), none⟩])
 (.seq (.seq (.ops [⟨(some 9), .loadN 2 (.tmp 2), none⟩,
  ⟨(some 10), .loadN 2 (.tmp 3), none⟩,
  ⟨(some 11), .raw (.binOp .eql 22 (.tmp 9) (.tmp 10) 22) 4, none⟩,
  ⟨(some 12), .mov (.tmp 11), none⟩,
  ⟨(some 13), .cutA 2 1 (.tmp 2) none none none, (some (12, false))⟩,
  ⟨(some 14), .call 7 [(.const (.int .i64 4)), (.tmp 13)], (some (12, false))⟩,
  ⟨(some 15), .not (.tmp 14), (some (12, false))⟩,
  ⟨(some 16), .pick (.tmp 12) (.const (.bool true)) (.tmp 15), none⟩,
  ⟨(some 17), .mov (.tmp 16), none⟩,
  ⟨(some 18), .cutA 2 1 (.tmp 3) none none none, (some (17, false))⟩,
  ⟨(some 19), .call 7 [(.const (.int .i64 4)), (.tmp 18)], (some (17, false))⟩,
  ⟨(some 20), .not (.tmp 19), (some (17, false))⟩,
  ⟨(some 21), .pick (.tmp 17) (.const (.bool true)) (.tmp 20), none⟩])
 (.cond (.tmp 21) (.seq (.ops [⟨(some 22), .aggr [(.int .i64 0), (.int .i64 0), (.int .i64 0)] [], none⟩,
  ⟨none, .store 3 (.tmp 4) (.tmp 22), none⟩,
  ⟨(some 5), .mov (.const (.int .i64 1)), none⟩])
 .ret)
 .skip))
 (.seq (.ops [⟨(some 23), .idxA 2 1 (.tmp 3) (.const (.int .i64 1)), none⟩,
  ⟨(some 24), .load1 (.tmp 23), none⟩,
  ⟨(some 25), .idxA 2 1 (.tmp 2) (.const (.int .i64 1)), none⟩,
  ⟨(some 26), .load1 (.tmp 25), none⟩,
  ⟨(some 27), .ar .i64 .sub (.tmp 24) (.tmp 26), none⟩,
  ⟨(some 28), .idxA 2 1 (.tmp 2) (.const (.int .i64 0)), none⟩,
  ⟨(some 29), .load1 (.tmp 28), none⟩,
  ⟨(some 30), .idxA 2 1 (.tmp 3) (.const (.int .i64 0)), none⟩,
  ⟨(some 31), .load1 (.tmp 30), none⟩,
  ⟨(some 32), .ar .i64 .sub (.tmp 29) (.tmp 31), none⟩,
  ⟨(some 6), .mov (.tmp 27), none⟩,
  ⟨(some 7), .mov (.tmp 32), none⟩])
 (.seq (.ops [⟨(some 33), .mov (.tmp 6), none⟩,
  ⟨(some 34), .mov (.tmp 7), none⟩,
  ⟨(some 35), .mov (.tmp 6), none⟩,
  ⟨(some 36), .idxA 2 1 (.tmp 2) (.const (.int .i64 0)), none⟩,
  ⟨(some 37), .load1 (.tmp 36), none⟩,
  ⟨(some 38), .ar .i64 .mul (.tmp 35) (.tmp 37), none⟩,
  ⟨(some 39), .mov (.tmp 7), none⟩,
  ⟨(some 40), .idxA 2 1 (.tmp 2) (.const (.int .i64 1)), none⟩,
  ⟨(some 41), .load1 (.tmp 40), none⟩,
  ⟨(some 42), .ar .i64 .mul (.tmp 39) (.tmp 41), none⟩,
  ⟨(some 43), .ar .i64 .add (.tmp 38) (.tmp 42), none⟩,
  ⟨(some 44), .call 8 [(.tmp 33), (.tmp 34), (.tmp 43)], none⟩,
  ⟨(some 8), .alloc 34 [(.int .i64 0), (.int .i64 0), (.int .i64 0)], none⟩,
  ⟨none, .store 3 (.tmp 8) (.tmp 44), none⟩])
 (.seq (.seq (.ops [⟨(some 45), .cutA 3 1 (.tmp 8) none none none, none⟩,
  ⟨(some 46), .call 7 [(.const (.int .i64 20)), (.tmp 45)], none⟩,
  ⟨(some 47), .not (.tmp 46), none⟩])
 (.cond (.tmp 47) (.seq (.ops [⟨(some 48), .aggr [(.int .i64 0), (.int .i64 0), (.int .i64 0)] [], none⟩,
  ⟨none, .store 3 (.tmp 4) (.tmp 48), none⟩,
  ⟨(some 5), .mov (.const (.int .i64 4)), none⟩])
 .ret)
 .skip))
 (.seq (.ops [⟨(some 49), .loadN 3 (.tmp 8), none⟩,
  ⟨none, .store 3 (.tmp 4) (.tmp 49), none⟩,
  ⟨(some 5), .mov (.const (.int .i64 0)), none⟩])
 .ret))))))
theorem enter4 {xs : List Value} {h : Hp} {Q : Value → Hp → Prop} (hl : xs.length ≤ 50) (w : wq E 50 none c4 (frameOf xs) h [] (leaveQ E [.cell 4 23, .tmp 5] Q)) : CallP E 4 xs h Q :=
  CallP.enterQ (fn := Try.f4) (fn_get Try.func4) (code := Try.f4.body.get rfl) rfl rfl rfl (by kernel_rfl) rfl (fun _ => rfl) hl w
theorem can4 : callable E 4 = true := callable_get Try.func4 rfl rfl

/-- tosher/tosherref04.Line -/
def c5 : C := (.seq (.ops [⟨(some 2), .box 22 (.tmp 0), none⟩,
  ⟨(some 3), .box 22 (.tmp 1), none⟩,
  ⟨(some 4), .alloc 23 [(.int .i64 0), (.int .i64 0), (.int .i64 0)], none⟩,
  ⟨(some 5), .mov (.const (.bool false)), none⟩])
 (.seq (.ops [⟨(some 11), .idxA 2 1 (.tmp 3) (.const (.int .i64 1)), none⟩,
  ⟨(some 12), .load1 (.tmp 11), none⟩,
  ⟨(some 13), .idxA 2 1 (.tmp 2) (.const (.int .i64 1)), none⟩,
  ⟨(some 14), .load1 (.tmp 13), none⟩,
  ⟨(some 15), .ar .i64 .sub (.tmp 12) (.tmp 14), none⟩,
  ⟨(some 16), .idxA 2 1 (.tmp 2) (.const (.int .i64 0)), none⟩,
  ⟨(some 17), .load1 (.tmp 16), none⟩,
  ⟨(some 18), .idxA 2 1 (.tmp 3) (.const (.int .i64 0)), none⟩,
  ⟨(some 19), .load1 (.tmp 18), none⟩,
  ⟨(some 20), .ar .i64 .sub (.tmp 17) (.tmp 19), none⟩,
  ⟨(some 6), .mov (.tmp 15), none⟩,
  ⟨(some 7), .mov (.tmp 20), none⟩])
 (.seq (.ops [⟨(some 21), .mov (.tmp 6), none⟩,
  ⟨(some 22), .idxA 2 1 (.tmp 2) (.const (.int .i64 0)), none⟩,
  ⟨(some 23), .load1 (.tmp 22), none⟩,
  ⟨(some 24), .ar .i64 .mul (.tmp 21) (.tmp 23), none⟩,
  ⟨(some 25), .mov (.tmp 7), none⟩,
  ⟨(some 26), .idxA 2 1 (.tmp 2) (.const (.int .i64 1)), none⟩,
  ⟨(some 27), .load1 (.tmp 26), none⟩,
  ⟨(some 28), .ar .i64 .mul (.tmp 25) (.tmp 27), none⟩,
  ⟨(some 29), .ar .i64 .add (.tmp 24) (.tmp 28), none⟩,
  ⟨(some 8), .mov (.tmp 29), none⟩])
 (.seq (.ops [⟨(some 30), .mov (.tmp 6), none⟩,
  ⟨(some 31), .mov (.tmp 7), none⟩,
  ⟨(some 32), .call 9 [(.tmp 30), (.tmp 31)], none⟩,
  ⟨(some 33), .mov (.tmp 8), none⟩,
  ⟨(some 34), .call 9 [(.tmp 32), (.tmp 33)], none⟩,
  ⟨(some 9), .mov (.tmp 34), none⟩])
 (.seq (.seq (.ops [⟨(some 35), .mov (.tmp 6), none⟩,
  ⟨(some 36), .ar .i64 .lss (.tmp 35) (.const (.int .i64 0)), none⟩,
  ⟨(some 37), .mov (.tmp 36), none⟩,
  ⟨(some 38), .mov (.tmp 6), (some (37, false))⟩,
  ⟨(some 39), .ar .i64 .eql (.tmp 38) (.const (.int .i64 0)), (some (37, false))⟩,
  ⟨(some 40), .mov (.tmp 39), (some (37, false))⟩,
  ⟨(some 41), .mov (.tmp 7), (some (40, true))⟩,
  ⟨(some 42), .ar .i64 .lss (.tmp 41) (.const (.int .i64 0)), (some (40, true))⟩,
  ⟨(some 43), .pick (.tmp 40) (.tmp 42) (.const (.bool false)), (some (37, false))⟩,
  ⟨(some 44), .pick (.tmp 37) (.const (.bool true)) (.tmp 43), none⟩])
 (.cond (.tmp 44) (.ops [⟨(some 45), .mov (.tmp 9), none⟩,
  ⟨(some 46), .raw (.unOp .neg 3 (.tmp 45)) 3, none⟩,
  ⟨(some 9), .mov (.tmp 46), none⟩])
 .skip))
 (.seq (.draw [⟨(some 47), .mov (.tmp 6), none⟩,
  ⟨(some 48), .mov (.tmp 9), none⟩,
  ⟨(some 49), .ar .i64 .quo (.tmp 47) (.tmp 48), none⟩,
  ⟨(some 50), .mov (.tmp 7), none⟩,
  ⟨(some 51), .mov (.tmp 9), none⟩,
  ⟨(some 52), .ar .i64 .quo (.tmp 50) (.tmp 51), none⟩,
  ⟨(some 53), .mov (.tmp 8), none⟩,
  ⟨(some 54), .mov (.tmp 9), none⟩,
  ⟨(some 55), .ar .i64 .quo (.tmp 53) (.tmp 54), none⟩,
  ⟨(some 56), .aggr [(.int .i64 0), (.int .i64 0), (.int .i64 0)] [(0, 1, (.tmp 49)), (1, 1, (.tmp 52)), (2, 1, (.tmp 55))], none⟩,
  ⟨(some 10), .alloc 23 [(.int .i64 0), (.int .i64 0), (.int .i64 0)], none⟩,
  ⟨none, .store 3 (.tmp 10) (.tmp 56), none⟩]
  [⟨false, true, [false, false, false, false, false, false, false, false, false, false, false, false], [false, false, false, false, false, false, false, false, false, false, true, false]⟩,
  ⟨false, true, [false, false, false, false, false, false, false, false, false, false, false, false], [false, false, false, false, false, false, false, false, false, false, true, false]⟩,
  ⟨false, true, [false, false, false, false, false, false, false, false, false, false, false, false], [false, false, false, false, false, false, false, false, false, false, true, false]⟩,
  ⟨false, true, [false, false, false, false, false, false, false, false, false, false, false, false], [false, false, false, false, false, false, false, false, false, false, true, false]⟩,
  ⟨false, true, [false, false, false, false, false, false, false, false, false, false, false, false], [false, false, false, false, false, false, false, false, false, false, true, false]⟩,
  ⟨false, true, [false, false, false, false, false, false, false, false, false, false, false, false], [false, false, false, false, false, false, false, false, false, false, true, false]⟩,
  ⟨false, true, [false, false, false, false, false, false, false, false, false, false, false, false], [false, false, false, false, false, false, false, false, false, false, true, false]⟩,
  ⟨false, true, [false, false, false, false, false, false, false, false, false, false, false, false], [false, false, false, false, false, false, false, false, false, false, true, false]⟩,
  ⟨false, true, [false, false, false, false, false, false, false, false, false, false, false, false], [false, false, false, false, false, false, false, false, false, false, true, false]⟩,
  ⟨false, true, [false, false, false, false, false, false, false, false, false, false, false, false], [false, false, false, false, false, false, false, false, false, false, true, false]⟩,
  ⟨true, false, [false, false, false, false, false, false, false, false, false, false, false, false], [false, false, false, false, false, false, false, false, false, false, true, false]⟩,
  ⟨true, false, [false, false, false, false, false, false, false, false, false, false, true, false], [false, false, false, false, false, false, false, false, false, false, true, true]⟩])
 (.seq (.draw [⟨(some 57), .loadN 3 (.tmp 10), none⟩,
  ⟨(some 58), .loadN 3 (.tmp 10), none⟩,
  ⟨(some 59), .call 10 [(.tmp 58)], none⟩,
  ⟨none, .store 3 (.tmp 4) (.tmp 57), none⟩,
  ⟨(some 5), .mov (.tmp 59), none⟩]
  [⟨false, true, [false, false, false, false, false], [false, false, true, false, false]⟩,
  ⟨false, false, [false, false, false, false, false], [false, false, false, false, false]⟩,
  ⟨true, false, [false, false, false, false, false], [false, false, true, false, false]⟩,
  ⟨true, false, [false, false, true, false, false], [false, false, true, true, false]⟩,
  ⟨false, false, [false, false, true, true, false], [false, false, true, true, false]⟩])
 .ret)))))))
theorem enter5 {xs : List Value} {h : Hp} {Q : Value → Hp → Prop} (hl : xs.length ≤ 60) (w : wq E 60 none c5 (frameOf xs) h [] (leaveQ E [.cell 4 23, .tmp 5] Q)) : CallP E 5 xs h Q :=
  CallP.enterQ (fn := Try.f5) (fn_get Try.func5) (code := Try.f5.body.get rfl) rfl rfl rfl (by kernel_rfl) rfl (fun _ => rfl) hl w
theorem can5 : callable E 5 = true := callable_get Try.func5 rfl rfl

theorem memo6 {h : Hp} {Q : Value → Hp → Prop} (q : Q (.bool true) h) : CallP E 6 [] h Q := CallP.memo rfl q

/-- tosher/lines.isWithin -/
def c7 : C := (.seq (.ops [⟨(some 4), .mov (.const (.bool false)), none⟩])
 (.seq (.seq (.ops [⟨(some 7), .mov (.tmp 1), none⟩,
  ⟨(some 8), .lenS (.tmp 7), none⟩,
  ⟨(some 9), .mov (.const (.int .i64 0)), none⟩])
 (.block 0 (.loop (.seq (.ops [⟨(some 10), .ar .i64 .lss (.tmp 9) (.tmp 8), none⟩])
 (.seq (.cond (.tmp 10) .skip
 (.exit 0))
 (.seq (.block 1 (.seq (.ops [⟨(some 11), .idxS 1 (.tmp 7) (.tmp 9), none⟩,
  ⟨(some 12), .load1 (.tmp 11), none⟩,
  ⟨(some 6), .mov (.tmp 12), none⟩])
 (.seq (.ops [⟨(some 13), .mov (.tmp 6), none⟩,
  ⟨(some 14), .mov (.tmp 0), none⟩,
  ⟨(some 15), .raw (.unOp .neg 3 (.tmp 14)) 3, none⟩,
  ⟨(some 16), .ar .i64 .lss (.tmp 13) (.tmp 15), none⟩,
  ⟨(some 17), .mov (.tmp 16), none⟩,
  ⟨(some 18), .mov (.tmp 6), (some (17, false))⟩,
  ⟨(some 19), .mov (.tmp 0), (some (17, false))⟩,
  ⟨(some 20), .ar .i64 .gtr (.tmp 18) (.tmp 19), (some (17, false))⟩,
  ⟨(some 21), .pick (.tmp 17) (.const (.bool true)) (.tmp 20), none⟩])
 (.cond (.tmp 21) (.seq (.ops [⟨(some 4), .mov (.const (.bool false)), none⟩])
 .ret)
 .skip))))
 (.ops [⟨(some 22), .ar .i64 .add (.tmp 9) (.const (.int .i64 1)), none⟩,
  ⟨(some 9), .mov (.tmp 22), none⟩])))))))
 (.seq (.ops [⟨(some 4), .mov (.const (.bool true)), none⟩])
 .ret)))
theorem enter7 {xs : List Value} {h : Hp} {Q : Value → Hp → Prop} (hl : xs.length ≤ 23) (w : wq E 23 none c7 (frameOf xs) h [] (leaveQ E [.tmp 4] Q)) : CallP E 7 xs h Q :=
  CallP.enterQ (fn := Try.f7) (fn_get Try.func7) (code := Try.f7.body.get rfl) rfl rfl rfl (by kernel_rfl) rfl (fun _ => rfl) hl w
theorem can7 : callable E 7 = true := callable_get Try.func7 rfl rfl

/-- tosher/lines.lineOf -/
def c8 : C := (.seq (.ops [⟨(some 6), .alloc 34 [(.int .i64 0), (.int .i64 0), (.int .i64 0)], none⟩])
 (.seq (.seq (.ops [⟨(some 8), .mov (.tmp 0), none⟩,
  ⟨(some 9), .ar .i64 .lss (.tmp 8) (.const (.int .i64 0)), none⟩,
  ⟨(some 10), .mov (.tmp 9), none⟩,
  ⟨(some 11), .mov (.tmp 0), (some (10, false))⟩,
  ⟨(some 12), .ar .i64 .eql (.tmp 11) (.const (.int .i64 0)), (some (10, false))⟩,
  ⟨(some 13), .mov (.tmp 12), (some (10, false))⟩,
  ⟨(some 14), .mov (.tmp 1), (some (13, true))⟩,
  ⟨(some 15), .ar .i64 .lss (.tmp 14) (.const (.int .i64 0)), (some (13, true))⟩,
  ⟨(some 16), .pick (.tmp 13) (.tmp 15) (.const (.bool false)), (some (10, false))⟩,
  ⟨(some 17), .pick (.tmp 10) (.const (.bool true)) (.tmp 16), none⟩])
 (.cond (.tmp 17) (.ops [⟨(some 18), .mov (.tmp 0), none⟩,
  ⟨(some 19), .raw (.unOp .neg 3 (.tmp 18)) 3, none⟩,
  ⟨(some 20), .mov (.tmp 1), none⟩,
  ⟨(some 21), .raw (.unOp .neg 3 (.tmp 20)) 3, none⟩,
  ⟨(some 22), .mov (.tmp 2), none⟩,
  ⟨(some 23), .raw (.unOp .neg 3 (.tmp 22)) 3, none⟩,
  ⟨(some 0), .mov (.tmp 19), none⟩,
  ⟨(some 1), .mov (.tmp 21), none⟩,
  ⟨(some 2), .mov (.tmp 23), none⟩])
 .skip))
 (.seq (.ops [⟨(some 24), .mov (.tmp 0), none⟩,
  ⟨(some 25), .mov (.tmp 1), none⟩,
  ⟨(some 26), .mov (.tmp 2), none⟩,
  ⟨(some 27), .slit 3 3 [(.int .i64 0), (.int .i64 0), (.int .i64 0)] [(0, 1, (.tmp 24)), (1, 1, (.tmp 25)), (2, 1, (.tmp 26))], none⟩,
  ⟨(some 28), .call 19 [(.tmp 27)], none⟩,
  ⟨(some 7), .mov (.tmp 28), none⟩])
 (.seq (.ops [⟨(some 29), .mov (.tmp 7), none⟩,
  ⟨(some 30), .idxS 1 (.tmp 29) (.const (.int .i64 0)), none⟩,
  ⟨(some 31), .load1 (.tmp 30), none⟩,
  ⟨(some 32), .mov (.tmp 7), none⟩,
  ⟨(some 33), .idxS 1 (.tmp 32) (.const (.int .i64 1)), none⟩,
  ⟨(some 34), .load1 (.tmp 33), none⟩,
  ⟨(some 35), .mov (.tmp 7), none⟩,
  ⟨(some 36), .idxS 1 (.tmp 35) (.const (.int .i64 2)), none⟩,
  ⟨(some 37), .load1 (.tmp 36), none⟩,
  ⟨(some 38), .aggr [(.int .i64 0), (.int .i64 0), (.int .i64 0)] [(0, 1, (.tmp 31)), (1, 1, (.tmp 34)), (2, 1, (.tmp 37))], none⟩,
  ⟨none, .store 3 (.tmp 6) (.tmp 38), none⟩])
 .ret))))
theorem enter8 {xs : List Value} {h : Hp} {Q : Value → Hp → Prop} (hl : xs.length ≤ 39) (w : wq E 39 none c8 (frameOf xs) h [] (leaveQ E [.cell 6 34] Q)) : CallP E 8 xs h Q :=
  CallP.enterQ (fn := Try.f8) (fn_get Try.func8) (code := Try.f8.body.get rfl) rfl rfl rfl (by kernel_rfl) rfl (fun _ => rfl) hl w
theorem can8 : callable E 8 = true := callable_get Try.func8 rfl rfl

/-- tosher/tosherref04.gcd -/
def c9 : C := (.seq (.ops [⟨(some 4), .mov (.const (.int .i64 0)), none⟩])
 (.seq (.ops [⟨(some 5), .mov (.tmp 0), none⟩,
  ⟨(some 6), .mov (.tmp 0), none⟩,
  ⟨(some 7), .raw (.unOp .neg 3 (.tmp 6)) 3, none⟩,
  ⟨(some 8), .raw (.call ⟨.builtin .max, ⟨[(.tmp 5), (.tmp 7)]⟩, ⟨[3, 3]⟩⟩) 3, none⟩,
  ⟨(some 0), .mov (.tmp 8), none⟩])
 (.seq (.ops [⟨(some 9), .mov (.tmp 1), none⟩,
  ⟨(some 10), .mov (.tmp 1), none⟩,
  ⟨(some 11), .raw (.unOp .neg 3 (.tmp 10)) 3, none⟩,
  ⟨(some 12), .raw (.call ⟨.builtin .max, ⟨[(.tmp 9), (.tmp 11)]⟩, ⟨[3, 3]⟩⟩) 3, none⟩,
  ⟨(some 1), .mov (.tmp 12), none⟩])
 (.seq (.block 0 (.loop (.seq (.seq (.ops [⟨(some 13), .mov (.tmp 1), none⟩,
  ⟨(some 14), .ar .i64 .gtr (.tmp 13) (.const (.int .i64 0)), none⟩])
 (.cond (.tmp 14) .skip
 (.exit 0)))
 (.block 1 (.ops [⟨(some 15), .mov (.tmp 1), none⟩,
  ⟨(some 16), .mov (.tmp 0), none⟩,
  ⟨(some 17), .mov (.tmp 1), none⟩,
  ⟨(some 18), .ar .i64 .rem (.tmp 16) (.tmp 17), none⟩,
  ⟨(some 0), .mov (.tmp 15), none⟩,
  ⟨(some 1), .mov (.tmp 18), none⟩])))))
 (.seq (.ops [⟨(some 19), .mov (.tmp 0), none⟩,
  ⟨(some 4), .mov (.tmp 19), none⟩])
 .ret)))))
theorem enter9 {xs : List Value} {h : Hp} {Q : Value → Hp → Prop} (hl : xs.length ≤ 20) (w : wq E 20 none c9 (frameOf xs) h [] (leaveQ E [.tmp 4] Q)) : CallP E 9 xs h Q :=
  CallP.enterQ (fn := Try.f9) (fn_get Try.func9) (code := Try.f9.body.get rfl) rfl rfl rfl (by kernel_rfl) rfl (fun _ => rfl) hl w
theorem can9 : callable E 9 = true := callable_get Try.func9 rfl rfl

/-- tosher/tosherref04.line -/
def c10 : C := (.seq (.ops [⟨(some 1), .box 23 (.tmp 0), none⟩,
  ⟨(some 2), .mov (.const (.bool false)), none⟩])
 (.seq (.seq (.ops [⟨(some 3), .mov (.const (.int .i64 0)), none⟩])
 (.block 0 (.loop (.seq (.seq (.ops [⟨(some 4), .mov (.tmp 3), none⟩,
  ⟨(some 5), .ar .i64 .lss (.tmp 4) (.const (.int .i64 3)), none⟩])
 (.cond (.tmp 5) .skip
 (.exit 0)))
 (.seq (.block 1 (.seq (.ops [⟨(some 8), .mov (.tmp 3), none⟩,
  ⟨(some 9), .idxA 3 1 (.tmp 1) (.tmp 8), none⟩,
  ⟨(some 10), .load1 (.tmp 9), none⟩,
  ⟨(some 11), .ar .i64 .lss (.tmp 10) (.const (.int .i64 (-20))), none⟩,
  ⟨(some 12), .mov (.tmp 11), none⟩,
  ⟨(some 13), .mov (.tmp 3), (some (12, false))⟩,
  ⟨(some 14), .idxA 3 1 (.tmp 1) (.tmp 13), (some (12, false))⟩,
  ⟨(some 15), .load1 (.tmp 14), (some (12, false))⟩,
  ⟨(some 16), .ar .i64 .gtr (.tmp 15) (.const (.int .i64 20)), (some (12, false))⟩,
  ⟨(some 17), .pick (.tmp 12) (.const (.bool true)) (.tmp 16), none⟩])
 (.cond (.tmp 17) (.seq (.ops [⟨(some 2), .mov (.const (.bool false)), none⟩])
 .ret)
 .skip)))
 (.ops [⟨(some 6), .mov (.tmp 3), none⟩,
  ⟨(some 7), .ar .i64 .add (.tmp 6) (.const (.int .i64 1)), none⟩,
  ⟨(some 3), .mov (.tmp 7), none⟩]))))))
 (.seq (.draw [⟨(some 18), .idxA 3 1 (.tmp 1) (.const (.int .i64 0)), none⟩,
  ⟨(some 19), .load1 (.tmp 18), none⟩,
  ⟨(some 20), .ar .i64 .gtr (.tmp 19) (.const (.int .i64 0)), none⟩,
  ⟨(some 21), .mov (.tmp 20), none⟩,
  ⟨(some 22), .idxA 3 1 (.tmp 1) (.const (.int .i64 0)), (some (21, false))⟩,
  ⟨(some 23), .load1 (.tmp 22), (some (21, false))⟩,
  ⟨(some 24), .ar .i64 .eql (.tmp 23) (.const (.int .i64 0)), (some (21, false))⟩,
  ⟨(some 25), .mov (.tmp 24), (some (21, false))⟩,
  ⟨(some 26), .idxA 3 1 (.tmp 1) (.const (.int .i64 1)), (some (25, true))⟩,
  ⟨(some 27), .load1 (.tmp 26), (some (25, true))⟩,
  ⟨(some 28), .ar .i64 .gtr (.tmp 27) (.const (.int .i64 0)), (some (25, true))⟩,
  ⟨(some 29), .pick (.tmp 25) (.tmp 28) (.const (.bool false)), (some (21, false))⟩,
  ⟨(some 30), .pick (.tmp 21) (.const (.bool true)) (.tmp 29), none⟩,
  ⟨(some 31), .mov (.tmp 30), none⟩,
  ⟨(some 32), .idxA 3 1 (.tmp 1) (.const (.int .i64 0)), (some (31, true))⟩,
  ⟨(some 33), .load1 (.tmp 32), (some (31, true))⟩,
  ⟨(some 34), .idxA 3 1 (.tmp 1) (.const (.int .i64 1)), (some (31, true))⟩,
  ⟨(some 35), .load1 (.tmp 34), (some (31, true))⟩,
  ⟨(some 36), .call 9 [(.tmp 33), (.tmp 35)], (some (31, true))⟩,
  ⟨(some 37), .idxA 3 1 (.tmp 1) (.const (.int .i64 2)), (some (31, true))⟩,
  ⟨(some 38), .load1 (.tmp 37), (some (31, true))⟩,
  ⟨(some 39), .call 9 [(.tmp 36), (.tmp 38)], (some (31, true))⟩,
  ⟨(some 40), .ar .i64 .eql (.tmp 39) (.const (.int .i64 1)), (some (31, true))⟩,
  ⟨(some 41), .pick (.tmp 31) (.tmp 40) (.const (.bool false)), none⟩,
  ⟨(some 2), .mov (.tmp 41), none⟩]
  [⟨false, false, [false, false, false, false, false, false, false, false, false, false, false, false, false, false, false, false, false, false, false, false, false, false, false, false, false], [false, false, false, false, false, false, false, false, false, false, false, false, false, false, false, false, false, false, false, false, false, false, false, false, false]⟩,
  ⟨false, false, [false, false, false, false, false, false, false, false, false, false, false, false, false, false, false, false, false, false, false, false, false, false, false, false, false], [false, false, false, false, false, false, false, false, false, false, false, false, false, false, false, false, false, false, false, false, false, false, false, false, false]⟩,
  ⟨false, false, [false, false, false, false, false, false, false, false, false, false, false, false, false, false, false, false, false, false, false, false, false, false, false, false, false], [false, false, false, false, false, false, false, false, false, false, false, false, false, false, false, false, false, false, false, false, false, false, false, false, false]⟩,
  ⟨false, false, [false, false, false, false, false, false, false, false, false, false, false, false, false, false, false, false, false, false, false, false, false, false, false, false, false], [false, false, false, false, false, false, false, false, false, false, false, false, false, false, false, false, false, false, false, false, false, false, false, false, false]⟩,
  ⟨false, false, [false, false, false, false, false, false, false, false, false, false, false, false, false, false, false, false, false, false, false, false, false, false, false, false, false], [false, false, false, false, false, false, false, false, false, false, false, false, false, false, false, false, false, false, false, false, false, false, false, false, false]⟩,
  ⟨false, false, [false, false, false, false, false, false, false, false, false, false, false, false, false, false, false, false, false, false, false, false, false, false, false, false, false], [false, false, false, false, false, false, false, false, false, false, false, false, false, false, false, false, false, false, false, false, false, false, false, false, false]⟩,
  ⟨false, false, [false, false, false, false, false, false, false, false, false, false, false, false, false, false, false, false, false, false, false, false, false, false, false, false, false], [false, false, false, false, false, false, false, false, false, false, false, false, false, false, false, false, false, false, false, false, false, false, false, false, false]⟩,
  ⟨false, false, [false, false, false, false, false, false, false, false, false, false, false, false, false, false, false, false, false, false, false, false, false, false, false, false, false], [false, false, false, false, false, false, false, false, false, false, false, false, false, false, false, false, false, false, false, false, false, false, false, false, false]⟩,
  ⟨false, false, [false, false, false, false, false, false, false, false, false, false, false, false, false, false, false, false, false, false, false, false, false, false, false, false, false], [false, false, false, false, false, false, false, false, false, false, false, false, false, false, false, false, false, false, false, false, false, false, false, false, false]⟩,
  ⟨false, false, [false, false, false, false, false, false, false, false, false, false, false, false, false, false, false, false, false, false, false, false, false, false, false, false, false], [false, false, false, false, false, false, false, false, false, false, false, false, false, false, false, false, false, false, false, false, false, false, false, false, false]⟩,
  ⟨false, false, [false, false, false, false, false, false, false, false, false, false, false, false, false, false, false, false, false, false, false, false, false, false, false, false, false], [false, false, false, false, false, false, false, false, false, false, false, false, false, false, false, false, false, false, false, false, false, false, false, false, false]⟩,
  ⟨false, false, [false, false, false, false, false, false, false, false, false, false, false, false, false, false, false, false, false, false, false, false, false, false, false, false, false], [false, false, false, false, false, false, false, false, false, false, false, false, false, false, false, false, false, false, false, false, false, false, false, false, false]⟩,
  ⟨false, false, [false, false, false, false, false, false, false, false, false, false, false, false, false, false, false, false, false, false, false, false, false, false, false, false, false], [false, false, false, false, false, false, false, false, false, false, false, false, false, false, false, false, false, false, false, false, false, false, false, false, false]⟩,
  ⟨false, false, [false, false, false, false, false, false, false, false, false, false, false, false, false, false, false, false, false, false, false, false, false, false, false, false, false], [false, false, false, false, false, false, false, false, false, false, false, false, false, false, false, false, false, false, false, false, false, false, false, false, false]⟩,
  ⟨false, false, [false, false, false, false, false, false, false, false, false, false, false, false, false, false, false, false, false, false, false, false, false, false, false, false, false], [false, false, false, false, false, false, false, false, false, false, false, false, false, false, false, false, false, false, false, false, false, false, false, false, false]⟩,
  ⟨false, false, [false, false, false, false, false, false, false, false, false, false, false, false, false, false, false, false, false, false, false, false, false, false, false, false, false], [false, false, false, false, false, false, false, false, false, false, false, false, false, false, false, false, false, false, false, false, false, false, false, false, false]⟩,
  ⟨false, false, [false, false, false, false, false, false, false, false, false, false, false, false, false, false, false, false, false, false, false, false, false, false, false, false, false], [false, false, false, false, false, false, false, false, false, false, false, false, false, false, false, false, false, false, false, false, false, false, false, false, false]⟩,
  ⟨false, false, [false, false, false, false, false, false, false, false, false, false, false, false, false, false, false, false, false, false, false, false, false, false, false, false, false], [false, false, false, false, false, false, false, false, false, false, false, false, false, false, false, false, false, false, false, false, false, false, false, false, false]⟩,
  ⟨true, false, [false, false, false, false, false, false, false, false, false, false, false, false, false, false, false, false, false, false, false, false, false, false, false, false, false], [false, false, false, false, false, false, false, false, false, false, false, false, false, false, false, false, false, false, true, false, false, false, false, false, false]⟩,
  ⟨false, true, [false, false, false, false, false, false, false, false, false, false, false, false, false, false, false, false, false, false, false, false, false, false, false, false, false], [false, false, false, false, false, false, false, false, false, false, false, false, false, false, false, false, false, false, true, false, false, false, false, false, false]⟩,
  ⟨false, true, [false, false, false, false, false, false, false, false, false, false, false, false, false, false, false, false, false, false, false, false, false, false, false, false, false], [false, false, false, false, false, false, false, false, false, false, false, false, false, false, false, false, false, false, true, false, false, false, false, false, false]⟩,
  ⟨true, false, [false, false, false, false, false, false, false, false, false, false, false, false, false, false, false, false, false, false, true, false, false, false, false, false, false], [false, false, false, false, false, false, false, false, false, false, false, false, false, false, false, false, false, false, true, false, false, true, false, false, false]⟩,
  ⟨false, false, [false, false, false, false, false, false, false, false, false, false, false, false, false, false, false, false, false, false, true, false, false, true, false, false, false], [false, false, false, false, false, false, false, false, false, false, false, false, false, false, false, false, false, false, true, false, false, true, false, false, false]⟩,
  ⟨false, false, [false, false, false, false, false, false, false, false, false, false, false, false, false, false, false, false, false, false, true, false, false, true, false, false, false], [false, false, false, false, false, false, false, false, false, false, false, false, false, false, false, false, false, false, true, false, false, true, false, false, false]⟩,
  ⟨false, false, [false, false, false, false, false, false, false, false, false, false, false, false, false, false, false, false, false, false, true, false, false, true, false, false, false], [false, false, false, false, false, false, false, false, false, false, false, false, false, false, false, false, false, false, true, false, false, true, false, false, false]⟩])
 .ret)))
theorem enter10 {xs : List Value} {h : Hp} {Q : Value → Hp → Prop} (hl : xs.length ≤ 42) (w : wq E 42 none c10 (frameOf xs) h [] (leaveQ E [.tmp 2] Q)) : CallP E 10 xs h Q :=
  CallP.enterQ (fn := Try.f10) (fn_get Try.func10) (code := Try.f10.body.get rfl) rfl rfl rfl (by kernel_rfl) rfl (fun _ => rfl) hl w
theorem can10 : callable E 10 = true := callable_get Try.func10 rfl rfl

/-- tosher/lines.lowest[int] -/
def c19 : C := (.seq (.ops [⟨(some 2), .mov (.const (.slice none 0 0)), none⟩])
 (.seq (.ops [⟨(some 7), .mov (.tmp 0), none⟩,
  ⟨(some 8), .call 32 [(.tmp 7)], none⟩,
  ⟨(some 3), .mov (.tmp 8), none⟩])
 (.seq (.ops [⟨(some 9), .mov (.tmp 0), none⟩,
  ⟨(some 10), .lenS (.tmp 9), none⟩,
  ⟨(some 11), .make 3 [(.int .i64 0)] 8 (.tmp 10) (.tmp 10), none⟩,
  ⟨(some 4), .mov (.tmp 11), none⟩])
 (.seq (.seq (.ops [⟨(some 12), .mov (.tmp 0), none⟩,
  ⟨(some 13), .lenS (.tmp 12), none⟩,
  ⟨(some 14), .mov (.const (.int .i64 0)), none⟩])
 (.block 0 (.loop (.seq (.ops [⟨(some 15), .ar .i64 .lss (.tmp 14) (.tmp 13), none⟩])
 (.seq (.cond (.tmp 15) .skip
 (.exit 0))
 (.seq (.block 1 (.seq (.ops [⟨(some 16), .mov (.tmp 14), none⟩,
  ⟨(some 17), .idxS 1 (.tmp 12) (.tmp 14), none⟩,
  ⟨(some 18), .load1 (.tmp 17), none⟩,
  ⟨(some 5), .mov (.tmp 16), none⟩,
  ⟨(some 6), .mov (.tmp 18), none⟩])
 (.ops [⟨(some 19), .mov (.tmp 4), none⟩,
  ⟨(some 20), .mov (.tmp 5), none⟩,
  ⟨(some 21), .mov (.tmp 6), none⟩,
  ⟨(some 22), .mov (.tmp 3), none⟩,
  ⟨(some 23), .ar .i64 .quo (.tmp 21) (.tmp 22), none⟩,
  ⟨(some 24), .idxS 1 (.tmp 19) (.tmp 20), none⟩,
  ⟨none, .store 1 (.tmp 24) (.tmp 23), none⟩])))
 (.ops [⟨(some 25), .ar .i64 .add (.tmp 14) (.const (.int .i64 1)), none⟩,
  ⟨(some 14), .mov (.tmp 25), none⟩])))))))
 (.seq (.ops [⟨(some 26), .mov (.tmp 4), none⟩,
  ⟨(some 2), .mov (.tmp 26), none⟩])
 .ret)))))
theorem enter19 {xs : List Value} {h : Hp} {Q : Value → Hp → Prop} (hl : xs.length ≤ 27) (w : wq E 27 none c19 (frameOf xs) h [] (leaveQ E [.tmp 2] Q)) : CallP E 19 xs h Q :=
  CallP.enterQ (fn := Try.f19) (fn_get Try.func19) (code := Try.f19.body.get rfl) rfl rfl rfl (by kernel_rfl) rfl (fun _ => rfl) hl w
theorem can19 : callable E 19 = true := callable_get Try.func19 rfl rfl

/-- tosher/lines.divisor[int] -/
def c32 : C := (.seq (.ops [⟨(some 2), .mov (.const (.int .i64 0)), none⟩])
 (.seq (.ops [⟨(some 3), .mov (.const (.int .i64 0)), none⟩])
 (.seq (.seq (.ops [⟨(some 6), .mov (.tmp 0), none⟩,
  ⟨(some 7), .lenS (.tmp 6), none⟩,
  ⟨(some 8), .mov (.const (.int .i64 0)), none⟩])
 (.block 0 (.loop (.seq (.ops [⟨(some 9), .ar .i64 .lss (.tmp 8) (.tmp 7), none⟩])
 (.seq (.cond (.tmp 9) .skip
 (.exit 0))
 (.seq (.block 1 (.seq (.ops [⟨(some 10), .idxS 1 (.tmp 6) (.tmp 8), none⟩,
  ⟨(some 11), .load1 (.tmp 10), none⟩,
  ⟨(some 5), .mov (.tmp 11), none⟩])
 (.block 2 (.loop (.seq (.seq (.ops [⟨(some 12), .mov (.tmp 5), none⟩,
  ⟨(some 13), .ar .i64 .neq (.tmp 12) (.const (.int .i64 0)), none⟩])
 (.cond (.tmp 13) .skip
 (.exit 2)))
 (.block 3 (.ops [⟨(some 14), .mov (.tmp 5), none⟩,
  ⟨(some 15), .mov (.tmp 3), none⟩,
  ⟨(some 16), .mov (.tmp 5), none⟩,
  ⟨(some 17), .ar .i64 .rem (.tmp 15) (.tmp 16), none⟩,
  ⟨(some 3), .mov (.tmp 14), none⟩,
  ⟨(some 5), .mov (.tmp 17), none⟩])))))))
 (.ops [⟨(some 18), .ar .i64 .add (.tmp 8) (.const (.int .i64 1)), none⟩,
  ⟨(some 8), .mov (.tmp 18), none⟩])))))))
 (.seq (.ops [⟨(some 19), .mov (.tmp 3), none⟩,
  ⟨(some 20), .mov (.tmp 3), none⟩,
  ⟨(some 21), .raw (.unOp .neg 3 (.tmp 20)) 3, none⟩,
  ⟨(some 22), .raw (.call ⟨.builtin .max, ⟨[(.tmp 19), (.tmp 21)]⟩, ⟨[3, 3]⟩⟩) 3, none⟩,
  ⟨(some 2), .mov (.tmp 22), none⟩])
 .ret))))
theorem enter32 {xs : List Value} {h : Hp} {Q : Value → Hp → Prop} (hl : xs.length ≤ 23) (w : wq E 23 none c32 (frameOf xs) h [] (leaveQ E [.tmp 2] Q)) : CallP E 32 xs h Q :=
  CallP.enterQ (fn := Try.f32) (fn_get Try.func32) (code := Try.f32.body.get rfl) rfl rfl rfl (by kernel_rfl) rfl (fun _ => rfl) hl w
theorem can32 : callable E 32 = true := callable_get Try.func32 rfl rfl
end
end Go.Proofs.Ytfiginefkfipeaa
